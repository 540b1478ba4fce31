/- Walk of the document's Decode: the loop. -/
import Derived.Test.YtfddkkkkehbecaaDoorDecRef
import Derived.Test.YtfddkkkkehbecaaDoorReg
namespace Go.Proofs.YtfddkkkkehbecaaDoor
open Go.RowKit

theorem at_int (l : List UInt8) (x : Int) (w : World) (hl : l.length ≤ 33554432) (h0 : 0 ≤ x) (h1 : x ≤ 1099511627776) :
    Calls Tryd.prog 104 #[.string (bstr l), .int .i64 x] w fun e w' => e = .returned (.int .i64 (atD l x.toNat)) ∧ w' = w := by
  have := at_any l x.toNat w hl (by omega)
  rwa [show ((x.toNat : Nat) : Int) = x by omega] at this
theorem part_int (l : List UInt8) (x n : Int) (w : World) (hl : l.length ≤ 33554432) (h0 : 0 ≤ x) (h1 : x ≤ 1099511627776) (h2 : 0 ≤ n) (h3 : n ≤ 1099511627776) :
    Calls Tryd.prog 105 #[.string (bstr l), .int .i64 x, .int .i64 n] w fun e w' => e = .returned (.string (bstr ((l.drop x.toNat).take n.toNat))) ∧ w' = w := by
  have := part_any l x.toNat n.toNat w hl (by omega) (by omega)
  rwa [show ((x.toNat : Nat) : Int) = x by omega, show ((n.toNat : Nat) : Int) = n by omega] at this

theorem rf_at (l : List UInt8) (i K M : Nat) (hK : atD l (i + 1) = K) (hM : atD l (i + 4 + K) = M) :
    rfAtom (l.drop i) = ⟨atD l i, bstr ((l.drop (i + 2)).take K), atD l (i + 2 + K), atD l (i + 3 + K), bstr ((l.drop (i + 5 + K)).take M), (((atD l (i + 5 + K + M) : Int) * 256 + atD l (i + 5 + K + M + 1)) * 256 + atD l (i + 5 + K + M + 2)) * 256 + atD l (i + 5 + K + M + 3)⟩ ∧ rfNext (l.drop i) = 9 + K + M := by
  have e1 : rfKey (l.drop i) = K := by unfold rfKey; rw [atD_drop, hK]
  have e2 : rfElem (l.drop i) = M := by unfold rfElem; rw [e1, atD_drop, ← Nat.add_assoc, hM]
  have e3 : rfEnd (l.drop i) = 5 + K + M := by unfold rfEnd; rw [e1, e2]
  constructor
  · unfold rfAtom
    simp only [e1, e2, e3, atD_drop, List.drop_drop, Nat.add_zero, ← Nat.add_assoc]
    congr 1
  · unfold rfNext
    rw [e3]
    omega

set_option maxRecDepth 100000 in
set_option maxHeartbeats 4000000 in
theorem refDecode_any (l : List UInt8) (w : World) (hl : l.length ≤ 33554432) :
    Calls Tryd.prog 64 #[.string (bstr l)] w fun e w' => ((∃ t v, Good l t ∧ e = .returned (.tuple #[v, .int .i64 0]) ∧ w'.ownsRow w.heap.size 52 6 v t.length (flat t)) ∨ ((∀ t, ¬ Good l t) ∧ e = .returned (.tuple #[.slice none 0 0, .int .i64 3]))) ∧ Below w.heap.size w w' := by
  obtain ⟨i0, hi, hz0, hz1, hz2⟩ := info_parts infoAtom
  have hfa := rfs_facts (l.drop 8)
  have hsz := bstr_size l
  have HAT : Hid (∀ (W : World) (x : Int), 0 ≤ x → x ≤ 1099511627776 → Calls Tryd.prog 104 #[.string (bstr l), .int .i64 x] W fun e w' => e = .returned (.int .i64 (atD l x.toNat)) ∧ w' = W) := fun W x h h' => at_int l x W hl h h'
  have HPT : Hid (∀ (W : World) (x n : Int), 0 ≤ x → x ≤ 1099511627776 → 0 ≤ n → n ≤ 1099511627776 → Calls Tryd.prog 105 #[.string (bstr l), .int .i64 x, .int .i64 n] W fun e w' => e = .returned (.string (bstr ((l.drop x.toNat).take n.toNat))) ∧ w' = W) := fun W x n h h' h'' h3 => part_int l x n W hl h h' h'' h3
  go_enter Tryd.func64, Tryd.ntmps64
  go_wp2
  go_loopw [4, 5] (fun v j wr => ∃ (i : Nat) (done : List At), j = .int .i64 i ∧ i ≤ 33555432 ∧ wr.ownsRow w.heap.size 52 6 v done.length (flat done) ∧ Hid (done ++ rfs (l.drop i) = rfs (l.drop 8)) ∧ Below w.heap.size w wr) (fun _ j _ => l.length - (intOf j).toNat)
  case atStart => exact ⟨8, [], rfl, by omega, by simp [flat, World.ownsRow], rfl, Below.refl _ _⟩
  case round =>
    obtain ⟨i, done, rfl, hib, hown, hE, hbr⟩ := hrel
    by_cases hil : i < l.length
    · have hne : l.drop i ≠ [] := fun e => by have := congrArg List.length e; simp at this; omega
      have hpc := rfs_cons _ hne
      have hdl : done.length ≤ 4194304 := by
        have := congrArg List.length hE.out
        rw [List.length_append] at this
        have := hfa.1
        rw [List.length_drop] at this
        omega
      have k1 := atD_lt l (i + 1)
      obtain ⟨M, hM⟩ : ∃ M, atD l (i + 4 + atD l (i + 1)) = M := ⟨_, rfl⟩
      have k2 := atD_lt l (i + 4 + atD l (i + 1))
      have k3 := atD_lt l (i + 5 + atD l (i + 1) + atD l (i + 4 + atD l (i + 1)))
      have k4 := atD_lt l (i + 5 + atD l (i + 1) + atD l (i + 4 + atD l (i + 1)) + 1)
      have k5 := atD_lt l (i + 5 + atD l (i + 1) + atD l (i + 4 + atD l (i + 1)) + 2)
      have k6 := atD_lt l (i + 5 + atD l (i + 1) + atD l (i + 4 + atD l (i + 1)) + 3)
      rw [hM] at k2 k3 k4 k5 k6
      go_wp2_with fail
      refine calls_of_args (rfl : _ = #[Value.string (bstr l), Value.int IntKind.i64 _]) (HAT.out _ _ (by omega) (by omega)) ?_
      rintro e wN ⟨rfl, hwN⟩
      subst hwN
      rw [show ((i : Int) + 1).toNat = i + 1 by omega]
      have HRF : Hid (rfAtom (l.drop i) = _ ∧ _) := rf_at l i _ M rfl hM
      generalize atD l (i + 1) = K at *
      obtain ⟨hra, hrn⟩ := HRF.out
      obtain ⟨a, ha⟩ : ∃ a : At, a = ⟨atD l i, bstr ((l.drop (i + 2)).take K), atD l (i + 2 + K), atD l (i + 3 + K), bstr ((l.drop (i + 5 + K)).take M), (((atD l (i + 5 + K + M) : Int) * 256 + atD l (i + 5 + K + M + 1)) * 256 + atD l (i + 5 + K + M + 2)) * 256 + atD l (i + 5 + K + M + 3)⟩ := ⟨_, rfl⟩
      have HE2 : Hid ((done ++ [a]) ++ rfs (l.drop (i + 5 + K + M + 4)) = rfs (l.drop 8)) := by
        have := hE.out
        rw [hpc, hra, hrn, ← ha, List.drop_drop, show i + (9 + K + M) = i + 5 + K + M + 4 by omega] at this
        rw [Hid, List.append_assoc]
        exact this
      have HNEWS : Hid (∀ W : World, ∀ j u, (enc a)[j]? = some u → ((W.alloc (.cells #[.int .i64 (atD l i), .string (bstr ((l.drop (i + 2)).take K)), .int .i64 (atD l (i + 2 + K)), .int .i64 (atD l (i + 3 + K)), .string (bstr ((l.drop (i + 5 + K)).take M)), .int .i64 ((((atD l (i + 5 + K + M) : Int) * 256 + atD l (i + 5 + K + M + 1)) * 256 + atD l (i + 5 + K + M + 2)) * 256 + atD l (i + 5 + K + M + 3))] 52)).alloc (.cells #[.int .i64 (atD l i), .string (bstr ((l.drop (i + 2)).take K)), .int .i64 (atD l (i + 2 + K)), .int .i64 (atD l (i + 3 + K)), .string (bstr ((l.drop (i + 5 + K)).take M)), .int .i64 ((((atD l (i + 5 + K + M) : Int) * 256 + atD l (i + 5 + K + M + 1)) * 256 + atD l (i + 5 + K + M + 2)) * 256 + atD l (i + 5 + K + M + 3))] 52)).cell? ((⟨W.heap.size + 1, 0, none⟩ : Addr).add j) = some u) := by
        intro W j u hu
        rw [ha] at hu
        have := World.news_of_block (heap_alloc_new (W.alloc (.cells #[.int .i64 (atD l i), .string (bstr ((l.drop (i + 2)).take K)), .int .i64 (atD l (i + 2 + K)), .int .i64 (atD l (i + 3 + K)), .string (bstr ((l.drop (i + 5 + K)).take M)), .int .i64 ((((atD l (i + 5 + K + M) : Int) * 256 + atD l (i + 5 + K + M + 1)) * 256 + atD l (i + 5 + K + M + 2)) * 256 + atD l (i + 5 + K + M + 3))] 52)) (.cells #[.int .i64 (atD l i), .string (bstr ((l.drop (i + 2)).take K)), .int .i64 (atD l (i + 2 + K)), .int .i64 (atD l (i + 3 + K)), .string (bstr ((l.drop (i + 5 + K)).take M)), .int .i64 ((((atD l (i + 5 + K + M) : Int) * 256 + atD l (i + 5 + K + M + 1)) * 256 + atD l (i + 5 + K + M + 2)) * 256 + atD l (i + 5 + K + M + 3))] 52)) j u hu
        simpa using this
      have hszb := hbr.size
      have HF : Hid (flat (done ++ [a]) = flat done ++ enc a) := flat_snoc done a
      clear ha hpc hra hrn HRF
      go_wp2_with (first | (go_at_call 104; refine calls_of_args (rfl : _ = #[Value.string (bstr l), Value.int IntKind.i64 _]) (HAT.out _ _ ?_ ?_) ?_; omega; omega; rintro e wN ⟨rfl, hwN⟩; subst hwN) | (go_at_call 105; refine calls_of_args (rfl : _ = #[Value.string (bstr l), Value.int IntKind.i64 _, Value.int IntKind.i64 _]) (HPT.out _ _ _ ?_ ?_ ?_ ?_) ?_; omega; omega; omega; omega; rintro e wN ⟨rfl, hwN⟩; subst hwN) | (at_builtin; refine wpList_append_lies _ rfl _ _ 22 rfl w.heap.size 52 i0 _ 6 64 Tryd.underlying22 hi hz0 hz1 hz2 rfl (by decide) _ done.length _ rfl ((hown.alloc _).alloc _) ⟨wN.heap.size + 1, 0, none⟩ 1 1 (enc a) rfl rfl (HNEWS.out wN) (enc_oneCell a) (by decide) (by unfold maxLen; omega) (by omega) (by simp; omega) (wN.heap.size + 1 + 1) (by simp) ?_; intro g capn w3 hown3 hgrow3 hat3 hlt3) | fail)
      go_roundw
      case rel => exact ⟨i + 5 + K + M + 4, done ++ [a], by go_num, by omega, by rw [HF.out, List.length_append]; exact hown3, HE2, (below_alloc (below_alloc hbr _) _).grown hgrow3 (by simp; have := hbr.size; omega) (fun q hq => owns_base hown q hq)⟩
      case measure => simp [intOf]; omega
    · have hrz : rfs (l.drop i) = [] := by rw [List.drop_of_length_le (by omega)]; rfl
      have hEE := hE.out
      rw [hrz, List.append_nil] at hEE
      have HGT : Hid (∀ t, Good l t → t = done) := fun t h => by rw [← h.rfs, hEE]
      have HSH : Hid (∀ a ∈ done, short a) := by rw [Hid, hEE]; exact hfa.2
      have hdl : done.length ≤ 4194304 := by
        have := hfa.1
        rw [← hEE, List.length_drop] at this
        omega
      have HS : Hid (SliceOf wr u4 done) := sliceOf_owns rfl hown
      clear hrz hEE hE hfa HAT HPT hown
      cases hall : done.all mayB
      · have hce := refEncode_no u4 done wr HS.out HSH.out (by omega) hall
        have HNG : Hid (∀ t, ¬ Good l t) := fun t h => by
          obtain rfl := HGT.out t h
          rw [List.all_eq_true.2 h.2.1] at hall
          cases hall
        clear hall
        go_wp2_with fail
        refine hce.mono ?_
        rintro e w2 ⟨rfl, hb2⟩
        have hbw2 : Below w.heap.size w w2 := hbr.trans (hb2.mono hbr.size)
        clear hce hb2
        generalize bstr [] = e0 at *
        generalize bstr l = sl at *
        go_wp2
        all_goals go_ret2
        all_goals exact ⟨.inr ⟨HNG.out, rfl⟩, hbw2⟩
      · have hce := refEncode_yes u4 done wr HS.out HSH.out (by omega) hall
        have HA : Hid (∀ a ∈ done, mayB a = true) := List.all_eq_true.1 hall
        clear hall
        go_wp2_with fail
        refine hce.mono ?_
        rintro e w2 ⟨out, rfl, ht, hb2⟩
        have hbw2 : Below w.heap.size w w2 := hbr.trans (hb2.mono hbr.size)
        by_cases heq : be out.length 8 ++ encL out = l
        · have HG : Hid (Good l out) := good_of HA.out ht.out heq.symm
          have hct := told_any u4 done w2 (HS.out.below hb2) (fun a ha => fits_of_may (HA.out a ha)) (by omega)
          rw [heq]
          clear hce hb2 heq
          generalize bstr l = sl at *
          go_wp2_with fail
          refine hct.mono ?_
          rintro e w3 ⟨v3, out3, rfl, hown3, ht3, hb3⟩
          have e3 : out3 = out := ht3.out.unique HA.out ht.out
          subst e3
          have hbw3 : Below w.heap.size w w3 := hbw2.trans (hb3.mono hbw2.size)
          have hfin := owns_mono hown3 hbw2.size
          clear hct hb3 hown3
          go_wp2
          go_ret2
          exact ⟨.inl ⟨out3, v3, HG.out, rfl, hfin⟩, hbw3⟩
        · have hne2 := str_ne (a := bstr (be out.length 8 ++ encL out)) (b := bstr l) (fun e => heq (by have := congrArg (fun s => s.data.toList) e; exact this))
          have HNG : Hid (∀ t, ¬ Good l t) := fun t h => by
            obtain rfl := HGT.out t h
            have := ht.out.unique HA.out h.1
            subst this
            exact heq h.2.2.symm
          clear hce hb2 heq
          generalize bstr (be out.length 8 ++ encL out) = e0 at *
          generalize bstr l = sl at *
          go_wp2
          go_ret2
          exact ⟨.inr ⟨HNG.out, rfl⟩, hbw2⟩

theorem refDecode_ok (l : List UInt8) (t : List At) (w : World) (hg : Good l t) (hl : l.length ≤ 33554432) :
    Calls Tryd.prog 64 #[.string (bstr l)] w fun e w' => ∃ v, e = .returned (.tuple #[v, .int .i64 0]) ∧ w'.ownsRow w.heap.size 52 6 v t.length (flat t) ∧ Below w.heap.size w w' := by
  refine (refDecode_any l w hl).mono ?_
  rintro e w' ⟨⟨t', v, h, he, ho⟩ | ⟨h, _⟩, hb⟩
  · obtain rfl := h.unique hg
    exact ⟨v, he, ho, hb⟩
  · exact absurd hg (h t)
theorem refDecode_bad (l : List UInt8) (w : World) (hg : ∀ t, ¬ Good l t) (hl : l.length ≤ 33554432) :
    Calls Tryd.prog 64 #[.string (bstr l)] w fun e w' => e = .returned (.tuple #[.slice none 0 0, .int .i64 3]) ∧ Below w.heap.size w w' := by
  refine (refDecode_any l w hl).mono ?_
  rintro e w' ⟨⟨t', v, h, he, ho⟩ | ⟨h, he⟩, hb⟩
  · exact absurd h (hg t')
  · exact ⟨he, hb⟩
end Go.Proofs.YtfddkkkkehbecaaDoor
