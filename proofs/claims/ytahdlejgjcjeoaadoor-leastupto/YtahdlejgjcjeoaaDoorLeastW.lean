/- Walk of the law Least. -/
import Derived.Test.YtahdlejgjcjeoaaDoorRights2
import Derived.Test.YtahdlejgjcjeoaaDoorKnows
import Derived.Test.YtahdlejgjcjeoaaDoorBelowL
namespace Go.Proofs.YtahdlejgjcjeoaaDoor
open Go.RowKit

/-- All but one. -/
def sans (d : List At) (i k : Nat) : List At := (d.take k).eraseIdx i
theorem sans_skip (d : List At) (i : Nat) (hi : i < d.length) : sans d i (i + 1) = sans d i i := by
  unfold sans
  have e : (d.take i).length = i := by rw [List.length_take]; omega
  rw [List.take_succ_eq_append_getElem hi, List.eraseIdx_append_of_length_le (by omega), e, Nat.sub_self, List.eraseIdx_of_length_le (l := d.take i) (by omega)]
  simp
theorem sans_take (d : List At) (i k : Nat) (hk : k < d.length) (hne : k ≠ i) : sans d i (k + 1) = sans d i k ++ [nth d k] := by
  unfold sans
  rw [List.take_succ_eq_append_getElem hk, nth_eq d k hk]
  by_cases h : i < k
  · rw [List.eraseIdx_append_of_lt_length (by simp; omega)]
  · rw [List.eraseIdx_append_of_length_le (by simp; omega), List.eraseIdx_of_length_le (l := d.take k) (by simp; omega), List.eraseIdx_of_length_le (by simp; omega)]
theorem sans_all (d : List At) (i : Nat) : sans d i d.length = d.take i ++ d.drop (i + 1) := by
  unfold sans
  rw [List.take_length, List.eraseIdx_eq_take_drop_succ]
theorem sans_length (d : List At) (i k : Nat) : (sans d i k).length ≤ d.length := by
  unfold sans
  have h1 := List.length_eraseIdx_le (d.take k) i
  rw [List.length_take] at h1
  omega
theorem sans_mem {d : List At} {i k : Nat} {x : At} (h : x ∈ sans d i k) : x ∈ d := List.mem_of_mem_take (List.mem_of_mem_eraseIdx h)


set_option maxRecDepth 100000 in
set_option maxHeartbeats 8000000 in
theorem least_walk (va vb vc : Value) (a b c : List At) (w : World) (hr : RulesAt w) (h1 : SliceOf w va a) (h2 : SliceOf w vb b) (h3 : SliceOf w vc c)
    (sa : ∀ x ∈ a, short x) (sb : ∀ x ∈ b, short x) (sc : ∀ x ∈ c, short x) (wa : ∀ x ∈ a, wide x) (wb : ∀ x ∈ b, wide x) (wc : ∀ x ∈ c, wide x)
    (la : a.length ≤ 1048576) (lb : b.length ≤ 1048576) (lc : c.length ≤ 1048576) :
    Calls Tryd.prog 8 #[va, vb, vc] w fun e w' => e = .returned (.bool true) ∧ Below w.heap.size w w' := by
  obtain ⟨i0, hi0, hz0, hz1, hz2⟩ := info_parts infoAtom
  have HR : Hid (RulesAt w) := hr
  have hc1 := rights_any va a w h1 sa wa (by omega)
  have HC2 : Hid (∀ W, Below w.heap.size w W → Calls Tryd.prog 25 #[vb] W fun e w' => ∃ v' R, e = .returned v' ∧ w'.ownsRow W.heap.size 52 6 v' R.length (flat R) ∧ Hid (∀ a ∈ R, mayB a = true) ∧ R.length = b.length ∧ Below W.heap.size W w') := fun W hW => rights_any vb b W (h2.below hW) sb wb (by omega)
  have HC3 : Hid (∀ W, Below w.heap.size w W → Calls Tryd.prog 25 #[vc] W fun e w' => ∃ v' R, e = .returned v' ∧ w'.ownsRow W.heap.size 52 6 v' R.length (flat R) ∧ Hid (∀ a ∈ R, mayB a = true) ∧ R.length = c.length ∧ Below W.heap.size W w') := fun W hW => rights_any vc c W (h3.below hW) sc wc (by omega)
  clear hr h1 h2 h3 sa sb sc wa wb wc
  go_enter Tryd.func8, Tryd.ntmps8
  go_wp2_with fail
  refine hc1.mono ?_
  rintro e w1 ⟨vA, A, rfl, hoA, hA, hAl, hb1⟩
  have SA : Hid (SliceOf w1 vA A) := sliceOf_owns rfl hoA
  clear hc1 hoA
  go_wp2_with fail
  refine (HC2.out w1 hb1).mono ?_
  rintro e w2 ⟨vB, B, rfl, hoB, hB, hBl, hb2⟩
  have hbw2 : Below w.heap.size w w2 := hb1.trans (hb2.mono hb1.size)
  have SA2 : Hid (SliceOf w2 vA A) := SA.out.below hb2
  have SB2 : Hid (SliceOf w2 vB B) := sliceOf_owns rfl hoB
  clear HC2 hoB SA hb1 hb2
  go_wp2_with fail
  refine (HC3.out w2 hbw2).mono ?_
  rintro e w3 ⟨vC, C, rfl, hoC, hC, hCl, hb3⟩
  have hbw3 : Below w.heap.size w w3 := hbw2.trans (hb3.mono hbw2.size)
  have SA3 : Hid (SliceOf w3 vA A) := SA2.out.below hb3
  have SB3 : Hid (SliceOf w3 vB B) := SB2.out.below hb3
  have SC3 : Hid (SliceOf w3 vC C) := sliceOf_owns rfl hoC
  have HAB : Hid (∀ x ∈ A ++ B, mayB x = true) := fun x hx => by
    rcases List.mem_append.1 hx with h | h
    · exact hA.out x h
    · exact hB.out x h
  have hc4 := latDelta_yes vA vB A B w3 (HR.out.below hbw3 HR.out.1) SA3.out SB3.out (fun x hx => short_of_may (hA.out x hx)) (fun x hx => short_of_may (hB.out x hx)) (by omega) (by omega) (List.all_eq_true.2 hA.out) (List.all_eq_true.2 hB.out)
  clear HC3 hoC SA2 SB2 hbw2 hb3
  go_wp2_with fail
  refine hc4.mono ?_
  rintro e w4 ⟨vD, D, rfl, hoD, hD, hb4⟩
  have hbw4 : Below w.heap.size w w4 := hbw3.trans (hb4.mono hbw3.size)
  have SA4 : Hid (SliceOf w4 vA A) := SA3.out.below hb4
  have SB4 : Hid (SliceOf w4 vB B) := SB3.out.below hb4
  have SC4 : Hid (SliceOf w4 vC C) := SC3.out.below hb4
  have SD4 : Hid (SliceOf w4 vD D) := sliceOf_owns rfl hoD
  have hDl := hD.out.length
  have HMD : Hid (∀ x ∈ D, mayB x = true) := fun x hx => hA.out x ((hD.out.mem x).1 hx).1
  have hc5 := join_any vA vB A B w4 (HR.out.below hbw4 HR.out.1) SA4.out SB4.out hA.out hB.out (by omega) (by omega)
  clear hc4 hoD SA3 SB3 SC3 hbw3 hb4
  go_wp2_with fail
  refine hc5.mono ?_
  rintro e w5 ⟨vW, W, rfl, hoW, hW, hb5⟩
  have hbw5 : Below w.heap.size w w5 := hbw4.trans (hb5.mono hbw4.size)
  have SB5 : Hid (SliceOf w5 vB B) := SB4.out.below hb5
  have SC5 : Hid (SliceOf w5 vC C) := SC4.out.below hb5
  have SD5 : Hid (SliceOf w5 vD D) := SD4.out.below hb5
  have SW5 : Hid (SliceOf w5 vW W) := sliceOf_owns rfl hoW
  have hWl : W.length ≤ A.length + B.length := by
    have := length_le_of_sub (sorted_ne hW.out.sorted) (fun x hx => (hW.out.great x hx).1)
    simpa using this
  have hc6 := join_any vD vB D B w5 (HR.out.below hbw5 HR.out.1) SD5.out SB5.out HMD.out hB.out (by omega) (by omega)
  clear hc5 hoW SA4 SB4 SC4 SD4 hbw4 hb5
  go_wp2_with fail
  refine hc6.mono ?_
  rintro e w6 ⟨vG, G, rfl, hoG, hG, hb6⟩
  have HDB : Hid (∀ x ∈ D ++ B, mayB x = true) := fun x hx => by
    rcases List.mem_append.1 hx with h | h
    · exact HMD.out x h
    · exact hB.out x h
  have eG : G = W := hG.out.unique HDB.out (news_joins HAB.out hD.out hW.out)
  subst eG
  have hbw6 : Below w.heap.size w w6 := hbw5.trans (hb6.mono hbw5.size)
  have SB6 : Hid (SliceOf w6 vB B) := SB5.out.below hb6
  have SC6 : Hid (SliceOf w6 vC C) := SC5.out.below hb6
  have SD6 : Hid (SliceOf w6 vD D) := SD5.out.below hb6
  have SW6 : Hid (SliceOf w6 vW G) := SW5.out.below hb6
  have SG6 : Hid (SliceOf w6 vG G) := sliceOf_owns rfl hoG
  have hc7 := sameAtoms_any vG vW G w6 SG6.out SW6.out (by omega)
  clear hc6 hoG SB5 SC5 SD5 SW5 hbw5 hb6 hG
  go_wp2_with fail
  refine hc7.mono ?_
  rintro e w7 ⟨rfl, hb7⟩
  have hbw7 : Below w.heap.size w w7 := hbw6.trans (hb7.mono hbw6.size)
  have SB7 : Hid (SliceOf w7 vB B) := SB6.out.below hb7
  have SC7 : Hid (SliceOf w7 vC C) := SC6.out.below hb7
  have SD7 : Hid (SliceOf w7 vD D) := SD6.out.below hb7
  have SW7 : Hid (SliceOf w7 vW G) := SW6.out.below hb7
  obtain ⟨adD, capD, rfl, hcapD, -⟩ := SD7.out
  clear hc7 SB6 SC6 SD6 SW6 SG6 hbw6 hb7
  go_wp2
  go_loopw [14] (fun j wr => ∃ i : Nat, i ≤ D.length ∧ j = .int .i64 i ∧ Below w7.heap.size w7 wr) (fun j _ => D.length - (intOf j).toNat)
  case atStart => exact ⟨0, Nat.zero_le _, rfl, Below.refl _ _⟩
  case round =>
    obtain ⟨i, hi, rfl, hbx⟩ := hrel
    by_cases hil : i < D.length
    · go_wp2
      go_loopw [15, 16] (fun v j w' => ∃ k : Nat, k ≤ D.length ∧ j = .int .i64 k ∧ w'.ownsRow w7.heap.size 52 6 v (sans D i k).length (flat (sans D i k)) ∧ Below w7.heap.size w7 w') (fun _ j _ => D.length - (intOf j).toNat)
      case atStart => exact ⟨0, Nat.zero_le _, rfl, by simp [sans, flat, World.ownsRow], hbx⟩
      case round =>
        obtain ⟨k, hk, rfl, hown, hby⟩ := hrel
        by_cases hkl : k < D.length
        · by_cases hki : k = i
          · subst hki
            have hown2 : wr.ownsRow w7.heap.size 52 6 u15 (sans D k (k + 1)).length (flat (sans D k (k + 1))) := by rw [sans_skip D k hil]; exact hown
            have HO2 : Hid (wr.ownsRow w7.heap.size 52 6 u15 (sans D k (k + 1)).length (flat (sans D k (k + 1)))) := hown2
            clear hown hown2
            go_wp2
            exact ⟨⟨k + 1, by omega, by go_num, HO2.out, hby⟩, by simp [intOf]; omega⟩
          · obtain ⟨ad', cap', e', -, HS⟩ := SD7.out.below hby
            cases e'
            obtain ⟨bd, offd, rfl, hbd, hrow⟩ := HS (by omega)
            obtain ⟨c0, c1, c2, c3, c4, c5⟩ := hrow.nth hkl
            have hst := sans_take D i k hkl hki
            have hsl := sans_length D i k
            have hszb := hby.size
            generalize nth D k = x at *
            have HF : Hid (flat (sans D i (k + 1)) = flat (sans D i k) ++ enc x) := by rw [Hid, hst]; exact flat_snoc _ x
            have HL : Hid ((sans D i (k + 1)).length = (sans D i k).length + 1) := by rw [Hid, hst]; simp
            clear hrow HS hst
            go_wp2_with (at_builtin; refine wpList_append_lies _ rfl _ _ 22 rfl w7.heap.size 52 i0 _ 6 64 Tryd.underlying22 hi0 hz0 hz1 hz2 rfl (by decide) _ (sans D i k).length _ rfl (hown.alloc _) ⟨wr.heap.size, 0, none⟩ 1 1 (enc x) rfl rfl (news_at wr x _) (enc_oneCell x) (by decide) (by unfold maxLen; omega) (by omega) (by simp; omega) (wr.heap.size + 1) (by simp) ?_; intro g capn w3 hown3 hgrow3 hat3 hlt3)
            exact ⟨⟨k + 1, by omega, by go_num, by rw [HF.out, HL.out]; exact hown3, (below_alloc hby _).grown hgrow3 (by simp; omega) (fun q hq => owns_base hown q hq)⟩, by simp [intOf]; omega⟩
        · have hkD : k = D.length := by omega
          subst hkD
          have HMS : Hid (∀ x ∈ sans D i D.length, mayB x = true) := fun x hx => HMD.out x (sans_mem hx)
          have hsl := sans_length D i D.length
          have hcj := join_any u15 vB (sans D i D.length) B wr (HR.out.below (hbw7.trans (hby.mono hbw7.size)) HR.out.1) (sliceOf_owns rfl hown) (SB7.out.below hby) HMS.out hB.out (by omega) (by omega)
          clear hown
          go_wp2_with fail
          refine hcj.mono ?_
          rintro e w8 ⟨vL, L, rfl, hoL, hL, hb8⟩
          have hbz : Below w7.heap.size w7 w8 := hby.trans (hb8.mono hby.size)
          have hLl : L.length ≤ D.length + B.length := by
            have := length_le_of_sub (sorted_ne hL.out.sorted) (fun x hx => (hL.out.great x hx).1)
            rw [List.length_append] at this
            omega
          have hne : L ≠ G := news_less HAB.out hD.out hW.out i hil (by rw [← sans_all]; exact hL.out)
          have hcs := sameAtoms_ne vL vW L G w8 (sliceOf_owns rfl hoL) (SW7.out.below hbz) (by omega) hne
          clear hcj hoL hL hLl hne
          go_wp2_with fail
          refine hcs.mono ?_
          rintro e w9 ⟨rfl, hb9⟩
          have hb79 : Below w7.heap.size w7 w9 := hbz.trans (hb9.mono hbz.size)
          clear hcs
          go_wp2
          exact ⟨⟨i + 1, by omega, by go_num, hb79⟩, by simp [intOf]; omega⟩
    · have hcj := join_any vC vB C B wr (HR.out.below (hbw7.trans (hbx.mono hbw7.size)) HR.out.1) (SC7.out.below hbx) (SB7.out.below hbx) hC.out hB.out (by omega) (by omega)
      go_wp2_with fail
      refine hcj.mono ?_
      rintro e w8 ⟨vO, O, rfl, hoO, hO, hb8⟩
      have hbz : Below w7.heap.size w7 w8 := hbx.trans (hb8.mono hbx.size)
      have hOl : O.length ≤ C.length + B.length := by
        have := length_le_of_sub (sorted_ne hO.out.sorted) (fun x hx => (hO.out.great x hx).1)
        rw [List.length_append] at this
        omega
      have HKN : Hid (∀ W', Below w7.heap.size w7 W' → Calls Tryd.prog 29 #[] W' fun e w' => e = .returned (.bool true) ∧ Below W'.heap.size W' w') := fun W' h => knows_any W' (HR.out.below (hbw7.trans (h.mono hbw7.size)) HR.out.1)
      have HBL : Hid (∀ W', Below w7.heap.size w7 W' → Calls Tryd.prog 27 #[.slice adD D.length capD, vC] W' fun e w' => ∃ r : Bool, e = .returned (.bool r) ∧ Hid ((∀ x ∈ D, x ∈ C) → r = true) ∧ Below W'.heap.size W' w') := fun W' h => below_walk _ vC D C W' (SD7.out.below h) (SC7.out.below h) (by omega) (by omega)
      by_cases hOG : O = G
      · have HUN : Hid (∀ x ∈ D, x ∈ C) := news_under HAB.out hD.out hW.out (hOG ▸ hO.out)
        subst hOG
        have hcs := sameAtoms_any vO vW O w8 (sliceOf_owns rfl hoO) (SW7.out.below hbz) (by omega)
        clear hcj hoO hO
        go_wp2_with fail
        refine hcs.mono ?_
        rintro e w9 ⟨rfl, hb9⟩
        have hb79 : Below w7.heap.size w7 w9 := hbz.trans (hb9.mono hbz.size)
        clear hcs
        go_wp2_with fail
        refine (HBL.out w9 hb79).mono ?_
        rintro e w10 ⟨r, rfl, hr, hb10⟩
        obtain rfl := hr.out HUN.out
        have hb710 : Below w7.heap.size w7 w10 := hb79.trans (hb10.mono hb79.size)
        clear hr
        go_wp2_with fail
        refine (HKN.out w10 hb710).mono ?_
        rintro e w11 ⟨rfl, hb11⟩
        have hfin : Below w.heap.size w w11 := hbw7.trans ((hb710.trans (hb11.mono hb710.size)).mono hbw7.size)
        go_wp2
        go_ret
        exact ⟨rfl, hfin⟩
      · have hcs := sameAtoms_ne vO vW O G w8 (sliceOf_owns rfl hoO) (SW7.out.below hbz) (by omega) hOG
        clear hcj hoO hO hOG
        go_wp2_with fail
        refine hcs.mono ?_
        rintro e w9 ⟨rfl, hb9⟩
        have hb79 : Below w7.heap.size w7 w9 := hbz.trans (hb9.mono hbz.size)
        clear hcs
        go_wp2_with fail
        refine (HBL.out w9 hb79).mono ?_
        rintro e w10 ⟨r, rfl, hr, hb10⟩
        have hb710 : Below w7.heap.size w7 w10 := hb79.trans (hb10.mono hb79.size)
        clear hr
        go_wp2_with fail
        refine (HKN.out w10 hb710).mono ?_
        rintro e w11 ⟨rfl, hb11⟩
        have hfin : Below w.heap.size w w11 := hbw7.trans ((hb710.trans (hb11.mono hb710.size)).mono hbw7.size)
        go_wp2
        go_ret
        exact ⟨rfl, hfin⟩
end Go.Proofs.YtahdlejgjcjeoaaDoor
