/- Walk of the laws' looks. -/
import Derived.Test.YtahdlejgjcjeoaaGreatDoorP39
import Derived.Test.YtahdlejgjcjeoaaGreatDoorP27
namespace Go.Proofs.YtahdlejgjcjeoaaGreatDoor
open Go.RowKit

theorem infoTOut : (Tryz.prog.info? 89).map (fun i => (i.zero, i.size, i.bytes)) = some (some (.agg #[.slice none 0 0, .int .i64 0]), 2, 32) := by kernel_rfl
theorem infoStr : (Tryz.prog.info? 9).map (fun i => (i.zero, i.size, i.bytes)) = some (some (.string ⟨#[]⟩), 1, 16) := by kernel_rfl

set_option maxRecDepth 100000 in
set_option maxHeartbeats 4000000 in
theorem ownTexts_any (B : Nat) (va : Nat → Value) (vl : Value) (es : Nat → List (Value × Int)) (baseL n : Nat) (L : List Value) (w : World)
    (hI : Bk w B va es) (hL : w.ownsRow baseL 9 1 vl n L) (hbase : baseL ≤ w.heap.size)
    (hsep : ∀ q, vl.ownBlock = some q → q < w.heap.size ∧ q ≠ B ∧ (∀ j, j < 4 → some q ≠ (va j).ownBlock) ∧ ∀ j, j < 4 → ∀ p ∈ es j, p.1.ownBlock ≠ some q)
    (hlen : n ≤ 8388608) (hes : (es 2).length ≤ 16000000) :
    Calls Tryz.prog 127 #[.pointer (some ⟨B, 0, none⟩), vl] w fun e w' => e = .returned (.tuple #[]) ∧ ∃ vf ef, Hid (Bk w' B (updF va 2 vf) (updF es 2 ef)) ∧ ef.length = (es 2).length + 4 ∧ Hid (∀ p ∈ ef, p ∈ es 2 ∨ ∀ q, p.1.ownBlock = some q → w.heap.size ≤ q ∨ some q = vl.ownBlock) ∧ Hid (Fr (fun q => q = B ∨ some q = vl.ownBlock ∨ some q = (va 2).ownBlock) w w') := by
  obtain ⟨X, hX⟩ : ∃ X : Nat → Prop, X = fun q => q = B ∨ some q = vl.ownBlock ∨ some q = (va 2).ownBlock := ⟨_, rfl⟩
  rw [← hX]
  have HXB : Hid (X B) := by rw [hX]; exact .inl rfl
  have HXV : Hid (∀ q, vl.ownBlock = some q → X q) := by rw [hX]; exact fun q hq => .inr (.inl hq.symm)
  have HXA : Hid (∀ q, (va 2).ownBlock = some q → X q) := by rw [hX]; exact fun q hq => .inr (.inr hq.symm)
  clear hX
  obtain ⟨adL, capL, rfl⟩ := own_form hL
  obtain ⟨adA, capA, hva⟩ := own_form (hI.row 2 (by decide))
  have c2 := hI.c 2 (by decide)
  rw [hva] at c2
  have HVA : Hid (va 2 = .slice adA (es 2).length capA) := hva
  have HI : Hid (Bk w B va es) := hI
  have HL : Hid (w.ownsRow baseL 9 1 (.slice adL n capL) n L) := hL
  have HSEP : Hid (∀ q, (Value.slice adL n capL).ownBlock = some q → q < w.heap.size ∧ q ≠ B ∧ (∀ j, j < 4 → some q ≠ (va j).ownBlock) ∧ ∀ j, j < 4 → ∀ p ∈ es j, p.1.ownBlock ≠ some q) := hsep
  have hn : L.length = n := by have := hL.1; omega
  clear hI hL hsep hva
  obtain ⟨i0, hi, hz0, hz1, hz2⟩ := info_parts infoStr
  obtain ⟨i1, hi1, hy0, hy1, hy2⟩ := info_parts infoTOut
  obtain ⟨K, HK⟩ : ∃ K, Hid (K = (es 2).length) := ⟨_, rfl⟩
  rw [← HK.out] at c2 hes
  have hm : ∀ W, Calls Tryz.prog 39 #[.int .i64 K] W fun e w' => e = .returned (.string (markT K)) ∧ Below W.heap.size W w' := fun W => textOf_any K W (by omega)
  obtain ⟨T, HT⟩ : ∃ T, Hid (markT K = T) := ⟨_, rfl⟩
  rw [HT.out] at hm
  have HTX : Hid (∀ W, Calls Tryz.prog 39 #[.int .i64 K] W fun e w' => e = .returned (.string T) ∧ Below W.heap.size W w') := hm
  clear hm
  go_enter Tryz.func127, Tryz.ntmps127
  go_wp2
  go_loopw [5] (fun i wr => ∃ (j : Nat) (L' : List Value), j ≤ n ∧ i = .int .i64 j ∧ L'.length = n ∧ Hid (wr.ownsRow baseL 9 1 (.slice adL n capL) n L') ∧ Hid (∀ t, t < j → L'[t]? = some (.string T)) ∧ Hid (Bk wr B va es) ∧ Hid (Fr X w wr)) (fun i _ => n - (intOf i).toNat)
  case atStart => exact ⟨0, L, Nat.zero_le _, rfl, hn, HL, fun t ht => by omega, HI, Fr.refl _ _⟩
  case round =>
    clear c2
    obtain ⟨j, L', hj, rfl, hlL, hown, hmk, hinv, hfr⟩ := hrel
    by_cases hl : j < n
    · obtain ⟨g, rfl⟩ : ∃ g, adL = some ⟨g, 0, none⟩ := by
        rcases hown.out.2 with ⟨_, h0⟩ | ⟨g, cap, cur, hv, _⟩
        · omega
        · cases hv; exact ⟨g, rfl⟩
      have hsg := HSEP.out g rfl
      have q1 : (j : Int) < (n : Int) := by omega
      go_wp2_with fail
      refine (HTX.out _).mono ?_
      rintro e w3 ⟨rfl, hb3⟩
      have hown3 := owns_below hown.out hb3
      have hinv3 := hinv.out.below hb3
      have hfr3 := hfr.out.below hb3
      obtain ⟨⟨u, d0, -⟩, f0⟩ := owns_cell1 hown3 j (by omega)
      have hst := owns_store1 hown3 j (by omega) (.string T)
      have hgr := grown_setCell w3 ⟨g, j, none⟩ (.string T)
      have HI3 : Hid (Bk (w3.setCell ⟨g, j, none⟩ (.string T)) B va es) := hinv3.kept hgr (fun e => hsg.2.1 (by cases e; rfl)) (fun t ht q hq e => hsg.2.2.1 t ht (by rw [hq, e])) (fun t ht p hp q hq e => hsg.2.2.2 t ht p hp (by rw [hq, e]))
      have HF3 : Hid (Fr X w (w3.setCell ⟨g, j, none⟩ (.string T))) := hfr3.step hgr (fun q hq => by cases hq; exact .inr (HXV.out g rfl))
      have HM3 : Hid (∀ t, t < j + 1 → (L'.set j (.string T))[t]? = some (.string T)) := by
        intro t ht
        by_cases e : t = j
        · subst e; simp [show t < L'.length by omega]
        · have := hmk.out t (by omega)
          simpa [Ne.symm e] using this
      have HST : Hid ((w3.setCell ⟨g, j, none⟩ (.string T)).ownsRow baseL 9 1 (.slice (some ⟨g, 0, none⟩) n capL) n (L'.set j (.string T))) := hst
      have HLL : Hid ((L'.set j (.string T)).length = n) := by rw [Hid]; simpa using hlL
      clear hst hgr hown hb3 hown3 hinv3 hfr3 hinv hfr hmk hsg
      go_wp2
      exact ⟨⟨j + 1, _, by omega, by go_num, HLL, HST, HM3, HI3, HF3⟩, by simp [intOf]; omega⟩
    · have hjn : j = n := by omega
      subst hjn
      have hLm := all_reps1 hlL hmk.out
      have hown' := hown.out
      rw [hLm] at hown'
      have hkc : mkC 2 (K : Int) = [.string T] := by show [Value.string (markT (K : Int).toNat)] = _; rw [Int.toNat_natCast, HT.out]
      rw [← hkc] at hown'
      have hst : OwnS w X (Value.slice adL j capL).ownBlock va es B baseL 2 K j wr (.slice adL j capL) (.slice adA K capA) (es 2) := ⟨by rw [HK.out, ← HVA.out, updF_self, updF_self]; exact hinv.out, hown', fun q hq => ⟨Nat.lt_of_lt_of_le (HSEP.out q hq).1 hfr.out.size, (HSEP.out q hq).2.1, by rw [HK.out, ← HVA.out, updF_self]; exact (HSEP.out q hq).2.2.1⟩, fun p hp q h1 h2 => absurd h1 ((HSEP.out q h2).2.2.2 2 (by decide) p hp), fun t ht _ p hp q hq => (HSEP.out q hq).2.2.2 t ht p hp, hfr.out, fun q hq => .inr ⟨HXV.out q hq, hq.symm⟩, fun p hp => .inl hp, fun q hq => .inr (HXA.out q (by rw [HVA.out, ← HK.out]; exact hq)), Nat.le_trans hbase hfr.out.size, ⟨by omega, by omega⟩, by omega, by decide⟩
      have hinvr := hst.inv
      have cr := hinvr.c 2 (by decide)
      have hlt := hinvr.lt
      have hrowr := hinvr.row 2 (by decide)
      rw [updF_same] at cr
      rw [updF_same, updF_same] at hrowr
      have HEL : Hid ((es 2).length = K) := HK.out.symm
      rw [HEL.out] at hrowr
      clear hown hown' hmk hinv hfr hLm HSEP HI HL hlL hkc
      have HST : Hid (OwnS w X (Value.slice adL j capL).ownBlock va es B baseL 2 K j wr (.slice adL j capL) (.slice adA K capA) (es 2)) := hst
      clear hst hinvr
      have hrow2 : wr.ownsRow (B + 1) 89 2 (.slice adA K capA) K (flatE (es 2)) := hrowr
      clear hrowr
      go_wp2_with (at_builtin; refine wpList_append_two _ rfl _ _ 67 rfl (B + 1) 89 i1 _ 2 32 Tryz.underlying67 hi1 hy0 hy1 hy2 rfl (by decide) _ K _ rfl (hrow2.alloc _) ⟨wr.heap.size, 0, none⟩ 1 1 [.slice adL j capL, .int .i64 K] rfl rfl (news_pair wr _ _ _) (pair_oneCell rfl _) (by decide) (by unfold maxLen; omega) (by omega) (by simp; omega) ?_; intro gA capA' wA hownA hcaseA; obtain ⟨ca, fa⟩ := HST.out.inv.after (f := 2) (by decide) _ (by rw [updF_same]; exact hcaseA); rw [updF_same] at ca)
      have HS1 := HST.out.push HXB.out _ (by rw [HEL.out]; exact hownA) hcaseA
      rw [HEL.out] at HS1
      clear HST cr hrow2 hownA hcaseA ca fa hlt
      go_loopw [1, 6] (fun s1 s6 wr => ∃ (r : Nat) (vf : Value) (ef : List (Value × Int)), r ≤ 3 ∧ s6 = .int .i64 r ∧ ef.length = K + 1 + r ∧ Hid (OwnS w X (Value.slice adL j capL).ownBlock va es B baseL 2 K (j + r) wr s1 vf ef)) (fun _ s6 _ => 3 - (intOf s6).toNat)
      case atStart => exact ⟨0, _, _, by omega, rfl, by rw [List.length_append, HEL.out]; rfl, HS1⟩
      case round =>
        clear HS1
        obtain ⟨r, vf, ef, hr, rfl, hes', hst⟩ := hrel
        have HES : Hid (ef.length = K + 1 + r) := hes'
        have hesle : ef.length ≤ 16000004 := by omega
        clear hes'
        by_cases hr3 : r < 3
        · obtain ⟨ad1, cap1, hv1⟩ := own_form hst.out.own
          subst hv1
          go_wp2_with fail
          refine (HTX.out _).mono ?_
          rintro e w3 ⟨rfl, hb3⟩
          have hst3 := hst.out.below hb3
          have hkc : mkC 2 (K : Int) = [.string T] := by show [Value.string (markT (K : Int).toNat)] = _; rw [Int.toNat_natCast, HT.out]
          have hown3 : w3.ownsRow baseL 9 1 (.slice ad1 (j + r) cap1) (j + r) (reps (j + r) [.string T]) := by rw [← hkc]; exact hst3.own
          have HKC : Hid (mkC 2 (K : Int) = [.string T]) := hkc
          have hbase3 := hst3.base
          have HS3 : Hid (OwnS w X (Value.slice adL j capL).ownBlock va es B baseL 2 K (j + r) w3 (.slice ad1 (j + r) cap1) vf ef) := hst3
          clear hst hst3 hb3 hkc
          go_wp2_with (first | (at_builtin; have _t := hown3; refine wpList_append_two _ rfl _ _ 87 rfl baseL 9 i0 _ 1 16 Tryz.underlying87 hi hz0 hz1 hz2 rfl (by decide) _ (j + r) _ rfl (hown3.alloc _) ⟨w3.heap.size, 0, none⟩ 1 1 [.string T] rfl rfl (World.news_of_block (heap_alloc_new w3 _)) (by simp [Value.oneCell']) (by decide) (by unfold maxLen; omega) (by omega) (by simp; omega) ?_; intro gL capN wN hownN hcaseN; have HSN : Hid (OwnS w X (Value.slice adL j capL).ownBlock va es B baseL 2 K (j + r + 1) wN (.slice (some ⟨gL, 0, none⟩) (j + r + 1) capN) vf ef) := HS3.out.append (by omega) _ (by rw [HKC.out]; exact hownN) hcaseN; have cN := HSN.out.inv.c 2 (by decide); have hltN := HSN.out.inv.lt; have hrowN := HSN.out.inv.row 2 (by decide); rw [updF_same] at cN; rw [updF_same, updF_same] at hrowN; obtain ⟨adF, capF, hvF⟩ := own_form hrowN; subst hvF; have hrowM : wN.ownsRow (B + 1) 89 2 (.slice adF ef.length capF) ef.length (flatE ef) := hrowN; clear hownN hcaseN hown3 HS3 hrowN) | (at_builtin; refine wpList_append_two _ rfl _ _ 67 rfl (B + 1) 89 i1 _ 2 32 Tryz.underlying67 hi1 hy0 hy1 hy2 rfl (by decide) _ ef.length _ rfl (hrowM.alloc _) ⟨wN.heap.size, 0, none⟩ 1 1 [.slice (some ⟨gL, 0, none⟩) (j + r + 1) capN, .int .i64 K] rfl rfl (news_pair wN _ _ _) (pair_oneCell rfl _) (by decide) (by unfold maxLen; omega) (by omega) (by simp; omega) ?_; intro gA capA' wA hownA hcaseA; obtain ⟨ca, fa⟩ := HSN.out.inv.after (f := 2) (by decide) _ (by rw [updF_same]; exact hcaseA); rw [updF_same] at ca))
          have HS4 := HSN.out.push HXB.out _ hownA hcaseA
          clear HSN cN hrowM hownA hcaseA ca fa hltN
          exact ⟨⟨r + 1, _, _, by omega, by go_num, by have := HES.out; rw [List.length_append]; show ef.length + 1 = _; omega, HS4⟩, by simp [intOf]; omega⟩
        · go_wp2
          go_end0
          exact ⟨rfl, vf, ef, hst.out.inv, by have := HES.out; have := HEL.out; omega, hst.out.ent, hst.out.fr⟩
end Go.Proofs.YtahdlejgjcjeoaaGreatDoor

namespace Go.Proofs.YtahdlejgjcjeoaaGreatDoor
open Go.RowKit

theorem flatE_get (es : List (Value × Int)) (i : Nat) (h : i < es.length) : (flatE es)[i * 2]? = some es[i].1 ∧ (flatE es)[i * 2 + 1]? = some (.int .i64 es[i].2) := by
  induction es generalizing i with
  | nil => simp at h
  | cons p es ih =>
    cases i with
    | zero => exact ⟨rfl, rfl⟩
    | succ i =>
      have := ih i (by simpa using h)
      have e : flatE (p :: es) = p.1 :: .int .i64 p.2 :: flatE es := rfl
      rw [e, show (i + 1) * 2 = i * 2 + 1 + 1 by omega]
      exact this

theorem entry_cells {w : World} {B : Nat} {va : Value} {es : List (Value × Int)} (h : BookInv w B va es) (i : Nat) (hi : i < es.length) :
    ∃ g cap, va = .slice (some ⟨g, 0, none⟩) es.length cap ∧ g < w.heap.size ∧ w.cell? ⟨g, i * 2, none⟩ = some es[i].1 ∧ w.cell? ⟨g, i * 2 + 1, none⟩ = some (.int .i64 es[i].2) := by
  rcases h.row.2 with ⟨_, h0⟩ | ⟨g, cap, cur, hv, _, hh, h1, h2, h3, h4⟩
  · omega
  · refine ⟨g, cap, hv, (Array.getElem?_eq_some_iff.1 hh).1, ?_, ?_⟩
    · have := (flatE_get es i hi).1
      rw [← h4, List.getElem?_take, if_pos (by omega), Array.getElem?_toList] at this
      simp [World.cell?, hh, this]
    · have := (flatE_get es i hi).2
      rw [← h4, List.getElem?_take, if_pos (by omega), Array.getElem?_toList] at this
      simp [World.cell?, hh, this]

set_option maxRecDepth 100000 in
set_option maxHeartbeats 4000000 in
theorem looks_any (B : Nat) (va : Value) (es : List (Value × Int)) (w : World) (hI : BookInv w B va es) (hes : es.length ≤ 1000) :
    Calls Tryz.prog 14 #[.pointer (some ⟨B, 0, none⟩)] w fun e w' => e = .returned (.bool true) ∧ Below w.heap.size w w' := by
  obtain ⟨adA, capA, rfl⟩ := own_form hI.row
  have HI : Hid (BookInv w B (.slice adA es.length capA) es) := hI
  clear hI
  go_enter Tryz.func14, Tryz.ntmps14
  go_wp2
  go_loopw [3] (fun i wr => ∃ j : Nat, j ≤ es.length ∧ i = .int .i64 j ∧ Below w.heap.size w wr) (fun i _ => es.length - (intOf i).toNat)
  case atStart => exact ⟨0, Nat.zero_le _, rfl, Below.refl _ _⟩
  case round =>
    obtain ⟨j, hj, rfl, hbw⟩ := hrel
    have hI := HI.out.below hbw
    have k0 := hI.c0
    have k1 := hI.c1
    have k2 := hI.c2
    have k3 := hI.c3
    by_cases hl : j < es.length
    · obtain ⟨gA, capA', hvA, hgA, e0, e1⟩ := entry_cells hI j hl
      obtain ⟨m, hmb, hgood⟩ := hI.good _ (List.getElem_mem hl)
      have hbnd := hI.bnd _ (List.getElem_mem hl)
      cases hvA
      generalize es[j] = p at *
      obtain ⟨s, k⟩ := p
      obtain ⟨ad, cap, hs, hcap, H⟩ := hgood
      simp only at hs e0 e1 hbnd H hcap
      subst hs
      simp only [List.length_replicate] at H hcap e0
      have HR : Hid (0 < m → ∃ b off, ad = some ⟨b, off, none⟩ ∧ b < wr.heap.size ∧ RowAt wr b off (List.replicate m (mark k))) := by simpa [Hid] using H
      clear H hI k1 k2 k3
      have hsz := hbw.size
      obtain ⟨wo, rfl⟩ : ∃ wo : World, wo = wr := ⟨_, rfl⟩
      have q0 : (j : Int) < (es.length : Int) := by omega
      go_wp2
      obtain ⟨box, hbox⟩ : ∃ box : Obj, box = .cells #[.slice ad m cap, .int .i64 k] 75 := ⟨_, rfl⟩
      have HBX : Hid (box = .cells #[.slice ad m cap, .int .i64 k] 75) := hbox
      rw [← hbox]
      clear hbox
      go_loopw [5] (fun s5 wr => ∃ t : Nat, t ≤ m ∧ s5 = .int .i64 t ∧ Below (wo.alloc box).heap.size (wo.alloc box) wr) (fun s5 _ => m - (intOf s5).toNat)
      case atStart => exact ⟨0, Nat.zero_le _, rfl, Below.refl _ _⟩
      case round =>
        obtain ⟨t, ht, rfl, hbi⟩ := hrel
        have b0 : wr.cell? ⟨wo.heap.size, 0, none⟩ = some (.slice ad m cap) := by
          rw [hbi.cell (p := ⟨wo.heap.size, 0, none⟩) (by simp)]
          exact World.news_of_block (heap_alloc_new wo box |>.trans (by rw [HBX.out])) 0 _ rfl
        have b1 : wr.cell? ⟨wo.heap.size, 1, none⟩ = some (.int .i64 k) := by
          rw [hbi.cell (p := ⟨wo.heap.size, 1, none⟩) (by simp)]
          exact World.news_of_block (heap_alloc_new wo box |>.trans (by rw [HBX.out])) 1 _ rfl
        have hbwi : Below w.heap.size w wr := (below_alloc hbw box).trans (hbi.mono (by simp; omega))
        by_cases htm : t < m
        · obtain ⟨b, off, rfl, hb, hrow⟩ := HR.out (by omega)
          have hcl := (hrow.below ((Below.refl _ wo).alloc (Nat.le_refl _) box |>.trans (hbi.mono (by simp))) hb) t (by simpa using htm)
          rw [List.getElem_replicate] at hcl
          obtain ⟨c0, c1, c2, c3, c4, c5⟩ := hcl
          clear hrow HR
          have hbr : b < wr.heap.size := by have := hbi.size; simp at this; omega
          have hbo : wo.heap.size < wr.heap.size := by have := hbi.size; simp at this; omega
          have hszi := hbi.size
          have hat := fun W => atomOf_any k W hbnd.1 (by have := hbnd.2; omega)
          generalize mark k = x at *
          have HAT : Hid (∀ W : World, Calls Tryz.prog 38 #[.int .i64 k] W fun e w' => e = .returned (.agg #[.int .i64 x.ty, .string x.key, .int .i64 x.side, .int .i64 x.who, .string x.elem, .int .i64 x.n]) ∧ Below W.heap.size W w') := hat
          clear hat
          have q1 : (0 : Int) ≤ (t : Int) := by omega
          have q2 : (t : Int) < (m : Int) := by omega
          go_wp2
          go_region_held3 (fun w' => w'.cell? ⟨wo.heap.size, 0, none⟩ = some (.slice (some ⟨b, off, none⟩) m cap) ∧ w'.cell? ⟨wo.heap.size, 1, none⟩ = some (.int .i64 k) ∧ w'.cell? ⟨b, off + t * 6, none⟩ = some (.int .i64 x.ty) ∧ w'.cell? ⟨b, off + t * 6 + 1, none⟩ = some (.string x.key) ∧ w'.cell? ⟨b, off + t * 6 + 2, none⟩ = some (.int .i64 x.side) ∧ w'.cell? ⟨b, off + t * 6 + 3, none⟩ = some (.int .i64 x.who) ∧ w'.cell? ⟨b, off + t * 6 + 4, none⟩ = some (.string x.elem) ∧ w'.cell? ⟨b, off + t * 6 + 5, none⟩ = some (.int .i64 x.n)) (first | go_keep | (go_split_ands; refine ⟨?_, ?_, ?_, ?_, ?_, ?_, ?_, ?_⟩ <;> (first | (rw [hb1.cell (p := ⟨b, _, none⟩) (by simpa using hbr)]; assumption) | (rw [hb1.cell (p := ⟨wo.heap.size, _, none⟩) (by simpa using hbo)]; assumption)))) (first | (go_at_call 38; refine (HAT.out _).mono ?_; rintro e w1 ⟨rfl, hb1⟩))
          go_wp2
          exact ⟨⟨t + 1, by omega, by go_num, hbi.drew.trans (hb1.mono hszi)⟩, by simp [intOf]; omega⟩
        · have q2 : ¬ (t : Int) < (m : Int) := by omega
          clear HR
          go_wp2
          exact ⟨⟨j + 1, by omega, by go_num, hbwi⟩, by simp [intOf]; omega⟩
    · clear hI
      have q0 : ¬ (j : Int) < (es.length : Int) := by omega
      obtain ⟨wo, rfl⟩ : ∃ wo : World, wo = wr := ⟨_, rfl⟩
      go_wp2
      go_loopw [6] (fun s wr => s = .int .i64 0 ∧ wr = wo) (fun _ _ => 0)
      case atStart => exact ⟨rfl, rfl⟩
      case round =>
        obtain ⟨rfl, rfl⟩ := hrel
        obtain ⟨wo, rfl⟩ : ∃ wo : World, wo = wr := ⟨_, rfl⟩
        go_wp2
        go_loopw [9] (fun s wr => s = .int .i64 0 ∧ wr = wo) (fun _ _ => 0)
        case atStart => exact ⟨rfl, rfl⟩
        case round =>
          obtain ⟨rfl, rfl⟩ := hrel
          obtain ⟨wo, rfl⟩ : ∃ wo : World, wo = wr := ⟨_, rfl⟩
          go_wp2
          go_loopw [12] (fun s wr => s = .int .i64 0 ∧ wr = wo) (fun _ _ => 0)
          case atStart => exact ⟨rfl, rfl⟩
          case round =>
            obtain ⟨rfl, rfl⟩ := hrel
            go_wp2
            go_ret
            exact ⟨rfl, hbw⟩
end Go.Proofs.YtahdlejgjcjeoaaGreatDoor
