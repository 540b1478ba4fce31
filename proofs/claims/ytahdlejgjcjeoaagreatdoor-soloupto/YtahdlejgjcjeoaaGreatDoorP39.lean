/- Walk of the document's news. -/
import Derived.Test.YtahdlejgjcjeoaaGreatDoorP07
import Derived.Test.YtahdlejgjcjeoaaGreatDoorP11
namespace Go.Proofs.YtahdlejgjcjeoaaGreatDoor
open Go.RowKit

set_option maxRecDepth 100000 in
set_option maxHeartbeats 4000000 in
theorem news_any (v1 v2 : Value) (l m : List At) (w : World) (h1 : SliceOf w v1 l) (h2 : SliceOf w v2 m) (hs1 : ∀ a ∈ l, fits a) (hs2 : ∀ a ∈ m, fits a) (hlen : l.length ≤ 549755813888) (hlen2 : m.length ≤ 549755813888) :
    Calls Tryz.prog 124 #[v1, v2] w fun e w' => ∃ v' L, e = .returned v' ∧ w'.ownsRow w.heap.size 77 6 v' (newsTo L m L.length).length (flat (newsTo L m L.length)) ∧ Hid (IsTold l L) ∧ Below w.heap.size w w' := by
  have hcon := told_any v1 l w h1 hs1 (by omega)
  have HS1 : Hid (∀ a ∈ l, fits a) := hs1
  have HS2 : Hid (∀ a ∈ m, fits a) := hs2
  have H2 : Hid (SliceOf w v2 m) := h2
  obtain ⟨ad2, cap2, rfl, hc2, -⟩ := h2
  obtain ⟨i0, hi, hz0, hz1, hz2⟩ := info_parts infoAtom
  clear h1 hs1 hs2
  go_enter Tryz.func124, Tryz.ntmps124
  go_wp2_with fail
  refine hcon.mono ?_
  rintro e w1 ⟨v4, L, rfl, hown, ht, hb1⟩
  have hLl := told_len ht.out
  have HFL : Hid (∀ a ∈ L, fits a) := fun a ha => HS1.out a (ht.out.great a ha).1
  obtain ⟨ad1, cap1, rfl, hc1, HL⟩ := sliceOf_owns rfl hown
  have HR1 : Hid (0 < L.length → ∃ b off, ad1 = some ⟨b, off, none⟩ ∧ b < w1.heap.size ∧ RowAt w1 b off L) := HL
  obtain ⟨ad2', cap2', e2, hc2', HM2⟩ := H2.out.below hb1
  cases e2
  have HR2 : Hid (0 < m.length → ∃ b off, ad2 = some ⟨b, off, none⟩ ∧ b < w1.heap.size ∧ RowAt w1 b off m) := HM2
  clear hcon HL HM2 hown H2 hc2' HS1
  go_wp2
  go_loopw [5, 7] (fun v j wr => ∃ k : Nat, k ≤ L.length ∧ j = .int .i64 k ∧ wr.ownsRow w1.heap.size 77 6 v (newsTo L m k).length (flat (newsTo L m k)) ∧ Below w1.heap.size w1 wr) (fun _ j _ => L.length - (intOf j).toNat)
  case atStart => exact ⟨0, Nat.zero_le _, rfl, by simp [flat, newsTo, World.ownsRow], Below.refl _ _⟩
  case round =>
    obtain ⟨k, hk, rfl, hown, hbw⟩ := hrel
    by_cases hl : k < L.length
    · obtain ⟨b, off, rfl, hb, hrow⟩ := HR1.out (by omega)
      have hx := HFL.out _ (nth_mem L k hl)
      have hrx := (hrow.below hbw hb).nth hl
      have hsucc := newsTo_succ L m k hl
      have hll := newsTo_length L m k hk
      generalize nth L k = x at *
      have HRX : Hid (cellsAt wr b (off + k * 6) x) := hrx
      have HSU : Hid (newsTo L m (k + 1) = if frTo x m m.length then newsTo L m k ++ [x] else newsTo L m k) := hsucc
      have hsz := hbw.size
      clear hrow HR1 hrx hsucc
      obtain ⟨wo, rfl⟩ : ∃ wo : World, wo = wr := ⟨_, rfl⟩
      go_wp2
      go_loopw [8, 9] (fun f j wr => ∃ i : Nat, i ≤ m.length ∧ j = .int .i64 i ∧ f = .bool (frTo x m i) ∧ Below wo.heap.size wo wr) (fun _ j _ => m.length - (intOf j).toNat)
      case atStart => exact ⟨0, Nat.zero_le _, rfl, rfl, Below.refl _ _⟩
      case round =>
        obtain ⟨i, hiL, rfl, rfl, hbi⟩ := hrel
        by_cases hil : i < m.length
        · obtain ⟨b2, off2, rfl, hb2, hrow2⟩ := HR2.out (by omega)
          have hy := HS2.out _ (nth_mem m i hil)
          obtain ⟨d0, d1, d2, d3, d4, d5⟩ := (hrow2.below (hbw.trans (hbi.mono hsz)) hb2).nth hil
          obtain ⟨c0, c1, c2, c3, c4, c5⟩ := cellsAt_below hbi (by omega) HRX.out
          have hsu := frTo_succ x m i
          generalize nth m i = y at *
          have HFS : Hid (frTo x m (i + 1) = (frTo x m i && !old x y)) := hsu
          generalize frTo x m i = fr at *
          have hszi := hbi.size
          clear hsu hrow2 HR2
          have q1 : (0 : Int) ≤ (k : Int) := by omega
          have q2 : (k : Int) < (L.length : Int) := by omega
          have q3 : (0 : Int) ≤ (i : Int) := by omega
          have q4 : (i : Int) < (m.length : Int) := by omega
          have hbr : b < wr.heap.size := by omega
          have hbr2 : b2 < wr.heap.size := by omega
          go_wp2
          go_region_held3 (fun w' => w'.cell? ⟨b, off + k * 6, none⟩ = some (.int .i64 x.ty) ∧ w'.cell? ⟨b, off + k * 6 + 1, none⟩ = some (.string x.key) ∧ w'.cell? ⟨b, off + k * 6 + 2, none⟩ = some (.int .i64 x.side) ∧ w'.cell? ⟨b, off + k * 6 + 3, none⟩ = some (.int .i64 x.who) ∧ w'.cell? ⟨b, off + k * 6 + 4, none⟩ = some (.string x.elem) ∧ w'.cell? ⟨b, off + k * 6 + 5, none⟩ = some (.int .i64 x.n) ∧ w'.cell? ⟨b2, off2 + i * 6, none⟩ = some (.int .i64 y.ty) ∧ w'.cell? ⟨b2, off2 + i * 6 + 1, none⟩ = some (.string y.key) ∧ w'.cell? ⟨b2, off2 + i * 6 + 2, none⟩ = some (.int .i64 y.side) ∧ w'.cell? ⟨b2, off2 + i * 6 + 3, none⟩ = some (.int .i64 y.who) ∧ w'.cell? ⟨b2, off2 + i * 6 + 4, none⟩ = some (.string y.elem) ∧ w'.cell? ⟨b2, off2 + i * 6 + 5, none⟩ = some (.int .i64 y.n)) (first | go_keep | (go_split_ands; refine ⟨?_, ?_, ?_, ?_, ?_, ?_, ?_, ?_, ?_, ?_, ?_, ?_⟩ <;> (first | (rw [hb3.cell (p := ⟨b, _, none⟩) (by simpa using hbr)]; assumption) | (rw [hb3.cell (p := ⟨b2, _, none⟩) (by simpa using hbr2)]; assumption)))) (first | (go_at_call 118; refine (places_any x y _ hx hy).mono ?_; rintro e w3 ⟨rfl, hb3⟩))
          all_goals go_wp2
          clear c0 c1 c2 c3 c4 c5 d0 d1 d2 d3 d4 d5
          have hbr' : b < w3.heap.size := Nat.lt_of_lt_of_le hbr hb3.size
          have hbr2' : b2 < w3.heap.size := Nat.lt_of_lt_of_le hbr2 hb3.size
          have hbw3 : Below wo.heap.size wo w3 := hbi.drew.trans (hb3.mono hszi)
          clear hb3
          go_region_held3 (fun w' => w'.cell? ⟨b, off + k * 6, none⟩ = some (.int .i64 x.ty) ∧ w'.cell? ⟨b, off + k * 6 + 1, none⟩ = some (.string x.key) ∧ w'.cell? ⟨b, off + k * 6 + 2, none⟩ = some (.int .i64 x.side) ∧ w'.cell? ⟨b, off + k * 6 + 3, none⟩ = some (.int .i64 x.who) ∧ w'.cell? ⟨b, off + k * 6 + 4, none⟩ = some (.string x.elem) ∧ w'.cell? ⟨b, off + k * 6 + 5, none⟩ = some (.int .i64 x.n) ∧ w'.cell? ⟨b2, off2 + i * 6, none⟩ = some (.int .i64 y.ty) ∧ w'.cell? ⟨b2, off2 + i * 6 + 1, none⟩ = some (.string y.key) ∧ w'.cell? ⟨b2, off2 + i * 6 + 2, none⟩ = some (.int .i64 y.side) ∧ w'.cell? ⟨b2, off2 + i * 6 + 3, none⟩ = some (.int .i64 y.who) ∧ w'.cell? ⟨b2, off2 + i * 6 + 4, none⟩ = some (.string y.elem) ∧ w'.cell? ⟨b2, off2 + i * 6 + 5, none⟩ = some (.int .i64 y.n)) (first | go_keep | (go_split_ands; refine ⟨?_, ?_, ?_, ?_, ?_, ?_, ?_, ?_, ?_, ?_, ?_, ?_⟩ <;> (first | (rw [hb4.cell (p := ⟨b, _, none⟩) (by simpa using hbr')]; assumption) | (rw [hb4.cell (p := ⟨b2, _, none⟩) (by simpa using hbr2')]; assumption)))) (first | (go_at_call 170; refine (grades_any x y _ hx hy).mono ?_; rintro e w4 ⟨rfl, hb4⟩))
          have hbw4 : Below wo.heap.size wo w4 := hbw3.drew.trans (hb4.mono hbw3.size)
          clear hb4 hbw3
          go_wp2
          all_goals go_light
          all_goals exact ⟨⟨i + 1, by omega, by go_num, by rw [HFS.out]; simp [old, *], hbw4⟩, by simp [intOf]; omega⟩
        · have him : i = m.length := by omega
          subst him
          clear HR2
          have hszi := hbi.size
          have hownI := owns_below hown hbi
          have hbwI : Below w1.heap.size w1 wr := hbw.trans (hbi.mono hsz)
          have hbzI := hbwI.size
          cases hf : frTo x m m.length
          · rw [hf] at HSU
            have HSV : Hid (newsTo L m (k + 1) = newsTo L m k) := by have := HSU.out; simpa [Hid] using this
            clear HSU HRX hown hbi hf
            go_wp2
            go_roundw
            case rel => exact ⟨k + 1, by omega, by go_num, by rw [HSV.out]; exact hownI, hbwI⟩
            case measure => simp [intOf]; omega
          · rw [hf] at HSU
            have HSV : Hid (newsTo L m (k + 1) = newsTo L m k ++ [x]) := by have := HSU.out; simpa [Hid] using this
            have HF : Hid (flat (newsTo L m k ++ [x]) = flat (newsTo L m k) ++ enc x) := flat_snoc _ _
            obtain ⟨c0, c1, c2, c3, c4, c5⟩ := cellsAt_below hbi (by omega) HRX.out
            clear HSU HRX hown hbi hf
            generalize newsTo L m k = M at *
            go_wp2_with (at_builtin; refine wpList_append_lies _ rfl _ _ 56 rfl w1.heap.size 77 i0 _ 6 64 Tryz.underlying56 hi hz0 hz1 hz2 rfl (by decide) _ M.length _ rfl (hownI.alloc _) ⟨wr.heap.size, 0, none⟩ 1 1 (enc x) rfl rfl (news_at wr x _) (enc_oneCell x) (by decide) (by unfold maxLen; omega) (by omega) (by simp; omega) (wr.heap.size + 1) (by simp) ?_; intro g capn w2 hown2 hgrow2 hat2 hlt2)
            go_roundw
            case rel => exact ⟨k + 1, by omega, by go_num, by rw [HSV.out, HF.out, List.length_append]; exact hown2, (hbwI.alloc hbzI _).grown hgrow2 (by simp; omega) (owns_base hownI)⟩
            case measure => simp [intOf]; omega
    · have hkl : k = L.length := by omega
      subst hkl
      have hfin := owns_mono hown hb1.size
      have hbe : Below w.heap.size w wr := hb1.trans (hbw.mono hb1.size)
      clear hown hbw HR1 HR2
      go_wp2
      go_ret
      exact ⟨_, L, rfl, hfin, ht, hbe⟩
end Go.Proofs.YtahdlejgjcjeoaaGreatDoor
