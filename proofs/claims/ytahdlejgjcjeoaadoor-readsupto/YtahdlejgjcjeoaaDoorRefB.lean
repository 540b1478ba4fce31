/- Walks of the document's mays and counts. -/
import Derived.Test.YtahdlejgjcjeoaaDoorRefA
import Derived.Test.YtahdlejgjcjeoaaDoorRefMay
import Derived.Test.YtahdlejgjcjeoaaDoorMem
import Derived.Deep.RegionHeld3
import Derived.Deep.Light
namespace Go.Proofs.YtahdlejgjcjeoaaDoor
open Go.RowKit

set_option maxHeartbeats 400000 in
theorem mays_some (b off cap : Nat) (l : List At) (w : World) (hrow : RowAt w b off l) (hs : ∀ a ∈ l, short a) (_hcap : l.length ≤ cap) (hlen : l.length ≤ 281474976710656) (hb : b < w.heap.size) :
    Calls Tryd.prog 35 #[.slice (some ⟨b, off, none⟩) l.length cap] w fun e w' => e = .returned (.bool (l.all mayB)) ∧ Below w.heap.size w w' := by
  have HR : Hid (RowAt w b off l) := hrow
  clear hrow
  have HS : Hid (∀ a ∈ l, short a) := hs
  clear hs
  go_enter Tryd.func35, Tryd.ntmps35
  go_wp2
  go_loopw [3] (fun i wr => ∃ k : Nat, k ≤ l.length ∧ i = .int .i64 k ∧ Hid ((l.take k).all mayB = true) ∧ Below w.heap.size w wr) (fun i _ => l.length - (intOf i).toNat)
  case atStart => exact ⟨0, Nat.zero_le _, rfl, by simp [Hid], Below.refl _ _⟩
  case round =>
    obtain ⟨k, hk, rfl, ht, hbw⟩ := hrel
    by_cases hl : k < l.length
    · obtain ⟨c0, c1, c2, c3, c4, c5⟩ := (HR.out.below hbw hb) k hl
      have hsk := HS.out (l[k]) (List.getElem_mem hl)
      have hsz := hbw.size
      generalize hak : l[k] = a at *
      have HA : Hid (l[k] = a) := hak
      clear hak
      cases hm : mayB a
      · go_wp2_with (go_at_call 66; refine (May_any a _ hsk).mono ?_; rintro e w' ⟨rfl, hb1⟩)
        go_ret
        refine ⟨ret_bool ?_, hbw.trans (hb1.mono hsz)⟩
        symm
        rw [List.all_eq_false]
        exact ⟨a, HA.out ▸ List.getElem_mem hl, by simp [hm]⟩
      · go_wp2_with (go_at_call 66; refine (May_any a _ hsk).mono ?_; rintro e w' ⟨rfl, hb1⟩)
        go_roundw
        case rel => exact ⟨k + 1, by omega, by go_num, (by rw [Hid, all_snoc _ _ _ hl, HA.out, hm, ht.out]; rfl), hbw.trans (hb1.mono hsz)⟩
        case measure => simp [intOf]; omega
    · go_wp2
      go_ret
      refine ⟨ret_bool ?_, hbw⟩
      rw [← ht.out, List.take_of_length_le (by omega)]

set_option maxHeartbeats 400000 in
theorem mays_nil (ad : Option Addr) (cap : Nat) (w : World) :
    Calls Tryd.prog 35 #[.slice ad 0 cap] w fun e w' => e = .returned (.bool true) ∧ Below w.heap.size w w' := by
  go_enter Tryd.func35, Tryd.ntmps35
  go_wp2
  go_loopw [3] (fun i wr => i = .int .i64 0 ∧ wr = w) (fun i _ => 0)
  case atStart => exact ⟨rfl, rfl⟩
  case round =>
    obtain ⟨rfl, rfl⟩ := hrel
    go_wp2
    go_ret
    exact ⟨rfl, Below.refl _ _⟩

theorem mays_any (v : Value) (l : List At) (w : World) (hv : SliceOf w v l) (hs : ∀ a ∈ l, short a) (hlen : l.length ≤ 281474976710656) :
    Calls Tryd.prog 35 #[v] w fun e w' => e = .returned (.bool (l.all mayB)) ∧ Below w.heap.size w w' := by
  obtain ⟨ad, cap, rfl, hcap, h⟩ := hv
  by_cases h0 : 0 < l.length
  · obtain ⟨b, off, rfl, hb, hrow⟩ := h h0
    exact mays_some b off cap l w hrow hs hcap hlen hb
  · obtain rfl := List.length_eq_zero_iff.1 (by omega : l.length = 0)
    exact mays_nil ad cap w

set_option maxHeartbeats 1000000 in
theorem counts_some (b off cap : Nat) (l : List At) (i : Nat) (w : World) (hrow : RowAt w b off l) (hs : ∀ a ∈ l, fits a) (_hcap : l.length ≤ cap) (hlen : l.length ≤ 281474976710656) (hb : b < w.heap.size) (hi : i < l.length) :
    Calls Tryd.prog 67 #[.slice (some ⟨b, off, none⟩) l.length cap, .int .i64 i] w fun e w' => e = .returned (.bool (cntTo l i l.length)) ∧ Below w.heap.size w w' := by
  have HR : Hid (RowAt w b off l) := hrow
  clear hrow
  have HS : Hid (∀ a ∈ l, fits a) := hs
  clear hs
  go_enter Tryd.func67, Tryd.ntmps67
  go_wp2
  go_loopw [5] (fun j wr => ∃ k : Nat, k ≤ l.length ∧ j = .int .i64 k ∧ Hid (cntTo l i k = true) ∧ Below w.heap.size w wr) (fun j _ => l.length - (intOf j).toNat)
  case atStart => exact ⟨0, Nat.zero_le _, rfl, by simp [Hid, cntTo], Below.refl _ _⟩
  case round =>
    obtain ⟨k, hk, rfl, ht, hbw⟩ := hrel
    by_cases hl : k < l.length
    · obtain ⟨c0, c1, c2, c3, c4, c5⟩ := (HR.out.below hbw hb).nth hl
      obtain ⟨d0, d1, d2, d3, d4, d5⟩ := (HR.out.below hbw hb).nth hi
      have hx := HS.out _ (nth_mem l k hl)
      have hy := HS.out _ (nth_mem l i hi)
      have hsz := hbw.size
      have hst := cntTo_stop l i k l.length hl
      have hsu := cntTo_succ l i k
      generalize nth l k = x at *
      generalize nth l i = y at *
      have HST : Hid (bad x y (decide (k < i)) = true → cntTo l i l.length = false) := hst
      have HSU : Hid (cntTo l i (k + 1) = (cntTo l i k && !bad x y (decide (k < i)))) := hsu
      clear hst hsu
      have q1 : (0 : Int) ≤ (k : Int) := by omega
      have q2 : (k : Int) < (l.length : Int) := by omega
      have q3 : (0 : Int) ≤ (i : Int) := by omega
      have q4 : (i : Int) < (l.length : Int) := by omega
      have hbr : b < wr.heap.size := by omega
      go_wp2
      go_region_held3 (fun w' => w'.cell? ⟨b, off + k * 6, none⟩ = some (.int .i64 x.ty) ∧ w'.cell? ⟨b, off + k * 6 + 1, none⟩ = some (.string x.key) ∧ w'.cell? ⟨b, off + k * 6 + 2, none⟩ = some (.int .i64 x.side) ∧ w'.cell? ⟨b, off + k * 6 + 3, none⟩ = some (.int .i64 x.who) ∧ w'.cell? ⟨b, off + k * 6 + 4, none⟩ = some (.string x.elem) ∧ w'.cell? ⟨b, off + k * 6 + 5, none⟩ = some (.int .i64 x.n) ∧ w'.cell? ⟨b, off + i * 6, none⟩ = some (.int .i64 y.ty) ∧ w'.cell? ⟨b, off + i * 6 + 1, none⟩ = some (.string y.key) ∧ w'.cell? ⟨b, off + i * 6 + 2, none⟩ = some (.int .i64 y.side) ∧ w'.cell? ⟨b, off + i * 6 + 3, none⟩ = some (.int .i64 y.who) ∧ w'.cell? ⟨b, off + i * 6 + 4, none⟩ = some (.string y.elem) ∧ w'.cell? ⟨b, off + i * 6 + 5, none⟩ = some (.int .i64 y.n)) (first | go_keep | (go_split_ands; refine ⟨?_, ?_, ?_, ?_, ?_, ?_, ?_, ?_, ?_, ?_, ?_, ?_⟩ <;> (rw [hb1.cell (p := ⟨b, _, none⟩) (by simpa using hbr)]; assumption))) (first | (go_at_call 68; refine (places_any x y _ hx hy).mono ?_; rintro e w1 ⟨rfl, hb1⟩))
      all_goals go_wp2
      clear c0 c1 c2 c3 c4 c5 d0 d1 d2 d3 d4 d5
      have hbr1 : b < w1.heap.size := Nat.lt_of_lt_of_le hbr hb1.size
      have hbw1 : Below w.heap.size w w1 := hbw.drew.trans (hb1.mono hsz)
      clear hb1
      go_region_held3 (fun w' => w'.cell? ⟨b, off + k * 6, none⟩ = some (.int .i64 x.ty) ∧ w'.cell? ⟨b, off + k * 6 + 1, none⟩ = some (.string x.key) ∧ w'.cell? ⟨b, off + k * 6 + 2, none⟩ = some (.int .i64 x.side) ∧ w'.cell? ⟨b, off + k * 6 + 3, none⟩ = some (.int .i64 x.who) ∧ w'.cell? ⟨b, off + k * 6 + 4, none⟩ = some (.string x.elem) ∧ w'.cell? ⟨b, off + k * 6 + 5, none⟩ = some (.int .i64 x.n) ∧ w'.cell? ⟨b, off + i * 6, none⟩ = some (.int .i64 y.ty) ∧ w'.cell? ⟨b, off + i * 6 + 1, none⟩ = some (.string y.key) ∧ w'.cell? ⟨b, off + i * 6 + 2, none⟩ = some (.int .i64 y.side) ∧ w'.cell? ⟨b, off + i * 6 + 3, none⟩ = some (.int .i64 y.who) ∧ w'.cell? ⟨b, off + i * 6 + 4, none⟩ = some (.string y.elem) ∧ w'.cell? ⟨b, off + i * 6 + 5, none⟩ = some (.int .i64 y.n)) (first | go_keep | (go_split_ands; refine ⟨?_, ?_, ?_, ?_, ?_, ?_, ?_, ?_, ?_, ?_, ?_, ?_⟩ <;> (rw [hb2.cell (p := ⟨b, _, none⟩) (by simpa using hbr1)]; assumption))) (first | (go_at_call 75; refine (grades_any x y _ hx hy).mono ?_; rintro e w2 ⟨rfl, hb2⟩))
      have hbw2 : Below w.heap.size w w2 := hbw1.drew.trans (hb2.mono hbw1.size)
      clear hb2 hbw1
      go_wp2
      all_goals go_light
      · go_ret
        exact ⟨ret_bool (HST.out (by simp [bad, *])).symm, hbw2⟩
      · exact ⟨⟨k + 1, by omega, by go_num, by rw [Hid, HSU.out, ht.out]; simp [bad, *], hbw2⟩, by simp [intOf]; omega⟩
      · exact ⟨⟨k + 1, by omega, by go_num, by rw [Hid, HSU.out, ht.out]; simp [bad, *], hbw2⟩, by simp [intOf]; omega⟩
      · go_ret
        exact ⟨ret_bool (HST.out (by simp [bad, *])).symm, hbw2⟩
      · exact ⟨⟨k + 1, by omega, by go_num, by rw [Hid, HSU.out, ht.out]; simp [bad, *], hbw2⟩, by simp [intOf]; omega⟩
    · go_wp2
      go_ret
      refine ⟨ret_bool ?_, hbw⟩
      have : k = l.length := by omega
      rw [← this, ht.out]
theorem infoAtom : (Tryd.prog.info? 52).map (fun i => (i.zero, i.size, i.bytes)) = some (some (.agg #[.int .i64 0, .string ⟨#[]⟩, .int .i64 0, .int .i64 0, .string ⟨#[]⟩, .int .i64 0]), 6, 64) := by kernel_rfl

set_option maxHeartbeats 1000000 in
theorem both_any (v1 v2 : Value) (l m : List At) (w : World) (h1 : SliceOf w v1 l) (h2 : SliceOf w v2 m) (hlen : l.length ≤ 549755813888) (hlen2 : m.length ≤ 549755813888) :
    Calls Tryd.prog 36 #[v1, v2] w fun e w' => ∃ v, e = .returned v ∧ w'.ownsRow w.heap.size 52 6 v (l ++ m).length (flat (l ++ m)) ∧ Below w.heap.size w w' := by
  obtain ⟨ad1, cap1, rfl, hc1, H1⟩ := h1
  obtain ⟨ad2, cap2, rfl, hc2, H2⟩ := h2
  have HR1 : Hid (0 < l.length → ∃ b off, ad1 = some ⟨b, off, none⟩ ∧ b < w.heap.size ∧ RowAt w b off l) := H1
  have HR2 : Hid (0 < m.length → ∃ b off, ad2 = some ⟨b, off, none⟩ ∧ b < w.heap.size ∧ RowAt w b off m) := H2
  clear H1 H2
  obtain ⟨i0, hi, hz0, hz1, hz2⟩ := info_parts infoAtom
  go_enter Tryd.func36, Tryd.ntmps36
  go_wp2
  go_loopw [5, 6] (fun v j wr => ∃ k : Nat, k ≤ l.length ∧ j = .int .i64 k ∧ wr.ownsRow w.heap.size 52 6 v k (flat (l.take k)) ∧ Below w.heap.size w wr) (fun _ j _ => l.length - (intOf j).toNat)
  case atStart => exact ⟨0, Nat.zero_le _, rfl, by simp [flat, World.ownsRow], Below.refl _ _⟩
  case round =>
    obtain ⟨k, hk, rfl, hown, hbw⟩ := hrel
    by_cases hl : k < l.length
    · obtain ⟨b, off, rfl, hb, hrow⟩ := HR1.out (by omega)
      obtain ⟨c0, c1, c2, c3, c4, c5⟩ := (hrow.below hbw hb) k hl
      clear hrow HR1
      have hsz := hbw.size
      have hft := flat_snoc (l.take k) (l[k])
      rw [← List.take_succ_eq_append_getElem hl] at hft
      generalize l[k] = x at *
      have HF : Hid (flat (l.take (k + 1)) = flat (l.take k) ++ enc x) := hft
      clear hft
      go_wp2_with (at_builtin; refine wpList_append_lies _ rfl _ _ 22 rfl w.heap.size 52 i0 _ 6 64 Tryd.underlying22 hi hz0 hz1 hz2 rfl (by decide) _ k _ rfl (hown.alloc _) ⟨wr.heap.size, 0, none⟩ 1 1 (enc x) rfl rfl (news_at wr x _) (enc_oneCell x) (by decide) (by unfold maxLen; omega) (by omega) (by simp; omega) (wr.heap.size + 1) (by simp) ?_; intro g capn w1 hown1 hgrow1 hat1 hlt1)
      go_roundw
      case rel => exact ⟨k + 1, by omega, by go_num, by rw [HF.out]; exact hown1, (hbw.alloc hsz _).grown hgrow1 (by simp; omega) (owns_base hown)⟩
      case measure => simp [intOf]; omega
    · have hkl : k = l.length := by omega
      subst hkl
      clear HR1
      rw [List.take_of_length_le (Nat.le_refl _)] at hown
      go_wp2
      obtain ⟨wo, rfl⟩ : ∃ wo : World, wo = wr := ⟨_, rfl⟩
      go_loopw [5, 7] (fun v j wr => ∃ k : Nat, k ≤ m.length ∧ j = .int .i64 k ∧ wr.ownsRow w.heap.size 52 6 v (l.length + k) (flat (l ++ m.take k)) ∧ Below w.heap.size w wr) (fun _ j _ => m.length - (intOf j).toNat)
      case atStart => exact ⟨0, Nat.zero_le _, rfl, by simpa using hown, hbw⟩
      case round =>
        clear hown hbw
        obtain ⟨k, hk, rfl, hown, hbw⟩ := hrel
        by_cases hl : k < m.length
        · obtain ⟨b, off, rfl, hb, hrow⟩ := HR2.out (by omega)
          obtain ⟨c0, c1, c2, c3, c4, c5⟩ := (hrow.below hbw hb) k hl
          clear hrow HR2
          have hsz := hbw.size
          have hft := flat_snoc (l ++ m.take k) (m[k])
          rw [List.append_assoc, ← List.take_succ_eq_append_getElem hl] at hft
          generalize m[k] = x at *
          have HF : Hid (flat (l ++ m.take (k + 1)) = flat (l ++ m.take k) ++ enc x) := hft
          clear hft
          go_wp2_with (at_builtin; refine wpList_append_lies _ rfl _ _ 22 rfl w.heap.size 52 i0 _ 6 64 Tryd.underlying22 hi hz0 hz1 hz2 rfl (by decide) _ (l.length + k) _ rfl (hown.alloc _) ⟨wr.heap.size, 0, none⟩ 1 1 (enc x) rfl rfl (news_at wr x _) (enc_oneCell x) (by decide) (by unfold maxLen; omega) (by omega) (by simp; omega) (wr.heap.size + 1) (by simp) ?_; intro g capn w1 hown1 hgrow1 hat1 hlt1)
          go_roundw
          case rel => exact ⟨k + 1, by omega, by go_num, by rw [HF.out, ← Nat.add_assoc]; exact hown1, (hbw.alloc hsz _).grown hgrow1 (by simp; omega) (owns_base hown)⟩
          case measure => simp [intOf]; omega
        · go_wp2
          go_ret
          rw [List.take_of_length_le (by omega)] at hown
          refine ⟨_, rfl, ?_, hbw⟩
          have : k = m.length := by omega
          rw [List.length_append, ← this]
          exact hown
end Go.Proofs.YtahdlejgjcjeoaaDoor
