/- Walks of the laws' sameSlot, lower, below, thin. -/
import Derived.Test.YtahdlejgjcjeoabGreatDoorS09
import Derived.Test.YtahdlejgjcjeoabGreatDoorS04
import Derived.Test.YtahdlejgjcjeoabGreatDoorS08
import Derived.Test.YtahdlejgjcjeoabGreatDoorS10
namespace Go.Proofs.YtahdlejgjcjeoabGreatDoor
open Go.RowKit

theorem plc_zero_iff (x y : At) : plc x y = 0 ↔ x.ty = y.ty ∧ x.key = y.key ∧ (x.ty = 5 ∨ (x.side = y.side ∧ x.who = y.who ∧ x.elem = y.elem)) := by
  rw [plc_eq, scmp_zero]
  unfold slot
  by_cases h : x.ty = 5
  · by_cases k : y.ty = 5
    · simp [h, k]
    · rw [if_pos h, if_neg k]
      simp only [Sl.mk.injEq]
      constructor
      · rintro ⟨h1, _⟩; exact absurd (h1.symm.trans h) k
      · rintro ⟨h1, _⟩; exact absurd (h1.symm.trans h) k
  · rw [if_neg h]
    by_cases k : y.ty = 5
    · rw [if_pos k]
      simp only [Sl.mk.injEq]
      constructor
      · rintro ⟨h1, _⟩; exact absurd (h1.trans k) h
      · rintro ⟨h1, _⟩; exact absurd (h1.trans k) h
    · rw [if_neg k]
      simp only [Sl.mk.injEq]
      constructor
      · rintro ⟨h1, h2, h3, h4, h5⟩; exact ⟨h1, h2, .inr ⟨h3, h4, h5⟩⟩
      · rintro ⟨h1, h2, h3⟩
        rcases h3 with h3 | ⟨h3, h4, h5⟩
        · exact absurd h3 h
        · exact ⟨h1, h2, h3, h4, h5⟩
set_option maxRecDepth 100000 in
set_option maxHeartbeats 2000000 in
theorem sameSlot_is (x y : At) (w : World) :
    Calls Tryz.prog 103 #[x.val, y.val] w fun e w' => e = .returned (.bool (decide (plc x y = 0))) ∧ Below w.heap.size w w' := by
  obtain ⟨R, hR⟩ : ∃ R : Bool, Hid (decide (plc x y = 0) = R) := ⟨_, rfl⟩
  rw [hR.out]
  have HZ : Hid (R = true ↔ x.ty = y.ty ∧ x.key = y.key ∧ (x.ty = 5 ∨ (x.side = y.side ∧ x.who = y.who ∧ x.elem = y.elem))) := by
    show _ ↔ _
    rw [← plc_zero_iff, ← hR.out, decide_eq_true_eq]
  clear hR
  obtain ⟨ty, key, side, who, elem, n⟩ := x
  obtain ⟨ty2, key2, side2, who2, elem2, n2⟩ := y
  unfold At.val
  simp only at HZ
  have HB : Hid (∀ o1 o2, Below w.heap.size w ((w.alloc o1).alloc o2)) := fun o1 o2 => below_alloc (below_alloc (Below.refl _ w) o1) o2
  go_enter Tryz.func103, Tryz.ntmps103
  go_wp2
  all_goals go_ret
  all_goals refine ⟨ret_bool ?_, HB.out _ _⟩
  all_goals rw [Bool.eq_iff_iff, HZ.out]
  all_goals clear HZ HB
  all_goals try simp only [sameS, ordS_zero, decide_eq_false_iff_not, Bool.not_eq_eq_eq_not, Bool.not_true] at *
  all_goals simp_all

set_option maxRecDepth 100000 in
set_option maxHeartbeats 2000000 in
theorem lower_is (x y : At) (w : World) :
    Calls Tryz.prog 104 #[x.val, y.val] w fun e w' => e = .returned (.bool (decide (grd x y < 0))) ∧ Below w.heap.size w w' := by
  obtain ⟨R, hR⟩ : ∃ R : Bool, Hid (decide (grd x y < 0) = R) := ⟨_, rfl⟩
  rw [hR.out]
  have HZ : Hid (R = if x.n ≠ y.n ∨ x.ty ≠ 5 then decide (x.n < y.n) else if x.who ≠ y.who then decide (x.who < y.who) else decide (ordS x.elem y.elem < 0)) := by
    show _ = _
    rw [← hR.out]
    unfold grd
    by_cases h1 : x.n = y.n
    · by_cases h2 : x.ty = 5
      · by_cases h3 : x.who = y.who
        · simp [h1, h2, h3]
        · simp only [h1, h2, h3, ne_eq, not_true_eq_false, not_false_eq_true, if_false, if_true, or_self]
          unfold sgn
          rw [Bool.eq_iff_iff, decide_eq_true_eq, decide_eq_true_eq]
          split
          · omega
          · split <;> omega
      · simp [h1, h2]
    · simp only [h1, ne_eq, not_false_eq_true, if_true, true_or]
      unfold sgn
      rw [Bool.eq_iff_iff, decide_eq_true_eq, decide_eq_true_eq]
      split
      · omega
      · split <;> omega
  clear hR
  obtain ⟨ty, key, side, who, elem, n⟩ := x
  obtain ⟨ty2, key2, side2, who2, elem2, n2⟩ := y
  unfold At.val
  simp only at HZ
  have HB : Hid (∀ o1 o2, Below w.heap.size w ((w.alloc o1).alloc o2)) := fun o1 o2 => below_alloc (below_alloc (Below.refl _ w) o1) o2
  go_enter Tryz.func104, Tryz.ntmps104
  go_wp2
  all_goals go_ret
  all_goals refine ⟨ret_bool ?_, HB.out _ _⟩
  all_goals rw [HZ.out]
  all_goals clear HZ HB
  all_goals try simp only [lessS] at *
  all_goals simp_all

theorem cell_kept {w w' : World} {p : Addr} {u : Value} (h : w.cell? p = some u) (hb : Below w.heap.size w w') : w'.cell? p = some u := by
  have : p.block < w.heap.size := by
    have h0 : w.heap[p.block]? ≠ none := by
      intro hn
      unfold World.cell? at h
      simp [hn] at h
    have := mt Array.getElem?_eq_none h0
    omega
  rw [hb.cell this]
  exact h
theorem twelve_kept {w w' : World} {b1 o1 b2 o2 : Nat} {x y : At} (h : w.cell? ⟨b1, o1, none⟩ = some (.int .i64 x.ty) ∧ w.cell? ⟨b1, o1 + 1, none⟩ = some (.string x.key) ∧ w.cell? ⟨b1, o1 + 2, none⟩ = some (.int .i64 x.side) ∧ w.cell? ⟨b1, o1 + 3, none⟩ = some (.int .i64 x.who) ∧ w.cell? ⟨b1, o1 + 4, none⟩ = some (.string x.elem) ∧ w.cell? ⟨b1, o1 + 5, none⟩ = some (.int .i64 x.n) ∧ w.cell? ⟨b2, o2, none⟩ = some (.int .i64 y.ty) ∧ w.cell? ⟨b2, o2 + 1, none⟩ = some (.string y.key) ∧ w.cell? ⟨b2, o2 + 2, none⟩ = some (.int .i64 y.side) ∧ w.cell? ⟨b2, o2 + 3, none⟩ = some (.int .i64 y.who) ∧ w.cell? ⟨b2, o2 + 4, none⟩ = some (.string y.elem) ∧ w.cell? ⟨b2, o2 + 5, none⟩ = some (.int .i64 y.n)) (hb : Below w.heap.size w w') :
    w'.cell? ⟨b1, o1, none⟩ = some (.int .i64 x.ty) ∧ w'.cell? ⟨b1, o1 + 1, none⟩ = some (.string x.key) ∧ w'.cell? ⟨b1, o1 + 2, none⟩ = some (.int .i64 x.side) ∧ w'.cell? ⟨b1, o1 + 3, none⟩ = some (.int .i64 x.who) ∧ w'.cell? ⟨b1, o1 + 4, none⟩ = some (.string x.elem) ∧ w'.cell? ⟨b1, o1 + 5, none⟩ = some (.int .i64 x.n) ∧ w'.cell? ⟨b2, o2, none⟩ = some (.int .i64 y.ty) ∧ w'.cell? ⟨b2, o2 + 1, none⟩ = some (.string y.key) ∧ w'.cell? ⟨b2, o2 + 2, none⟩ = some (.int .i64 y.side) ∧ w'.cell? ⟨b2, o2 + 3, none⟩ = some (.int .i64 y.who) ∧ w'.cell? ⟨b2, o2 + 4, none⟩ = some (.string y.elem) ∧ w'.cell? ⟨b2, o2 + 5, none⟩ = some (.int .i64 y.n) := by
  obtain ⟨c0, c1, c2, c3, c4, c5, d0, d1, d2, d3, d4, d5⟩ := h
  exact ⟨cell_kept c0 hb, cell_kept c1 hb, cell_kept c2 hb, cell_kept c3 hb, cell_kept c4 hb, cell_kept c5 hb, cell_kept d0 hb, cell_kept d1 hb, cell_kept d2 hb, cell_kept d3 hb, cell_kept d4 hb, cell_kept d5 hb⟩
/-- y is no lower than x. -/
def overB (x y : At) : Bool := decide (plc x y = 0) && !decide (grd y x < 0)
theorem overB_of {x y : At} (hp : plc x y = 0) (hg : grd x y ≤ 0) : overB x y = true := by
  unfold overB
  have := grd_anti (plc_ty hp)
  simp [hp]
  omega

set_option maxRecDepth 100000 in
set_option maxHeartbeats 4000000 in
theorem below_lo (v1 v2 : Value) (l m : List At) (w : World) (h1 : SliceOf w v1 l) (h2 : SliceOf w v2 m) (hlen : l.length ≤ 4194304) (hlen2 : m.length ≤ 4194304) :
    Calls Tryz.prog 52 #[v1, v2] w fun e w' => ∃ r : Bool, e = .returned (.bool r) ∧ Hid (Lo l m → r = true) ∧ Below w.heap.size w w' := by
  have H1 : Hid (SliceOf w v1 l) := h1
  have H2 : Hid (SliceOf w v2 m) := h2
  obtain ⟨ad1, cap1, rfl, _, _⟩ := h1
  obtain ⟨ad2, cap2, rfl, _, _⟩ := h2
  go_enter Tryz.func52, Tryz.ntmps52
  go_wp2
  go_loopw [5] (fun j wr => ∃ i : Nat, i ≤ l.length ∧ j = .int .i64 i ∧ Below w.heap.size w wr) (fun j _ => l.length - (intOf j).toNat)
  case atStart => exact ⟨0, Nat.zero_le _, rfl, Below.refl _ _⟩
  case round =>
    obtain ⟨i, hi, rfl, hbw⟩ := hrel
    by_cases hil : i < l.length
    · go_wp2
      go_loopw [6, 7] (fun t j w2 => ∃ (k : Nat) (b : Bool), k ≤ m.length ∧ j = .int .i64 k ∧ t = .bool b ∧ Hid ((∃ y ∈ m.take k, overB (nth l i) y = true) → b = true) ∧ Below w.heap.size w w2) (fun _ j _ => m.length - (intOf j).toNat)
      case atStart => exact ⟨0, false, Nat.zero_le _, rfl, rfl, by simp [Hid], hbw⟩
      case round =>
        obtain ⟨k, b, hk, rfl, rfl, hb, hbw2⟩ := hrel
        by_cases hkm : k < m.length
        · obtain ⟨ad', cap', e', -, HS1⟩ := H1.out.below hbw2
          cases e'
          obtain ⟨b1, off1, rfl, hb1, hrow1⟩ := HS1 (by omega)
          obtain ⟨ad', cap', e', -, HS2⟩ := H2.out.below hbw2
          cases e'
          obtain ⟨b2, off2, rfl, hb2, hrow2⟩ := HS2 (by omega)
          have hcs : wr.cell? ⟨b1, off1 + i * 6, none⟩ = some (.int .i64 (nth l i).ty) ∧ wr.cell? ⟨b1, off1 + i * 6 + 1, none⟩ = some (.string (nth l i).key) ∧ wr.cell? ⟨b1, off1 + i * 6 + 2, none⟩ = some (.int .i64 (nth l i).side) ∧ wr.cell? ⟨b1, off1 + i * 6 + 3, none⟩ = some (.int .i64 (nth l i).who) ∧ wr.cell? ⟨b1, off1 + i * 6 + 4, none⟩ = some (.string (nth l i).elem) ∧ wr.cell? ⟨b1, off1 + i * 6 + 5, none⟩ = some (.int .i64 (nth l i).n) ∧ wr.cell? ⟨b2, off2 + k * 6, none⟩ = some (.int .i64 (nth m k).ty) ∧ wr.cell? ⟨b2, off2 + k * 6 + 1, none⟩ = some (.string (nth m k).key) ∧ wr.cell? ⟨b2, off2 + k * 6 + 2, none⟩ = some (.int .i64 (nth m k).side) ∧ wr.cell? ⟨b2, off2 + k * 6 + 3, none⟩ = some (.int .i64 (nth m k).who) ∧ wr.cell? ⟨b2, off2 + k * 6 + 4, none⟩ = some (.string (nth m k).elem) ∧ wr.cell? ⟨b2, off2 + k * 6 + 5, none⟩ = some (.int .i64 (nth m k).n) := by
            obtain ⟨c0, c1, c2, c3, c4, c5⟩ := hrow1.nth hil
            obtain ⟨d0, d1, d2, d3, d4, d5⟩ := hrow2.nth hkm
            exact ⟨c0, c1, c2, c3, c4, c5, d0, d1, d2, d3, d4, d5⟩
          have HST : Hid ((∃ y ∈ m.take (k + 1), overB (nth l i) y = true) → (∃ y ∈ m.take k, overB (nth l i) y = true) ∨ overB (nth l i) (nth m k) = true) := fun ⟨y, h, ho⟩ => by
            rw [List.take_succ_eq_append_getElem hkm, List.mem_append] at h
            rcases h with h | h
            · exact .inl ⟨y, h, ho⟩
            · right
              rw [nth_eq m k hkm]
              obtain rfl : y = m[k] := by simpa using h
              exact ho
          have HSS : Hid (∀ W : World, Calls Tryz.prog 103 #[(nth l i).val, (nth m k).val] W fun e w' => ∃ r1 : Bool, e = .returned (.bool r1) ∧ Hid (r1 = decide (plc (nth l i) (nth m k) = 0)) ∧ Below W.heap.size W w') := fun W => (sameSlot_is _ _ W).mono fun e w' h => ⟨_, h.1, rfl, h.2⟩
          have HLO : Hid (∀ W : World, Calls Tryz.prog 104 #[(nth m k).val, (nth l i).val] W fun e w' => ∃ r2 : Bool, e = .returned (.bool r2) ∧ Hid (r2 = decide (grd (nth m k) (nth l i) < 0)) ∧ Below W.heap.size W w') := fun W => (lower_is _ _ W).mono fun e w' h => ⟨_, h.1, rfl, h.2⟩
          clear hrow1 hrow2 HS1 HS2 H1 H2 hb1 hb2
          generalize nth l i = x at *
          generalize nth m k = y at *
          unfold At.val at HSS HLO
          have q1 : (0 : Int) ≤ (k : Int) := by omega
          have q2 : (k : Int) < (m.length : Int) := by omega
          have q3 : (0 : Int) ≤ (i : Int) := by omega
          have q4 : (i : Int) < (l.length : Int) := by omega
          obtain ⟨c0, c1, c2, c3, c4, c5, d0, d1, d2, d3, d4, d5⟩ := id hcs
          go_wp2
          go_region_held3 (fun w' => w'.cell? ⟨b1, off1 + i * 6, none⟩ = some (.int .i64 x.ty) ∧ w'.cell? ⟨b1, off1 + i * 6 + 1, none⟩ = some (.string x.key) ∧ w'.cell? ⟨b1, off1 + i * 6 + 2, none⟩ = some (.int .i64 x.side) ∧ w'.cell? ⟨b1, off1 + i * 6 + 3, none⟩ = some (.int .i64 x.who) ∧ w'.cell? ⟨b1, off1 + i * 6 + 4, none⟩ = some (.string x.elem) ∧ w'.cell? ⟨b1, off1 + i * 6 + 5, none⟩ = some (.int .i64 x.n) ∧ w'.cell? ⟨b2, off2 + k * 6, none⟩ = some (.int .i64 y.ty) ∧ w'.cell? ⟨b2, off2 + k * 6 + 1, none⟩ = some (.string y.key) ∧ w'.cell? ⟨b2, off2 + k * 6 + 2, none⟩ = some (.int .i64 y.side) ∧ w'.cell? ⟨b2, off2 + k * 6 + 3, none⟩ = some (.int .i64 y.who) ∧ w'.cell? ⟨b2, off2 + k * 6 + 4, none⟩ = some (.string y.elem) ∧ w'.cell? ⟨b2, off2 + k * 6 + 5, none⟩ = some (.int .i64 y.n)) (first | go_keep | exact twelve_kept (by assumption) hbN | fail) (first | (go_at_call 103; refine (HSS.out _).mono ?_; rintro e wN ⟨r1, rfl, hr1, hbN⟩) | fail)
          have hbx : Below w.heap.size w wN := hbw2.trans ((Below.refl _ _).drew.trans hbN |>.mono hbw2.size)
          have hcs2 := twelve_kept (twelve_kept hcs (Below.refl _ wr).drew) hbN
          clear hcs c0 c1 c2 c3 c4 c5 d0 d1 d2 d3 d4 d5 HSS hbN
          obtain ⟨c0, c1, c2, c3, c4, c5, d0, d1, d2, d3, d4, d5⟩ := id hcs2
          go_wp2
          go_region_held3 (fun w' => w'.cell? ⟨b1, off1 + i * 6, none⟩ = some (.int .i64 x.ty) ∧ w'.cell? ⟨b1, off1 + i * 6 + 1, none⟩ = some (.string x.key) ∧ w'.cell? ⟨b1, off1 + i * 6 + 2, none⟩ = some (.int .i64 x.side) ∧ w'.cell? ⟨b1, off1 + i * 6 + 3, none⟩ = some (.int .i64 x.who) ∧ w'.cell? ⟨b1, off1 + i * 6 + 4, none⟩ = some (.string x.elem) ∧ w'.cell? ⟨b1, off1 + i * 6 + 5, none⟩ = some (.int .i64 x.n) ∧ w'.cell? ⟨b2, off2 + k * 6, none⟩ = some (.int .i64 y.ty) ∧ w'.cell? ⟨b2, off2 + k * 6 + 1, none⟩ = some (.string y.key) ∧ w'.cell? ⟨b2, off2 + k * 6 + 2, none⟩ = some (.int .i64 y.side) ∧ w'.cell? ⟨b2, off2 + k * 6 + 3, none⟩ = some (.int .i64 y.who) ∧ w'.cell? ⟨b2, off2 + k * 6 + 4, none⟩ = some (.string y.elem) ∧ w'.cell? ⟨b2, off2 + k * 6 + 5, none⟩ = some (.int .i64 y.n)) (first | go_keep | exact twelve_kept (by assumption) hbM | fail) (first | (go_at_call 104; refine (HLO.out _).mono ?_; rintro e wM ⟨r2, rfl, hr2, hbM⟩) | fail)
          have hby : Below w.heap.size w wM := hbx.trans ((Below.refl _ _).drew.trans hbM |>.mono hbx.size)
          have HB2 : Hid ((∃ y ∈ m.take (k + 1), overB x y = true) → (b || (r1 && !r2)) = true) := fun h => by
            rcases HST.out h with h | h
            · rw [hb.out h]; rfl
            · rw [hr1.out, hr2.out]
              unfold overB at h
              rw [h]
              simp
          clear hcs2 c0 c1 c2 c3 c4 c5 d0 d1 d2 d3 d4 d5 HLO hbM hbx hb hr1 hr2 HST
          cases b <;> cases r1 <;> cases r2
          all_goals go_wp2
          all_goals exact ⟨⟨k + 1, _, by omega, by go_num, rfl, HB2, hby⟩, by simp [intOf]; omega⟩
        · have HNI : Hid ((∃ y ∈ m, overB (nth l i) y = true) → b = true) := fun h => hb.out (by rw [List.take_of_length_le (by omega)]; exact h)
          have HIN : Hid (nth l i ∈ l) := nth_mem l i hil
          cases b
          · go_wp2
            go_ret
            exact ⟨false, rfl, fun h => absurd (HNI.out (by
              obtain ⟨y, hy, hp, hg⟩ := h _ HIN.out
              exact ⟨y, hy, overB_of hp hg⟩)) (by simp), hbw2⟩
          · go_wp2
            exact ⟨⟨i + 1, by omega, by go_num, hbw2⟩, by simp [intOf]; omega⟩
    · go_wp2
      go_ret
      exact ⟨true, rfl, fun _ => rfl, hbw⟩

set_option maxRecDepth 100000 in
set_option maxHeartbeats 4000000 in
theorem thin_told (v1 : Value) (l : List At) (w : World) (h1 : SliceOf w v1 l) (hlen : l.length ≤ 4194304) (hs : l.Pairwise (fun x y => plc x y < 0)) :
    Calls Tryz.prog 51 #[v1] w fun e w' => e = .returned (.bool true) ∧ Below w.heap.size w w' := by
  have H1 : Hid (SliceOf w v1 l) := h1
  have HS : Hid (∀ i k, i < l.length → k < i → plc (nth l i) (nth l k) ≠ 0) := fun i k hi hk => by
    rw [nth_eq l i hi, nth_eq l k (by omega)]
    have := (List.pairwise_iff_getElem.1 hs) k i (by omega) hi hk
    have := plc_tp.anti l[k] l[i]
    omega
  clear hs
  obtain ⟨ad1, cap1, rfl, _, _⟩ := h1
  go_enter Tryz.func51, Tryz.ntmps51
  go_wp2
  go_loopw [3] (fun j wr => ∃ i : Nat, i ≤ l.length ∧ j = .int .i64 i ∧ Below w.heap.size w wr) (fun j _ => l.length - (intOf j).toNat)
  case atStart => exact ⟨0, Nat.zero_le _, rfl, Below.refl _ _⟩
  case round =>
    obtain ⟨i, hi, rfl, hbw⟩ := hrel
    by_cases hil : i < l.length
    · go_wp2
      go_loopw [4] (fun j w2 => ∃ (k : Nat), k ≤ i ∧ j = .int .i64 k ∧ Below w.heap.size w w2) (fun j _ => i - (intOf j).toNat)
      case atStart => exact ⟨0, Nat.zero_le _, rfl, hbw⟩
      case round =>
        obtain ⟨k, hk, rfl, hbw2⟩ := hrel
        by_cases hkm : k < i
        · obtain ⟨ad', cap', e', -, HS1⟩ := H1.out.below hbw2
          cases e'
          obtain ⟨b1, off1, rfl, hb1, hrow1⟩ := HS1 (by omega)
          have hcs : wr.cell? ⟨b1, off1 + i * 6, none⟩ = some (.int .i64 (nth l i).ty) ∧ wr.cell? ⟨b1, off1 + i * 6 + 1, none⟩ = some (.string (nth l i).key) ∧ wr.cell? ⟨b1, off1 + i * 6 + 2, none⟩ = some (.int .i64 (nth l i).side) ∧ wr.cell? ⟨b1, off1 + i * 6 + 3, none⟩ = some (.int .i64 (nth l i).who) ∧ wr.cell? ⟨b1, off1 + i * 6 + 4, none⟩ = some (.string (nth l i).elem) ∧ wr.cell? ⟨b1, off1 + i * 6 + 5, none⟩ = some (.int .i64 (nth l i).n) ∧ wr.cell? ⟨b1, off1 + k * 6, none⟩ = some (.int .i64 (nth l k).ty) ∧ wr.cell? ⟨b1, off1 + k * 6 + 1, none⟩ = some (.string (nth l k).key) ∧ wr.cell? ⟨b1, off1 + k * 6 + 2, none⟩ = some (.int .i64 (nth l k).side) ∧ wr.cell? ⟨b1, off1 + k * 6 + 3, none⟩ = some (.int .i64 (nth l k).who) ∧ wr.cell? ⟨b1, off1 + k * 6 + 4, none⟩ = some (.string (nth l k).elem) ∧ wr.cell? ⟨b1, off1 + k * 6 + 5, none⟩ = some (.int .i64 (nth l k).n) := by
            obtain ⟨c0, c1, c2, c3, c4, c5⟩ := hrow1.nth hil
            obtain ⟨d0, d1, d2, d3, d4, d5⟩ := hrow1.nth (show k < l.length by omega)
            exact ⟨c0, c1, c2, c3, c4, c5, d0, d1, d2, d3, d4, d5⟩
          have HSS : Hid (∀ W : World, Calls Tryz.prog 103 #[(nth l i).val, (nth l k).val] W fun e w' => e = .returned (.bool false) ∧ Below W.heap.size W w') := fun W => by
            have := sameSlot_is (nth l i) (nth l k) W
            rw [decide_eq_false (HS.out i k hil hkm)] at this
            exact this
          clear hrow1 HS1 H1 hb1 HS
          generalize nth l i = x at *
          generalize nth l k = y at *
          unfold At.val at HSS
          have q1 : (0 : Int) ≤ (k : Int) := by omega
          have q2 : (k : Int) < (l.length : Int) := by omega
          have q3 : (0 : Int) ≤ (i : Int) := by omega
          have q4 : (i : Int) < (l.length : Int) := by omega
          have q5 : (k : Int) < (i : Int) := by omega
          obtain ⟨c0, c1, c2, c3, c4, c5, d0, d1, d2, d3, d4, d5⟩ := id hcs
          go_wp2
          go_region_held3 (fun w' => w'.cell? ⟨b1, off1 + i * 6, none⟩ = some (.int .i64 x.ty) ∧ w'.cell? ⟨b1, off1 + i * 6 + 1, none⟩ = some (.string x.key) ∧ w'.cell? ⟨b1, off1 + i * 6 + 2, none⟩ = some (.int .i64 x.side) ∧ w'.cell? ⟨b1, off1 + i * 6 + 3, none⟩ = some (.int .i64 x.who) ∧ w'.cell? ⟨b1, off1 + i * 6 + 4, none⟩ = some (.string x.elem) ∧ w'.cell? ⟨b1, off1 + i * 6 + 5, none⟩ = some (.int .i64 x.n) ∧ w'.cell? ⟨b1, off1 + k * 6, none⟩ = some (.int .i64 y.ty) ∧ w'.cell? ⟨b1, off1 + k * 6 + 1, none⟩ = some (.string y.key) ∧ w'.cell? ⟨b1, off1 + k * 6 + 2, none⟩ = some (.int .i64 y.side) ∧ w'.cell? ⟨b1, off1 + k * 6 + 3, none⟩ = some (.int .i64 y.who) ∧ w'.cell? ⟨b1, off1 + k * 6 + 4, none⟩ = some (.string y.elem) ∧ w'.cell? ⟨b1, off1 + k * 6 + 5, none⟩ = some (.int .i64 y.n)) (first | go_keep | exact twelve_kept (by assumption) hbN | fail) (first | (go_at_call 103; refine (HSS.out _).mono ?_; rintro e wN ⟨rfl, hbN⟩) | fail)
          have hbx : Below w.heap.size w wN := hbw2.trans ((Below.refl _ _).drew.trans hbN |>.mono hbw2.size)
          clear hcs c0 c1 c2 c3 c4 c5 d0 d1 d2 d3 d4 d5 HSS hbN
          go_wp2
          exact ⟨⟨k + 1, by omega, by go_num, hbx⟩, by simp [intOf]; omega⟩
        · have q5 : ¬ (k : Int) < (i : Int) := by omega
          go_wp2
          exact ⟨⟨i + 1, by omega, by go_num, hbw2⟩, by simp [intOf]; omega⟩
    · go_wp2
      go_ret
      exact ⟨rfl, hbw⟩
end Go.Proofs.YtahdlejgjcjeoabGreatDoor
