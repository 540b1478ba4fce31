/- Walks of the document's small functions: sign, order, places, grades, May. -/
import Derived.Test.YtahdlejgjcjeoaaDoorProg
import Derived.Test.YtahdlejgjcjeoaaDoorBase
namespace Go.Proofs.YtahdlejgjcjeoaaDoor
open Go.RowKit

set_option maxHeartbeats 400000 in
theorem sign_any (n : Int) (w : World) :
    Calls Tryd.prog 108 #[.int .i64 n] w fun e w' => e = .returned (.int .i64 (sgn n)) ∧ w' = w := by
  by_cases h1 : n < 0
  · go_enter Tryd.func108, Tryd.ntmps108
    go_wp2
    go_ret
    exact ⟨ret_int (by simp [sgn, h1]), rfl⟩
  · by_cases h2 : 0 < n
    · go_enter Tryd.func108, Tryd.ntmps108
      go_wp2
      go_ret
      exact ⟨ret_int (by simp [sgn, h1, h2]), rfl⟩
    · go_enter Tryd.func108, Tryd.ntmps108
      go_wp2
      go_ret
      exact ⟨ret_int (by unfold sgn; rw [if_neg (by omega), if_neg (by omega)]), rfl⟩

set_option maxHeartbeats 1000000 in
theorem order_any (a b : ByteArray) (w : World) (ha : a.size ≤ 281474976710656) (hb : b.size ≤ 281474976710656) :
    Calls Tryd.prog 109 #[.string a, .string b] w fun e w' => e = .returned (.int .i64 (ordS a b)) ∧ ∃ q, w' = w.drewN q := by
  go_enter Tryd.func109, Tryd.ntmps109
  go_wp2
  go_loopw [5] (fun i wr => ∃ k : Nat, k ≤ a.size ∧ k ≤ b.size ∧ i = .int .i64 k ∧ Hid (a.data.toList.take k = b.data.toList.take k) ∧ Hid (∃ q, wr = w.drewN q)) (fun i _ => a.size - (intOf i).toNat)
  case atStart => exact ⟨0, Nat.zero_le _, Nat.zero_le _, rfl, by simp [Hid], 0, rfl⟩
  case round =>
    obtain ⟨k, hk1, hk2, rfl, ht, hbw⟩ := hrel
    obtain ⟨q0, rfl⟩ := hbw
    by_cases hl : k < a.size
    · by_cases hl2 : k < b.size
      · go_wp2
        go_quiet (fail)
        go_wp2
        · go_ret
          exact ⟨ret_int (ordS_lt a b k hl hl2 ht.out (by omega)).symm, drewN_all (by repeat (first | exact ⟨0, rfl⟩ | apply drewN_more))⟩
        · go_quiet (fail)
          go_wp2
          · go_ret
            exact ⟨ret_int (ordS_gt a b k hl hl2 ht.out (by omega)).symm, drewN_all (by repeat (first | exact ⟨0, rfl⟩ | apply drewN_more))⟩
          · go_roundw
            case rel => exact ⟨k + 1, by omega, by omega, by go_num, take_step a b k hl hl2 ht.out (by omega) (by omega), drewN_all (by repeat (first | exact ⟨0, rfl⟩ | apply drewN_more))⟩
            case measure => simp [intOf]; omega
      · go_wp2_with (go_at_call 108; refine (sign_any _ _).mono ?_; rintro e w' ⟨rfl, rfl⟩)
        go_ret
        exact ⟨ret_int (ordS_end a b k hk1 hk2 ht.out (by omega)).symm, _, rfl⟩
    · go_wp2_with (go_at_call 108; refine (sign_any _ _).mono ?_; rintro e w' ⟨rfl, rfl⟩)
      go_ret
      exact ⟨ret_int (ordS_end a b k hk1 hk2 ht.out (by omega)).symm, _, rfl⟩

set_option maxHeartbeats 1000000 in
theorem places_any (a b : At) (w : World) (ha : fits a) (hb : fits b) :
    Calls Tryd.prog 68 #[a.val, b.val] w fun e w' => e = .returned (.int .i64 (plc a b)) ∧ Below w.heap.size w w' := by
  obtain ⟨t1, k1, s1, w1, e1, n1⟩ := a
  obtain ⟨t2, k2, s2, w2, e2, n2⟩ := b
  unfold fits at ha hb
  simp only at ha hb
  obtain ⟨a1, a2, a3, a4, a5, a6, a7, a8, a9, a10⟩ := ha
  obtain ⟨b1, b2, b3, b4, b5, b6, b7, b8, b9, b10⟩ := hb
  unfold At.val
  simp only
  go_enter Tryd.func68, Tryd.ntmps68
  go_wp2_with (first | (go_at_call 108; refine (sign_any _ _).mono ?_; rintro e w' ⟨rfl, rfl⟩) | (go_at_call 109; refine (order_any _ _ _ (by omega) (by omega)).mono ?_; rintro e wz ⟨rfl, qz, rfl⟩))
  all_goals
    go_ret
    refine ⟨ret_int ?_, by repeat (first | exact Below.refl _ _ | refine below_drewN ?_ _ | refine Below.alloc ?_ (by simp) _)⟩
  all_goals simp_all [plc]

set_option maxHeartbeats 1000000 in
theorem grades_any (a b : At) (w : World) (ha : fits a) (hb : fits b) :
    Calls Tryd.prog 75 #[a.val, b.val] w fun e w' => e = .returned (.int .i64 (grd a b)) ∧ Below w.heap.size w w' := by
  obtain ⟨t1, k1, s1, w1, e1, n1⟩ := a
  obtain ⟨t2, k2, s2, w2, e2, n2⟩ := b
  unfold fits at ha hb
  simp only at ha hb
  obtain ⟨a1, a2, a3, a4, a5, a6, a7, a8, a9, a10⟩ := ha
  obtain ⟨b1, b2, b3, b4, b5, b6, b7, b8, b9, b10⟩ := hb
  unfold At.val
  simp only
  go_enter Tryd.func75, Tryd.ntmps75
  go_wp2_with (first | (go_at_call 108; refine (sign_any _ _).mono ?_; rintro e w' ⟨rfl, rfl⟩) | (go_at_call 109; refine (order_any _ _ _ (by omega) (by omega)).mono ?_; rintro e wz ⟨rfl, qz, rfl⟩))
  all_goals
    go_ret
    refine ⟨ret_int ?_, by repeat (first | exact Below.refl _ _ | refine below_drewN ?_ _ | refine Below.alloc ?_ (by simp) _)⟩
  all_goals simp_all [grd]

end Go.Proofs.YtahdlejgjcjeoaaDoor
