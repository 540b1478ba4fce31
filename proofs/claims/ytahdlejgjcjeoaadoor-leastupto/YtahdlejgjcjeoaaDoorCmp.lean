/- Walks of cmp.Compare, cmp.Or at the program's types. -/
import Derived.Test.YtahdlejgjcjeoaaDoorStA
namespace Go.Proofs.YtahdlejgjcjeoaaDoor
open Go.RowKit

theorem cb_range : ∀ l r, Lib.compareBytes l r = -1 ∨ Lib.compareBytes l r = 0 ∨ Lib.compareBytes l r = 1
  | [], [] => by simp [Lib.compareBytes]
  | [], _ :: _ => by simp [Lib.compareBytes]
  | _ :: _, [] => by simp [Lib.compareBytes]
  | a :: l, b :: r => by
    have := cb_range l r
    simp only [Lib.compareBytes]
    split
    · simp
    · split
      · simp
      · exact this
theorem bytesLess_cb : ∀ l r, Op.bytesLess l r = decide (Lib.compareBytes l r < 0)
  | [], [] => by simp [Op.bytesLess, Lib.compareBytes]
  | [], _ :: _ => by simp [Op.bytesLess, Lib.compareBytes]
  | _ :: _, [] => by simp [Op.bytesLess, Lib.compareBytes]
  | a :: l, b :: r => by
    have ih := bytesLess_cb l r
    simp only [Op.bytesLess, Lib.compareBytes, ih]
    by_cases h : a < b
    · simp [h]
    · by_cases h2 : b < a
      · have : ¬ a = b := fun e => h (e ▸ h2)
        simp [h, h2, this]
      · have : a = b := UInt8.toNat_inj.1 (by rw [UInt8.lt_iff_toNat_lt] at h h2; omega)
        simp [this]
theorem lessS (x y : ByteArray) : Op.bytesLess x.toList y.toList = decide (ordS x y < 0) := by
  rw [ByteArray.toList_eq, ByteArray.toList_eq, bytesLess_cb]; rfl
theorem sameS (x y : ByteArray) : (x.toList == y.toList) = decide (ordS x y = 0) := by
  rw [ByteArray.toList_eq, ByteArray.toList_eq, Bool.eq_iff_iff, beq_iff_eq, decide_eq_true_eq]
  exact (cb_zero _ _).symm
theorem ordS_range (x y : ByteArray) : ordS x y = -1 ∨ ordS x y = 0 ∨ ordS x y = 1 := cb_range _ _

set_option maxHeartbeats 400000 in
theorem isNaN_int (x : Int) (w : World) :
    Calls Tryd.prog 136 #[.int .i64 x] w fun e w' => e = .returned (.bool false) ∧ w' = w := by
  go_enter Tryd.func136, Tryd.ntmps136
  go_wp2
  go_ret
  exact ⟨ret_bool (by simp), rfl⟩
set_option maxHeartbeats 400000 in
theorem isNaN_string (x : ByteArray) (w : World) :
    Calls Tryd.prog 137 #[.string x] w fun e w' => e = .returned (.bool false) ∧ w' = w := by
  go_enter Tryd.func137, Tryd.ntmps137
  go_wp2
  go_ret
  exact ⟨ret_bool (by simp), rfl⟩
set_option maxHeartbeats 1000000 in
theorem compare_int (x y : Int) (w : World) :
    Calls Tryd.prog 114 #[.int .i64 x, .int .i64 y] w fun e w' => e = .returned (.int .i64 (ci x y)) ∧ w' = w := by
  go_enter Tryd.func114, Tryd.ntmps114
  go_wp2_with (go_at_call 136; refine (isNaN_int _ _).mono ?_; rintro e w' ⟨rfl, rfl⟩)
  all_goals go_ret
  all_goals exact ⟨ret_int (by simp only [ci, sgn]; split <;> (try split) <;> omega), rfl⟩
set_option maxHeartbeats 1000000 in
theorem compare_string (x y : ByteArray) (w : World) :
    Calls Tryd.prog 115 #[.string x, .string y] w fun e w' => e = .returned (.int .i64 (ordS x y)) ∧ w' = w := by
  go_enter Tryd.func115, Tryd.ntmps115
  go_wp2_with (go_at_call 137; refine (isNaN_string _ _).mono ?_; rintro e w' ⟨rfl, rfl⟩)
  all_goals go_ret
  all_goals go_light
  all_goals refine ⟨ret_int ?_, rfl⟩
  all_goals have hr := ordS_range x y
  all_goals simp only [lessS, sameS, decide_eq_true_eq, decide_eq_false_iff_not, Bool.not_eq_true', Bool.not_eq_false'] at *
  all_goals omega

/-- The first that is not nought. -/
def orI : List Int → Int
  | [] => 0
  | x :: r => if x ≠ 0 then x else orI r
theorem orI_skip (l : List Int) : ∀ k, k ≤ l.length → (∀ j, (h : j < l.length) → j < k → l[j] = 0) → orI l = orI (l.drop k) := by
  intro k
  induction k generalizing l with
  | zero => intros; simp
  | succ k ih =>
    intro hk h
    cases l with
    | nil => simp at hk
    | cons x l =>
      have h0 : x = 0 := h 0 (by simp) (by omega)
      simp only [orI, h0, List.drop_succ_cons]
      simp
      exact ih l (by simpa using hk) (fun j hj hjk => by have := h (j + 1) (by simpa using hj) (by omega); simpa using this)
theorem orI_hit (l : List Int) (k : Nat) (hk : k < l.length) (h : ∀ j, (h : j < l.length) → j < k → l[j] = 0) (hn : l[k] ≠ 0) : orI l = l[k] := by
  rw [orI_skip l k (by omega) h, List.drop_eq_getElem_cons hk]
  simp [orI, hn]

set_option maxHeartbeats 1000000 in
theorem or_any (b cap : Nat) (l : List Int) (w : World) (hrow : ∀ k, (h : k < l.length) → w.cell? ⟨b, k, none⟩ = some (.int .i64 l[k])) (_hcap : l.length ≤ cap) (hlen : l.length ≤ 1000) :
    Calls Tryd.prog 113 #[.slice (some ⟨b, 0, none⟩) l.length cap] w fun e w' => e = .returned (.int .i64 (orI l)) ∧ w' = w := by
  have HR : Hid (∀ k, (h : k < l.length) → w.cell? ⟨b, k, none⟩ = some (.int .i64 l[k])) := hrow
  clear hrow
  go_enter Tryd.func113, Tryd.ntmps113
  go_wp2
  go_loopw [8] (fun i wr => ∃ k : Nat, k ≤ l.length ∧ i = .int .i64 k ∧ Hid (∀ j, (h : j < l.length) → j < k → l[j] = 0) ∧ wr = w) (fun i _ => l.length - (intOf i).toNat)
  case atStart => exact ⟨0, Nat.zero_le _, rfl, fun _ _ h => by omega, rfl⟩
  case round =>
    obtain ⟨k, hk, rfl, ht, rfl⟩ := hrel
    by_cases hl : k < l.length
    · have hc := HR.out k hl
      have HH : Hid (l[k] ≠ 0 → orI l = l[k]) := fun hn => orI_hit l k hl ht.out hn
      by_cases hz : l[k] = 0
      · rw [hz] at hc
        have HT : Hid (∀ j, (h : j < l.length) → j < k + 1 → l[j] = 0) := fun j hj hjk => by
          by_cases e : j = k
          · subst e; exact hz
          · exact ht.out j hj (by omega)
        clear hz HH
        go_wp2
        go_roundw
        case rel => exact ⟨k + 1, by omega, by go_num, HT, trivial⟩
        case measure => simp [intOf]; omega
      · have HE : Hid (orI l = l[k]) := HH.out hz
        clear HH
        generalize l[k] = x at *
        have hnx : (x != 0) = true := by simp [hz]
        clear hz
        go_wp2
        go_ret
        exact ⟨ret_int HE.out.symm, rfl⟩
    · have HE : Hid (orI l = 0) := by
        have := orI_skip l k hk ht.out
        rw [List.drop_of_length_le (by omega)] at this
        exact this
      go_wp2
      go_ret
      exact ⟨ret_int HE.out.symm, rfl⟩
end Go.Proofs.YtahdlejgjcjeoaaDoor
