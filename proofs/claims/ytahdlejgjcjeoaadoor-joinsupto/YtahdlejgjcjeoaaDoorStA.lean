/- Walks of the program's package state: rules, mayBe, split, greater, unite. -/
import Derived.Test.YtahdlejgjcjeoaaDoorMapK
import Derived.Test.YtahdlejgjcjeoaaDoorMem
import Derived.Test.YtahdlejgjcjeoaaDoorRefMay
import Derived.Deep.RegionHeld3
import Derived.Deep.Light
import Derived.RegionTactic
import Derived.BigRegion
namespace Go.Proofs.YtahdlejgjcjeoaaDoor
open Go.RowKit

/-- The cells of one rule of the table. -/
def ruleAt (w : World) (o : Nat) (ms mw n0 n1 me : Int) (reg : Bool) : Prop :=
  w.cell? ⟨0, o, none⟩ = some (.int .i64 ms) ∧ w.cell? ⟨0, o + 1, none⟩ = some (.int .i64 mw) ∧ w.cell? ⟨0, o + 2, none⟩ = some (.int .i64 n0) ∧ w.cell? ⟨0, o + 3, none⟩ = some (.int .i64 n1) ∧ w.cell? ⟨0, o + 4, none⟩ = some (.int .i64 me) ∧ w.cell? ⟨0, o + 5, none⟩ = some (.bool reg)
/-- THE TABLE IS LAID. -/
def RulesAt (w : World) : Prop := 0 < w.heap.size ∧ ruleAt w 0 0 5 1 2147483647 0 false ∧ ruleAt w 6 1 5 1 2147483647 0 false ∧ ruleAt w 12 0 0 0 0 8 false ∧ ruleAt w 18 1 0 0 0 8 false ∧ ruleAt w 24 0 5 1 2147483647 8 true

theorem ruleAt.below {B : Nat} {w w' : World} (hb : Below B w w') (h0 : 0 < B) {o : Nat} {a b c d e : Int} {r : Bool} (h : ruleAt w o a b c d e r) : ruleAt w' o a b c d e r := by
  obtain ⟨c0, c1, c2, c3, c4, c5⟩ := h
  refine ⟨?_, ?_, ?_, ?_, ?_, ?_⟩ <;> (rw [hb.cell (p := ⟨0, _, none⟩) h0]; assumption)
theorem RulesAt.below {w w' : World} (h : RulesAt w) {B : Nat} (hb : Below B w w') (h0 : 0 < B) : RulesAt w' := by
  obtain ⟨h1, r1, r2, r3, r4, r5⟩ := h
  exact ⟨Nat.lt_of_lt_of_le h1 hb.size, r1.below hb h0, r2.below hb h0, r3.below hb h0, r4.below hb h0, r5.below hb h0⟩

theorem kinds5 {k : Int} (h1 : 1 ≤ k) (h5 : k ≤ 5) : k = 1 ∨ k = 2 ∨ k = 3 ∨ k = 4 ∨ k = 5 := by omega

set_option maxHeartbeats 400000 in
theorem isRegister_any (k : Int) (w : World) (h : RulesAt w) (h1 : 1 ≤ k) (h5 : k ≤ 5) :
    Calls Tryd.prog 110 #[.int .i64 k] w fun e w' => e = .returned (.bool (k == 5)) ∧ w' = w := by
  obtain ⟨h0, r1, r2, r3, r4, r5⟩ := h
  rcases kinds5 h1 h5 with rfl | rfl | rfl | rfl | rfl
  · obtain ⟨c0, c1, c2, c3, c4, c5⟩ := r1
    clear r2 r3 r4 r5
    go_enter Tryd.func110, Tryd.ntmps110
    go_wp2
    go_ret
    exact ⟨rfl, rfl⟩
  · obtain ⟨c0, c1, c2, c3, c4, c5⟩ := r2
    clear r1 r3 r4 r5
    go_enter Tryd.func110, Tryd.ntmps110
    go_wp2
    go_ret
    exact ⟨rfl, rfl⟩
  · obtain ⟨c0, c1, c2, c3, c4, c5⟩ := r3
    clear r2 r1 r4 r5
    go_enter Tryd.func110, Tryd.ntmps110
    go_wp2
    go_ret
    exact ⟨rfl, rfl⟩
  · obtain ⟨c0, c1, c2, c3, c4, c5⟩ := r4
    clear r2 r3 r1 r5
    go_enter Tryd.func110, Tryd.ntmps110
    go_wp2
    go_ret
    exact ⟨rfl, rfl⟩
  · obtain ⟨c0, c1, c2, c3, c4, c5⟩ := r5
    clear r2 r3 r4 r1
    go_enter Tryd.func110, Tryd.ntmps110
    go_wp2
    go_ret
    exact ⟨rfl, rfl⟩

def wi (n a b : Int) : Bool := decide (a ≤ n) && decide (n ≤ b)
theorem wi_iff (n a b : Int) : wi n a b = true ↔ a ≤ n ∧ n ≤ b := by simp [wi]
theorem wi_false (n a b : Int) : wi n a b = false ↔ ¬ (a ≤ n ∧ n ≤ b) := by rw [← wi_iff]; simp
set_option maxHeartbeats 400000 in
theorem within_any (n a b : Int) (w : World) :
    Calls Tryd.prog 97 #[.int .i64 n, .int .i64 a, .int .i64 b] w fun e w' => e = .returned (.bool (wi n a b)) ∧ w' = w := by
  by_cases h : a ≤ n
  · go_enter Tryd.func97, Tryd.ntmps97
    go_wp2
    go_ret
    exact ⟨ret_bool (by simp [wi, h]), rfl⟩
  · go_enter Tryd.func97, Tryd.ntmps97
    go_wp2
    go_ret
    exact ⟨ret_bool (by simp [wi]; omega), rfl⟩

set_option maxHeartbeats 400000 in
theorem isType_any (k : Int) (w : World) :
    Calls Tryd.prog 51 #[.int .i64 k] w fun e w' => e = .returned (.bool (wi k 1 5)) ∧ w' = w := by
  go_enter Tryd.func51, Tryd.ntmps51
  go_wp2_with (go_at_call 97; refine (within_any _ _ _ _).mono ?_; rintro e w' ⟨rfl, rfl⟩)
  go_ret
  exact ⟨rfl, rfl⟩

end Go.Proofs.YtahdlejgjcjeoaaDoor
