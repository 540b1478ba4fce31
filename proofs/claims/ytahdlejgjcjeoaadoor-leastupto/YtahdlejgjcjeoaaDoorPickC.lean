/- Walks of the laws' pick and cut. -/
import Derived.Test.YtahdlejgjcjeoaaDoorReg
namespace Go.Proofs.YtahdlejgjcjeoaaDoor
open Go.RowKit

theorem tmod_range {a n : Int} (h0 : 0 ≤ a) (hn : 0 < n) : 0 ≤ a.tmod n ∧ a.tmod n < n :=
  ⟨Int.tmod_nonneg n h0, Int.tmod_lt_of_pos a hn⟩

set_option maxRecDepth 100000 in
theorem pick_any (c n : Int) (w : World) (h0 : -9223372036854775808 ≤ c) (h1 : c ≤ 9223372036854775807) (hn : 0 < n) (hn1 : n ≤ 2147483647) :
    Calls Tryd.prog 100 #[.int .i64 c, .int .i64 n] w fun e w' => ∃ r, e = .returned (.int .i64 r) ∧ (0 ≤ r ∧ r < n) ∧ w' = w := by
  by_cases hc : c < 0
  · have ha : 0 ≤ -(c + 1) := by omega
    have hm := tmod_range ha hn
    rw [Int.neg_tmod] at hm
    go_enter Tryd.func100, Tryd.ntmps100
    go_wp2
    go_ret
    exact ⟨_, rfl, hm, rfl⟩
  · have hm : 0 ≤ c % n ∧ c % n < n := ⟨Int.emod_nonneg c (by omega), Int.emod_lt_of_pos c hn⟩
    go_enter Tryd.func100, Tryd.ntmps100
    go_wp2
    go_ret
    exact ⟨_, rfl, hm, rfl⟩
set_option maxRecDepth 100000 in
theorem cut_any (s : ByteArray) (n : Nat) (w : World) (_hs : s.size ≤ 1125899906842624) (hn : n ≤ 1099511627776) :
    Calls Tryd.prog 101 #[.string s, .int .i64 n] w fun e w' => ∃ t : ByteArray, e = .returned (.string t) ∧ t.size = min s.size n ∧ w' = w := by
  by_cases hc : n < s.size
  · go_enter Tryd.func101, Tryd.ntmps101
    go_wp2
    go_ret
    exact ⟨_, rfl, by simp; omega, rfl⟩
  · go_enter Tryd.func101, Tryd.ntmps101
    go_wp2
    go_ret
    exact ⟨_, rfl, by omega, rfl⟩

end Go.Proofs.YtahdlejgjcjeoaaDoor
