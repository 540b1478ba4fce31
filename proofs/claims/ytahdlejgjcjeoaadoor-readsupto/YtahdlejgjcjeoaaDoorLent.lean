/- Walk of the laws' lent. -/
import Derived.Test.YtahdlejgjcjeoaaDoorLentK
namespace Go.Proofs.YtahdlejgjcjeoaaDoor
open Go.RowKit

def bey : At := ⟨99, ⟨#[98, 101, 121, 111, 110, 100]⟩, 0, 0, ⟨#[]⟩, 0⟩

set_option maxHeartbeats 400000 in
theorem beyond_any (w : World) : Calls Tryd.prog 34 #[] w fun e w' => e = .returned (.agg #[.int .i64 bey.ty, .string bey.key, .int .i64 bey.side, .int .i64 bey.who, .string bey.elem, .int .i64 bey.n]) ∧ Below w.heap.size w w' := by
  go_enter Tryd.func34, Tryd.ntmps34
  go_wp2
  refine bodyPost_ret (v := bey.val) (by simp [results, Tryd.results34, go_sem, At.val, bey]) rfl ⟨rfl, ?_⟩
  go_light
  repeat (first | exact Below.refl _ _ | refine below_alloc ?_ _)

end Go.Proofs.YtahdlejgjcjeoaaDoor
