/- Walk of the document's May. -/
import Derived.Test.YtahdlejgjcjeoaaDoorProg
import Derived.Test.YtahdlejgjcjeoaaDoorBase
import Derived.Deep.Light
namespace Go.Proofs.YtahdlejgjcjeoaaDoor
open Go.RowKit

theorem isEmpty_size (s : ByteArray) : s.toList.isEmpty = true ↔ s.size = 0 := by
  rw [← decide_eq_emptyBytes, decide_eq_true_eq]
  simp
theorem isEmpty_size' (s : ByteArray) : s.toList.isEmpty = false ↔ ¬ s.size = 0 := by
  rw [← isEmpty_size]; simp
set_option maxHeartbeats 4000000 in
theorem May_any (a : At) (w : World) (ha : short a) :
    Calls Tryd.prog 66 #[a.val] w fun e w' => e = .returned (.bool (mayB a)) ∧ Below w.heap.size w w' := by
  obtain ⟨ty, key, side, who, elem, n⟩ := a
  simp only [short] at ha
  obtain ⟨hk, he⟩ := ha
  unfold At.val
  simp only
  go_enter Tryd.func66, Tryd.ntmps66
  go_wp2
  all_goals
    go_ret
    refine ⟨ret_bool ?_, by repeat (first | exact Below.refl _ _ | refine below_drewN ?_ _ | refine Below.alloc ?_ (by simp) _)⟩
  all_goals go_light
  all_goals rw [Bool.eq_iff_iff]
  all_goals simp only [mayB, decide_eq_true_eq, beq_iff_eq, beq_eq_false_iff_ne, ne_eq, Bool.false_eq_true, isEmpty_size, false_iff] at *
  all_goals first | omega | (simp_all; try omega; done)
end Go.Proofs.YtahdlejgjcjeoaaDoor
