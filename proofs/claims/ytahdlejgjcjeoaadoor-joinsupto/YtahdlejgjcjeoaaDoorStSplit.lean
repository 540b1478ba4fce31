/- Walk of the program's split. -/
import Derived.Test.YtahdlejgjcjeoaaDoorStA
namespace Go.Proofs.YtahdlejgjcjeoaaDoor
open Go.RowKit

set_option maxHeartbeats 1000000 in
theorem split_any (a : At) (w : World) (h : RulesAt w) (h1 : 1 ≤ a.ty) (h5 : a.ty ≤ 5) :
    Calls Tryd.prog 70 #[a.val] w fun e w' => e = .returned (.tuple #[(slot a).val, (grade a).val]) ∧ Below w.heap.size w w' := by
  obtain ⟨ty, key, side, who, elem, n⟩ := a
  simp only at h1 h5
  have HT : Hid (RulesAt w) := h
  clear h
  unfold At.val
  simp only
  by_cases ht : ty = 5
  · subst ht
    go_enter Tryd.func70, Tryd.ntmps70
    go_wp2_with fail
    refine (isRegister_any 5 _ ?hrl (by omega) (by omega)).mono ?_
    case hrl => exact HT.out.below (B := w.heap.size) (by repeat (first | exact Below.refl _ _ | refine below_alloc ?_ _)) HT.out.1
    rintro e w1 ⟨rfl, rfl⟩
    go_wp2
    go_region
    all_goals go_wp2
    refine bodyPost_ret (v := .tuple #[Sl.val ⟨5, key, 0, 0, ByteArray.empty⟩, Gr.val ⟨n, who, elem⟩]) (by simp [results, Tryd.results70, go_sem, Sl.val, Gr.val]; rfl) rfl ⟨by simp [slot, grade], ?_⟩
    go_light
    repeat (first | exact Below.refl _ _ | refine below_drewN ?_ _ | refine Below.drew ?_ | refine Below.setCell ?_ (by simp) _ | refine below_alloc ?_ _)
  · have hk : (ty == 5) = false := by simp [ht]
    go_enter Tryd.func70, Tryd.ntmps70
    go_wp2_with fail
    refine (isRegister_any ty _ ?hrl (by omega) (by omega)).mono ?_
    case hrl => exact HT.out.below (B := w.heap.size) (by repeat (first | exact Below.refl _ _ | refine below_alloc ?_ _)) HT.out.1
    rintro e w1 ⟨rfl, rfl⟩
    go_wp2
    go_region
    all_goals go_wp2
    refine bodyPost_ret (v := .tuple #[Sl.val ⟨ty, key, side, who, elem⟩, Gr.val ⟨n, 0, ByteArray.empty⟩]) (by simp [results, Tryd.results70, go_sem, Sl.val, Gr.val]; rfl) rfl ⟨by simp [slot, grade, ht], ?_⟩
    go_light
    repeat (first | exact Below.refl _ _ | refine below_drewN ?_ _ | refine Below.drew ?_ | refine Below.setCell ?_ (by simp) _ | refine below_alloc ?_ _)
end Go.Proofs.YtahdlejgjcjeoaaDoor
