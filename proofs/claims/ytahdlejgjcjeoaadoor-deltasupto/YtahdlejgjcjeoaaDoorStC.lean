/- Walks of the program's greater and unite. -/
import Derived.Test.YtahdlejgjcjeoaaDoorCmp2
import Derived.Test.YtahdlejgjcjeoaaDoorStB
namespace Go.Proofs.YtahdlejgjcjeoaaDoor
open Go.RowKit

def mxG (g h : Gr) : Gr := if gcmp g h < 0 then h else g

set_option maxHeartbeats 1000000 in
theorem greater_any (g h : Gr) (w : World) :
    Calls Tryd.prog 71 #[g.val, h.val] w fun e w' => e = .returned (mxG g h).val ∧ Below w.heap.size w w' := by
  have hcon := fun W => compareGrades_any g h W
  obtain ⟨n1, w1, e1⟩ := g
  obtain ⟨n2, w2, e2⟩ := h
  have HM : Hid (mxG ⟨n1, w1, e1⟩ ⟨n2, w2, e2⟩ = if gcmp ⟨n1, w1, e1⟩ ⟨n2, w2, e2⟩ < 0 then ⟨n2, w2, e2⟩ else ⟨n1, w1, e1⟩) := rfl
  generalize gcmp ⟨n1, w1, e1⟩ ⟨n2, w2, e2⟩ = c at *
  unfold Gr.val at *
  simp only at *
  go_enter Tryd.func71, Tryd.ntmps71
  go_wp2_with fail
  refine (hcon _).mono ?_
  rintro e w3 ⟨rfl, hb3⟩
  obtain ⟨hc3, hf3⟩ := bcell hb3
  have hz : w.heap.size + 1 + 1 < w3.heap.size := by have := hb3.size; simp at this; omega
  have hbw : Below w.heap.size w w3 := (below_alloc (below_alloc (below_alloc (Below.refl _ w) _) _) _).trans (hb3.mono (by simp; omega))
  clear hcon
  by_cases hlt : c < 0
  · go_wp2
    refine bodyPost_ret (v := Gr.val ⟨n2, w2, e2⟩) (by simp [results, Tryd.results71, go_sem, Gr.val, hc3]) rfl ⟨by rw [HM.out, if_pos hlt]; rfl, ?_⟩
    refine Below.setCell (Below.setCell (Below.setCell hbw ?_ _) ?_ _) ?_ _ <;> (dsimp only; omega)
  · go_wp2
    refine bodyPost_ret (v := Gr.val ⟨n1, w1, e1⟩) (by simp [results, Tryd.results71, go_sem, Gr.val, hc3]) rfl ⟨by rw [HM.out, if_neg (by omega)]; rfl, ?_⟩
    refine Below.setCell (Below.setCell (Below.setCell hbw ?_ _) ?_ _) ?_ _ <;> (dsimp only; omega)

set_option maxHeartbeats 1000000 in
theorem unite_any (s : Sl) (g : Gr) (w : World) (h : RulesAt w) (h1 : 1 ≤ s.ty) (h5 : s.ty ≤ 5) :
    Calls Tryd.prog 72 #[s.val, g.val] w fun e w' => e = .returned (unite s g).val ∧ Below w.heap.size w w' := by
  obtain ⟨ty, key, side, who, elem⟩ := s
  obtain ⟨n, who', elem'⟩ := g
  simp only at h1 h5
  have HT : Hid (RulesAt w) := h
  clear h
  unfold Sl.val Gr.val
  simp only
  by_cases ht : ty = 5
  · subst ht
    go_enter Tryd.func72, Tryd.ntmps72
    go_wp2_with fail
    refine (isRegister_any 5 _ ?hrl (by omega) (by omega)).mono ?_
    case hrl => exact HT.out.below (B := w.heap.size) (by repeat (first | exact Below.refl _ _ | refine below_alloc ?_ _)) HT.out.1
    rintro e w1 ⟨rfl, rfl⟩
    go_wp2
    refine bodyPost_ret (v := At.val ⟨5, key, 0, who', elem', n⟩) (by simp [results, Tryd.results72, go_sem, At.val]) rfl ⟨by simp [unite], ?_⟩
    go_light
    exact below_alloc (below_alloc (below_alloc (Below.refl _ w) _) _) _
  · have hk : (ty == 5) = false := by simp [ht]
    go_enter Tryd.func72, Tryd.ntmps72
    go_wp2_with fail
    refine (isRegister_any ty _ ?hrl (by omega) (by omega)).mono ?_
    case hrl => exact HT.out.below (B := w.heap.size) (by repeat (first | exact Below.refl _ _ | refine below_alloc ?_ _)) HT.out.1
    rintro e w1 ⟨rfl, rfl⟩
    go_wp2
    refine bodyPost_ret (v := At.val ⟨ty, key, side, who, elem, n⟩) (by simp [results, Tryd.results72, go_sem, At.val]) rfl ⟨by simp [unite, ht], ?_⟩
    go_light
    exact below_alloc (below_alloc (below_alloc (Below.refl _ w) _) _) _

end Go.Proofs.YtahdlejgjcjeoaaDoor
