/- Six cells held through a region. -/
import Derived.Test.YtahdlejgjcjeoaaDoorEnc
import Derived.Deep.RegionHeld3
import Derived.Deep.RegionHeldLaw
namespace Go.Proofs.YtahdlejgjcjeoaaDoor
open Go.RowKit

theorem calls_of_args {P : Program} {f : FuncId} {args args' : Array Value} {w : World} {Q Q' : Ending → World → Prop} (e : args' = args) (h : Calls P f args w Q) (hm : ∀ e w', Q e w' → Q' e w') : Calls P f args' w Q' := by
  rw [e]
  exact h.mono hm
theorem six_keep {W w w' : World} {b : Nat} {x0 x1 x2 x3 x4 x5 : Value} (h : Below W.heap.size W w ∧ b < w.heap.size ∧ w.cell? ⟨b, 0, none⟩ = some x0 ∧ w.cell? ⟨b, 1, none⟩ = some x1 ∧ w.cell? ⟨b, 2, none⟩ = some x2 ∧ w.cell? ⟨b, 3, none⟩ = some x3 ∧ w.cell? ⟨b, 4, none⟩ = some x4 ∧ w.cell? ⟨b, 5, none⟩ = some x5) (hb : Below w.heap.size w w') :
    Below W.heap.size W w' ∧ b < w'.heap.size ∧ w'.cell? ⟨b, 0, none⟩ = some x0 ∧ w'.cell? ⟨b, 1, none⟩ = some x1 ∧ w'.cell? ⟨b, 2, none⟩ = some x2 ∧ w'.cell? ⟨b, 3, none⟩ = some x3 ∧ w'.cell? ⟨b, 4, none⟩ = some x4 ∧ w'.cell? ⟨b, 5, none⟩ = some x5 := by
  obtain ⟨hW, z, c0, c1, c2, c3, c4, c5⟩ := h
  refine ⟨hW.trans (hb.mono hW.size), Nat.lt_of_lt_of_le z hb.size, ?_, ?_, ?_, ?_, ?_, ?_⟩ <;> (rw [hb.cell (p := ⟨b, _, none⟩) z]; assumption)
theorem six_drew {W w : World} {b : Nat} {x0 x1 x2 x3 x4 x5 : Value} (h : Below W.heap.size W w ∧ b < w.heap.size ∧ w.cell? ⟨b, 0, none⟩ = some x0 ∧ w.cell? ⟨b, 1, none⟩ = some x1 ∧ w.cell? ⟨b, 2, none⟩ = some x2 ∧ w.cell? ⟨b, 3, none⟩ = some x3 ∧ w.cell? ⟨b, 4, none⟩ = some x4 ∧ w.cell? ⟨b, 5, none⟩ = some x5) :
    Below W.heap.size W w.drew ∧ b < w.drew.heap.size ∧ w.drew.cell? ⟨b, 0, none⟩ = some x0 ∧ w.drew.cell? ⟨b, 1, none⟩ = some x1 ∧ w.drew.cell? ⟨b, 2, none⟩ = some x2 ∧ w.drew.cell? ⟨b, 3, none⟩ = some x3 ∧ w.drew.cell? ⟨b, 4, none⟩ = some x4 ∧ w.drew.cell? ⟨b, 5, none⟩ = some x5 := six_keep h (Below.refl _ w).drew
theorem six_start {W w : World} {x0 x1 x2 x3 x4 x5 : Value} {e : TypeId} {b : Nat} (hbn : b = w.heap.size) (h : Below W.heap.size W w) :
    Below W.heap.size W (w.alloc (.cells #[x0, x1, x2, x3, x4, x5] e)) ∧ b < (w.alloc (.cells #[x0, x1, x2, x3, x4, x5] e)).heap.size ∧ (w.alloc (.cells #[x0, x1, x2, x3, x4, x5] e)).cell? ⟨b, 0, none⟩ = some x0 ∧ (w.alloc (.cells #[x0, x1, x2, x3, x4, x5] e)).cell? ⟨b, 1, none⟩ = some x1 ∧ (w.alloc (.cells #[x0, x1, x2, x3, x4, x5] e)).cell? ⟨b, 2, none⟩ = some x2 ∧ (w.alloc (.cells #[x0, x1, x2, x3, x4, x5] e)).cell? ⟨b, 3, none⟩ = some x3 ∧ (w.alloc (.cells #[x0, x1, x2, x3, x4, x5] e)).cell? ⟨b, 4, none⟩ = some x4 ∧ (w.alloc (.cells #[x0, x1, x2, x3, x4, x5] e)).cell? ⟨b, 5, none⟩ = some x5 := by
  subst hbn
  exact ⟨below_alloc h _, by simp, six_cells (MapKept.heap_alloc w _).1⟩

end Go.Proofs.YtahdlejgjcjeoaaDoor
