/- Walks of the program's compareGrades and compareAtoms. -/
import Derived.Test.YtahdlejgjcjeoaaDoorCmp
import Derived.Shelf.SlSortCmp.WholeK
namespace Go.Proofs.YtahdlejgjcjeoaaDoor
open Go.RowKit

theorem row_new (W : World) (l : List Int) (T : TypeId) (B : Nat) (hB : B = W.heap.size) : ∀ k, (h : k < l.length) → (W.alloc (.cells (l.map (Value.int .i64)).toArray T)).drew.cell? ⟨B, k, none⟩ = some (.int .i64 l[k]) := by
  intro k hk
  subst hB
  have hb : (W.alloc (.cells (l.map (Value.int .i64)).toArray T)).drew.heap[W.heap.size]? = some (.cells (l.map (Value.int .i64)).toArray T) := heap_alloc_new W _
  rw [cell_of_row _ _ _ _ _ _ hb]
  simp [hk]

theorem three_alloc (w : World) (a b c : Obj) : (((w.alloc a).alloc b).alloc c).drew = Go.Sort.grow (w.drewN 1) #[a, b, c] := by
  rw [Go.Sort.alloc_eq_grow, Go.Sort.alloc_eq_grow, Go.Sort.alloc_eq_grow, Go.Sort.grow_grow, Go.Sort.grow_grow]; rfl

theorem gcmp_or (g h : Gr) : gcmp g h = orI [ci g.n h.n, ci g.who h.who, ordS g.elem h.elem] := by
  simp only [gcmp, orI]
  split <;> (try split) <;> (try split) <;> simp_all

set_option maxRecDepth 100000 in
set_option maxHeartbeats 1000000 in
theorem compareGrades_any (g h : Gr) (w : World) :
    Calls Tryd.prog 76 #[g.val, h.val] w fun e w' => e = .returned (.int .i64 (gcmp g h)) ∧ Below w.heap.size w w' := by
  have HG : Hid (gcmp g h = orI [ci g.n h.n, ci g.who h.who, ordS g.elem h.elem]) := gcmp_or g h
  unfold Gr.val
  go_enter Tryd.func76, Tryd.ntmps76
  go_wp2
  go_region_held3 (fun w' => w'.cell? ⟨w.heap.size, 0, none⟩ = some (.int .i64 g.n) ∧ w'.cell? ⟨w.heap.size, 1, none⟩ = some (.int .i64 g.who) ∧ w'.cell? ⟨w.heap.size, 2, none⟩ = some (.string g.elem) ∧ w'.cell? ⟨w.heap.size + 1, 0, none⟩ = some (.int .i64 h.n) ∧ w'.cell? ⟨w.heap.size + 1, 1, none⟩ = some (.int .i64 h.who) ∧ w'.cell? ⟨w.heap.size + 1, 2, none⟩ = some (.string h.elem)) (go_keep) (first | (go_at_call 114; refine (compare_int _ _ _).mono ?_; rintro e w1 ⟨rfl, rfl⟩) | (go_at_call 115; refine (compare_string _ _ _).mono ?_; rintro e w1 ⟨rfl, rfl⟩) | (go_at_call 113; refine (or_any _ 3 [ci g.n h.n, ci g.who h.who, ordS g.elem h.elem] _ (by exact row_new _ [ci g.n h.n, ci g.who h.who, ordS g.elem h.elem] _ _ (by simp)) (by simp) (by simp)).mono ?_; rintro e w1 ⟨rfl, rfl⟩))
  go_wp2
  go_ret
  refine ⟨ret_int HG.out.symm, ?_⟩
  repeat (first | exact Below.refl _ _ | refine below_drewN ?_ _ | refine Below.drew ?_ | refine below_alloc ?_ _)

def acmp (a b : At) : Int := orI [ci a.ty b.ty, ordS a.key b.key, ci a.side b.side, ci a.who b.who, ordS a.elem b.elem]

open Go.Sort in
set_option maxRecDepth 100000 in
set_option maxHeartbeats 1000000 in
theorem compareAtoms_any (g h : At) (w : World) :
    Calls Tryd.prog 74 #[g.val, h.val] w fun e w' => e = .returned (.int .i64 (acmp g h)) ∧ ∃ q os, w' = grow (w.drewN q) os := by
  unfold At.val acmp
  go_enter Tryd.func74, Tryd.ntmps74
  go_wp2
  go_region_held3 (fun w' => w'.cell? ⟨w.heap.size, 0, none⟩ = some (.int .i64 g.ty) ∧ w'.cell? ⟨w.heap.size, 1, none⟩ = some (.string g.key) ∧ w'.cell? ⟨w.heap.size, 2, none⟩ = some (.int .i64 g.side) ∧ w'.cell? ⟨w.heap.size, 3, none⟩ = some (.int .i64 g.who) ∧ w'.cell? ⟨w.heap.size, 4, none⟩ = some (.string g.elem) ∧ w'.cell? ⟨w.heap.size + 1, 0, none⟩ = some (.int .i64 h.ty) ∧ w'.cell? ⟨w.heap.size + 1, 1, none⟩ = some (.string h.key) ∧ w'.cell? ⟨w.heap.size + 1, 2, none⟩ = some (.int .i64 h.side) ∧ w'.cell? ⟨w.heap.size + 1, 3, none⟩ = some (.int .i64 h.who) ∧ w'.cell? ⟨w.heap.size + 1, 4, none⟩ = some (.string h.elem)) (go_keep) (first | (go_at_call 114; refine (compare_int _ _ _).mono ?_; rintro e w1 ⟨rfl, rfl⟩) | (go_at_call 115; refine (compare_string _ _ _).mono ?_; rintro e w1 ⟨rfl, rfl⟩) | (go_at_call 113; refine (or_any _ 5 [ci g.ty h.ty, ordS g.key h.key, ci g.side h.side, ci g.who h.who, ordS g.elem h.elem] _ (by exact row_new _ [ci g.ty h.ty, ordS g.key h.key, ci g.side h.side, ci g.who h.who, ordS g.elem h.elem] _ _ (by simp)) (by simp) (by simp)).mono ?_; rintro e w1 ⟨rfl, rfl⟩))
  go_wp2
  go_ret
  exact ⟨rfl, 1, _, three_alloc w _ _ _⟩
end Go.Proofs.YtahdlejgjcjeoaaDoor
