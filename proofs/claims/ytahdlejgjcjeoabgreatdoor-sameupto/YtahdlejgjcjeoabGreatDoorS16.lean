/- What is new, as plain lists. No program. -/
import Derived.Test.YtahdlejgjcjeoabGreatDoorS07
import Derived.Test.YtahdlejgjcjeoabGreatDoorS15
import Derived.Test.YtahdlejgjcjeoabGreatDoorS05
import Derived.Test.YtahdlejgjcjeoabGreatDoorS08
import Derived.Test.YtahdlejgjcjeoabGreatDoorS06
import Derived.Test.YtahdlejgjcjeoabGreatDoorS02
import Derived.Test.YtahdlejgjcjeoabGreatDoorS13
namespace Go.Proofs.YtahdlejgjcjeoabGreatDoor
open Go.RowKit

/-- The atom of an operation, ahead of what is held. -/
def movedAt (r : Nat) (o : OpV) : At :=
  if o.ty = 1 then ⟨1, o.key, o.side, r, o.elem, o.n⟩
  else if o.ty = 2 then ⟨2, o.key, if o.n < 0 then 1 else o.side, r, o.elem, max o.n (-o.n)⟩
  else if o.ty = 5 then ⟨5, o.key, o.side, r, o.elem, 1⟩
  else ⟨o.ty, o.key, o.side, 0, o.elem, 0⟩

theorem grown_below {w w' : World} (h : w.grownBy w' none) : Below w.heap.size w w' := ⟨h.os, h.tape, h.output, h.size, fun k hk => h.block k hk (by simp)⟩

theorem cell_keepM {w w' : World} {a : Addr} {v : Value} (hc : w.cell? a = some v) (hb : Below w.heap.size w w') : w'.cell? a = some v := by
  have hlt : a.block < w.heap.size := by
    rcases Nat.lt_or_ge a.block w.heap.size with h' | h'
    · exact h'
    · simp [World.cell?, Array.getElem?_eq_none h'] at hc
  rw [hb.cell hlt]
  exact hc
theorem op4_keep {w w' : World} {b : Nat} {x0 x1 x2 x3 : Value} (h : w.cell? ⟨b, 0, none⟩ = some x0 ∧ w.cell? ⟨b, 1, none⟩ = some x1 ∧ w.cell? ⟨b, 2, none⟩ = some x2 ∧ w.cell? ⟨b, 3, none⟩ = some x3) (hb : Below w.heap.size w w') :
    w'.cell? ⟨b, 0, none⟩ = some x0 ∧ w'.cell? ⟨b, 1, none⟩ = some x1 ∧ w'.cell? ⟨b, 2, none⟩ = some x2 ∧ w'.cell? ⟨b, 3, none⟩ = some x3 := by
  obtain ⟨c0, c1, c2, c3⟩ := h
  exact ⟨cell_keepM c0 hb, cell_keepM c1 hb, cell_keepM c2 hb, cell_keepM c3 hb⟩
theorem op4_ne {w w' : World} {b : Nat} {x0 : Value} {P : Prop} (h : w.cell? ⟨b, 0, none⟩ = some x0 ∧ P) (hb : Below w.heap.size w w') : w'.heap.size ≠ b := by
  have hlt : b < w.heap.size := by
    rcases Nat.lt_or_ge b w.heap.size with h' | h'
    · exact h'
    · have := h.1; simp [World.cell?, Array.getElem?_eq_none h'] at this
  have := hb.size
  omega
theorem op4_start {w : World} {x0 x1 x2 x3 x4 : Value} (e : TypeId) (o : Obj) :
    ((w.alloc (.cells #[x0, x1, x2, x3, x4] e)).alloc o).drew.cell? ⟨w.heap.size, 0, none⟩ = some x0 ∧ ((w.alloc (.cells #[x0, x1, x2, x3, x4] e)).alloc o).drew.cell? ⟨w.heap.size, 1, none⟩ = some x1 ∧ ((w.alloc (.cells #[x0, x1, x2, x3, x4] e)).alloc o).drew.cell? ⟨w.heap.size, 2, none⟩ = some x2 ∧ ((w.alloc (.cells #[x0, x1, x2, x3, x4] e)).alloc o).drew.cell? ⟨w.heap.size, 3, none⟩ = some x3 :=
  op4_keep (w := w.alloc (.cells #[x0, x1, x2, x3, x4] e)) ⟨by simp, by simp, by simp, by simp⟩ ((below_alloc (Below.refl _ _) o).trans ⟨rfl, rfl, rfl, Nat.le_refl _, fun _ _ => rfl⟩)
theorem cps {A G : Prop} (h : A) (k : A → G) : G := k h
theorem al6k {w w' : World} {b : Nat} {z0 z1 z2 z3 z4 z5 : Value} (c0 : w.cell? ⟨b, 0, none⟩ = some z0) (c1 : w.cell? ⟨b, 1, none⟩ = some z1) (c2 : w.cell? ⟨b, 2, none⟩ = some z2) (c3 : w.cell? ⟨b, 3, none⟩ = some z3) (c4 : w.cell? ⟨b, 4, none⟩ = some z4) (c5 : w.cell? ⟨b, 5, none⟩ = some z5) (hf : ∀ k, w.frozen? ⟨b, k, none⟩ = false) (hb : Below w.heap.size w w') :
    w'.cell? ⟨b, 0, none⟩ = some z0 ∧ w'.cell? ⟨b, 1, none⟩ = some z1 ∧ w'.cell? ⟨b, 2, none⟩ = some z2 ∧ w'.cell? ⟨b, 3, none⟩ = some z3 ∧ w'.cell? ⟨b, 4, none⟩ = some z4 ∧ w'.cell? ⟨b, 5, none⟩ = some z5 ∧ ∀ k, w'.frozen? ⟨b, k, none⟩ = false := by
  refine ⟨cell_keepM c0 hb, cell_keepM c1 hb, cell_keepM c2 hb, cell_keepM c3 hb, cell_keepM c4 hb, cell_keepM c5 hb, fun k => ?_⟩
  have hlt : b < w.heap.size := by
    rcases Nat.lt_or_ge b w.heap.size with h' | h'
    · exact h'
    · simp [World.cell?, Array.getElem?_eq_none h'] at c0
  rw [hb.frozen (p := ⟨b, k, none⟩) hlt]
  exact hf k
theorem al6 {w w' : World} {z0 z1 z2 z3 z4 z5 : Value} {e : TypeId} (hb : Below (w.alloc (.cells #[z0, z1, z2, z3, z4, z5] e)).heap.size (w.alloc (.cells #[z0, z1, z2, z3, z4, z5] e)) w') :
    w'.cell? ⟨w.heap.size, 0, none⟩ = some z0 ∧ w'.cell? ⟨w.heap.size, 1, none⟩ = some z1 ∧ w'.cell? ⟨w.heap.size, 2, none⟩ = some z2 ∧ w'.cell? ⟨w.heap.size, 3, none⟩ = some z3 ∧ w'.cell? ⟨w.heap.size, 4, none⟩ = some z4 ∧ w'.cell? ⟨w.heap.size, 5, none⟩ = some z5 ∧ ∀ k, w'.frozen? ⟨w.heap.size, k, none⟩ = false :=
  al6k (by simp) (by simp) (by simp) (by simp) (by simp) (by simp) (by simp) hb
theorem op4_set {w : World} {b g k : Nat} {x0 x1 x2 x3 u : Value} (h : w.cell? ⟨b, 0, none⟩ = some x0 ∧ w.cell? ⟨b, 1, none⟩ = some x1 ∧ w.cell? ⟨b, 2, none⟩ = some x2 ∧ w.cell? ⟨b, 3, none⟩ = some x3) (hg : g ≠ b) :
    (w.setCell ⟨g, k, none⟩ u).cell? ⟨b, 0, none⟩ = some x0 ∧ (w.setCell ⟨g, k, none⟩ u).cell? ⟨b, 1, none⟩ = some x1 ∧ (w.setCell ⟨g, k, none⟩ u).cell? ⟨b, 2, none⟩ = some x2 ∧ (w.setCell ⟨g, k, none⟩ u).cell? ⟨b, 3, none⟩ = some x3 := by
  have hc : ∀ j v, w.cell? ⟨b, j, none⟩ = some v → (w.setCell ⟨g, k, none⟩ u).cell? ⟨b, j, none⟩ = some v := fun j v hv => by
    rw [World.cell?_of_block (w := w) (Below.heap_setCell _ _ _ _ (by show b ≠ g; omega))]
    exact hv
  obtain ⟨c0, c1, c2, c3⟩ := h
  exact ⟨hc _ _ c0, hc _ _ c1, hc _ _ c2, hc _ _ c3⟩

def mvW (w : World) (ty : Int) (key : ByteArray) (side : Int) (elem : ByteArray) (n : Int) : World := ((w.alloc (.cells #[.int .i64 ty, .string key, .int .i64 side, .string elem, .int .i64 n] 31)).alloc (.cells #[.int .i64 0, .string ⟨#[]⟩, .int .i64 0, .int .i64 0, .string ⟨#[]⟩, .int .i64 0] 76)).drew
def setA6 (w : World) (b : Nat) (z0 z1 z2 z3 z4 z5 : Value) : World := (((((w.setCell ⟨b, 0, none⟩ z0).setCell ⟨b, 1, none⟩ z1).setCell ⟨b, 2, none⟩ z2).setCell ⟨b, 3, none⟩ z3).setCell ⟨b, 4, none⟩ z4).setCell ⟨b, 5, none⟩ z5
/-- Behind the atom's making. -/
structure MvMid (w wc : World) (b : Nat) (ty : Int) (key : ByteArray) (side : Int) (elem : ByteArray) (n : Int) : Prop where
  op : wc.heap[w.heap.size]? = some (.cells #[.int .i64 ty, .string key, .int .i64 side, .string elem, .int .i64 n] 31 (0, 0))
  at_ : wc.heap[b]? = some (.cells #[.int .i64 ty, .string key, .int .i64 side, .int .i64 0, .string elem, .int .i64 0] 76 (0, 0))
  rs : wc.heap[w.heap.size + 1]? = some (.cells #[.int .i64 0, .string ⟨#[]⟩, .int .i64 0, .int .i64 0, .string ⟨#[]⟩, .int .i64 0] 76 (0, 0))
  be : Below w.heap.size w wc
  lt : w.heap.size + 1 < b

section
variable {w w1 w2 : World} {ty : Int} {key : ByteArray} {side : Int} {elem : ByteArray} {n : Int}
theorem mv_size : (mvW w ty key side elem n).heap.size = w.heap.size + 2 := by simp [mvW, World.drew]
theorem mv_op : (mvW w ty key side elem n).heap[w.heap.size]? = some (.cells #[.int .i64 ty, .string key, .int .i64 side, .string elem, .int .i64 n] 31 (0, 0)) := by
  have h1 := heap_alloc_new w (.cells #[.int .i64 ty, .string key, .int .i64 side, .string elem, .int .i64 n] 31)
  have h2 := (below_alloc (Below.refl (w.alloc (.cells #[.int .i64 ty, .string key, .int .i64 side, .string elem, .int .i64 n] 31)).heap.size _) (.cells #[.int .i64 0, .string ⟨#[]⟩, .int .i64 0, .int .i64 0, .string ⟨#[]⟩, .int .i64 0] 76)).block w.heap.size (by simp)
  exact h2.trans h1
theorem mv_rs : (mvW w ty key side elem n).heap[w.heap.size + 1]? = some (.cells #[.int .i64 0, .string ⟨#[]⟩, .int .i64 0, .int .i64 0, .string ⟨#[]⟩, .int .i64 0] 76 (0, 0)) := by
  have h1 := heap_alloc_new (w.alloc (.cells #[.int .i64 ty, .string key, .int .i64 side, .string elem, .int .i64 n] 31)) (.cells #[.int .i64 0, .string ⟨#[]⟩, .int .i64 0, .int .i64 0, .string ⟨#[]⟩, .int .i64 0] 76)
  rw [World.size_alloc] at h1
  exact h1
theorem mv_be : Below w.heap.size w (mvW w ty key side elem n) := by
  have := below_alloc (below_alloc (Below.refl _ w) (.cells #[.int .i64 ty, .string key, .int .i64 side, .string elem, .int .i64 n] 31)) (.cells #[.int .i64 0, .string ⟨#[]⟩, .int .i64 0, .int .i64 0, .string ⟨#[]⟩, .int .i64 0] 76)
  exact ⟨this.os, this.tape, this.output, this.size, this.block⟩
theorem setA6_heap {b : Nat} {y0 y1 y2 y3 y4 y5 z0 z1 z2 z3 z4 z5 : Value} {e : TypeId} (h : w.heap[b]? = some (.cells #[y0, y1, y2, y3, y4, y5] e (0, 0))) : (setA6 w b z0 z1 z2 z3 z4 z5).heap[b]? = some (.cells #[z0, z1, z2, z3, z4, z5] e (0, 0)) :=
  heap_setCell_at (heap_setCell_at (heap_setCell_at (heap_setCell_at (heap_setCell_at (heap_setCell_at h z0) z1) z2) z3) z4) z5
theorem setA6_other {b q : Nat} {z0 z1 z2 z3 z4 z5 : Value} (h : q ≠ b) : (setA6 w b z0 z1 z2 z3 z4 z5).heap[q]? = w.heap[q]? := by
  unfold setA6
  rw [Below.heap_setCell _ _ _ _ h, Below.heap_setCell _ _ _ _ h, Below.heap_setCell _ _ _ _ h, Below.heap_setCell _ _ _ _ h, Below.heap_setCell _ _ _ _ h, Below.heap_setCell _ _ _ _ h]
theorem setA6_below {w0 : World} {b B : Nat} {z0 z1 z2 z3 z4 z5 : Value} (h : Below B w0 w) (hb : B ≤ b) : Below B w0 (setA6 w b z0 z1 z2 z3 z4 z5) :=
  (((((h.setCell hb _).setCell hb _).setCell hb _).setCell hb _).setCell hb _).setCell hb _
theorem mv_mid1 (h1 : Below (mvW w ty key side elem n).heap.size (mvW w ty key side elem n) w1) (h2 : Below w1.heap.size w1 w2) : MvMid w (w2.alloc (.cells #[.int .i64 ty, .string key, .int .i64 side, .int .i64 0, .string elem, .int .i64 0] 76)) w2.heap.size ty key side elem n := by
  have hs := mv_size (w := w) (ty := ty) (key := key) (side := side) (elem := elem) (n := n)
  have h12 : Below (mvW w ty key side elem n).heap.size (mvW w ty key side elem n) w2 := h1.trans (h2.mono h1.size)
  have hz := h12.size
  have h3 := below_alloc (Below.refl w2.heap.size w2) (.cells #[.int .i64 ty, .string key, .int .i64 side, .int .i64 0, .string elem, .int .i64 0] 76)
  refine ⟨?_, heap_alloc_new w2 _, ?_, (mv_be.trans (h12.mono (by omega))).trans (h3.mono (by omega)), by omega⟩
  · rw [h3.block _ (by omega), h12.block _ (by omega)]
    exact mv_op
  · rw [h3.block _ (by omega), h12.block _ (by omega)]
    exact mv_rs
theorem mv_mid2 (h1 : Below (mvW w ty key side elem n).heap.size (mvW w ty key side elem n) w1) (h2 : Below (w1.alloc (.cells #[.int .i64 0, .string ⟨#[]⟩, .int .i64 0, .int .i64 0, .string ⟨#[]⟩, .int .i64 0] 76)).heap.size (w1.alloc (.cells #[.int .i64 0, .string ⟨#[]⟩, .int .i64 0, .int .i64 0, .string ⟨#[]⟩, .int .i64 0] 76)) w2) : MvMid w (setA6 w2 w1.heap.size (.int .i64 ty) (.string key) (.int .i64 side) (.int .i64 0) (.string elem) (.int .i64 0)) w1.heap.size ty key side elem n := by
  have hs := mv_size (w := w) (ty := ty) (key := key) (side := side) (elem := elem) (n := n)
  have hz := h1.size
  have h3 := below_alloc (Below.refl w1.heap.size w1) (.cells #[.int .i64 0, .string ⟨#[]⟩, .int .i64 0, .int .i64 0, .string ⟨#[]⟩, .int .i64 0] 76)
  have h13 := h1.trans (h3.mono hz)
  have hz3 : (w1.alloc (.cells #[.int .i64 0, .string ⟨#[]⟩, .int .i64 0, .int .i64 0, .string ⟨#[]⟩, .int .i64 0] 76)).heap.size = w1.heap.size + 1 := by simp
  have h12 := h13.trans (h2.mono (by omega))
  refine ⟨?_, setA6_heap ((h2.block _ (by omega)).trans (heap_alloc_new w1 _)), ?_, setA6_below (mv_be.trans (h12.mono (by omega))) (by omega), by omega⟩
  · rw [setA6_other (by omega), h12.block _ (by omega)]
    exact mv_op
  · rw [setA6_other (by omega), h12.block _ (by omega)]
    exact mv_rs
theorem mv_mid3 (h2 : Below ((mvW w ty key side elem n).alloc (.cells #[.int .i64 0, .string ⟨#[]⟩, .int .i64 0, .int .i64 0, .string ⟨#[]⟩, .int .i64 0] 76)).heap.size ((mvW w ty key side elem n).alloc (.cells #[.int .i64 0, .string ⟨#[]⟩, .int .i64 0, .int .i64 0, .string ⟨#[]⟩, .int .i64 0] 76)) w2) : MvMid w (setA6 w2 (mvW w ty key side elem n).heap.size (.int .i64 ty) (.string key) (.int .i64 side) (.int .i64 0) (.string elem) (.int .i64 0)) (mvW w ty key side elem n).heap.size ty key side elem n :=
  mv_mid2 (Below.refl _ _) h2
end

set_option maxRecDepth 100000 in
set_option maxHeartbeats 1000000 in
theorem moved_any (r : Nat) (o : OpV) (w : World) (ho : o.short) (hf : -1000 ≤ o.n ∧ o.n ≤ 1000) :
    Calls Tryz.prog 159 #[.int .i64 r, o.val] w fun e w' => e = .returned (movedAt r o).val ∧ Below w.heap.size w w' := by
  obtain ⟨ty, key, side, elem, n⟩ := o
  simp only [OpV.short] at ho
  obtain ⟨hk, he⟩ := ho
  simp only at hf
  have HC1 : Hid (∀ W, Calls Tryz.prog 194 #[.string key] W fun e w' => e = .returned (.string key) ∧ W.grownBy w' none) := fun W => clone_any key W hk
  have HC2 : Hid (∀ W, Calls Tryz.prog 194 #[.string elem] W fun e w' => e = .returned (.string elem) ∧ W.grownBy w' none) := fun W => clone_any elem W he
  unfold OpV.val
  simp only
  go_enter Tryz.func159, Tryz.ntmps159
  go_wp2_with fail
  have HM1 : Hid (∀ w1 w2, Below (mvW w ty key side elem n).heap.size (mvW w ty key side elem n) w1 → Below w1.heap.size w1 w2 → MvMid w (w2.alloc (.cells #[.int .i64 ty, .string key, .int .i64 side, .int .i64 0, .string elem, .int .i64 0] 76)) w2.heap.size ty key side elem n) := fun w1 w2 h1 h2 => mv_mid1 h1 h2
  have HM2 : Hid (∀ w1 w2, Below (mvW w ty key side elem n).heap.size (mvW w ty key side elem n) w1 → Below (w1.alloc (.cells #[.int .i64 0, .string ⟨#[]⟩, .int .i64 0, .int .i64 0, .string ⟨#[]⟩, .int .i64 0] 76)).heap.size (w1.alloc (.cells #[.int .i64 0, .string ⟨#[]⟩, .int .i64 0, .int .i64 0, .string ⟨#[]⟩, .int .i64 0] 76)) w2 → MvMid w (setA6 w2 w1.heap.size (.int .i64 ty) (.string key) (.int .i64 side) (.int .i64 0) (.string elem) (.int .i64 0)) w1.heap.size ty key side elem n) := fun w1 w2 h1 h2 => mv_mid2 h1 h2
  have HM3 : Hid (∀ w2, Below ((mvW w ty key side elem n).alloc (.cells #[.int .i64 0, .string ⟨#[]⟩, .int .i64 0, .int .i64 0, .string ⟨#[]⟩, .int .i64 0] 76)).heap.size ((mvW w ty key side elem n).alloc (.cells #[.int .i64 0, .string ⟨#[]⟩, .int .i64 0, .int .i64 0, .string ⟨#[]⟩, .int .i64 0] 76)) w2 → MvMid w (setA6 w2 (mvW w ty key side elem n).heap.size (.int .i64 ty) (.string key) (.int .i64 side) (.int .i64 0) (.string elem) (.int .i64 0)) (mvW w ty key side elem n).heap.size ty key side elem n) := fun w2 h2 => mv_mid3 h2
  have HS6 : Hid (∀ W g, (W.cell? ⟨w.heap.size, 0, none⟩ = some (.int .i64 ty) ∧ W.cell? ⟨w.heap.size, 1, none⟩ = some (.string key) ∧ W.cell? ⟨w.heap.size, 2, none⟩ = some (.int .i64 side) ∧ W.cell? ⟨w.heap.size, 3, none⟩ = some (.string elem)) → g ≠ w.heap.size → ((setA6 W g (.int .i64 ty) (.string key) (.int .i64 side) (.int .i64 0) (.string elem) (.int .i64 0)).cell? ⟨w.heap.size, 0, none⟩ = some (.int .i64 ty) ∧ (setA6 W g (.int .i64 ty) (.string key) (.int .i64 side) (.int .i64 0) (.string elem) (.int .i64 0)).cell? ⟨w.heap.size, 1, none⟩ = some (.string key) ∧ (setA6 W g (.int .i64 ty) (.string key) (.int .i64 side) (.int .i64 0) (.string elem) (.int .i64 0)).cell? ⟨w.heap.size, 2, none⟩ = some (.int .i64 side) ∧ (setA6 W g (.int .i64 ty) (.string key) (.int .i64 side) (.int .i64 0) (.string elem) (.int .i64 0)).cell? ⟨w.heap.size, 3, none⟩ = some (.string elem))) := fun W g h hg => op4_set (op4_set (op4_set (op4_set (op4_set (op4_set h hg) hg) hg) hg) hg) hg
  have hne0 : (mvW w ty key side elem n).heap.size ≠ w.heap.size := by simp [mvW, World.drew]; omega
  unfold mvW at HM1 HM2 HM3 hne0
  go_cut [5] from 6 (fun s5 wc => ∃ b : Nat, s5 = .pointer (some ⟨b, 0, none⟩) ∧ Hid (MvMid w wc b ty key side elem n))
  case first =>
    refine wp_region_held_drew (S := fun w' => w'.cell? ⟨w.heap.size, 0, none⟩ = some (.int .i64 ty) ∧ w'.cell? ⟨w.heap.size, 1, none⟩ = some (.string key) ∧ w'.cell? ⟨w.heap.size, 2, none⟩ = some (.int .i64 side) ∧ w'.cell? ⟨w.heap.size, 3, none⟩ = some (.string elem)) (by kernel_rfl) (op4_start _ _) (fun hHeld => ?_)
    refine wpAnyH_take (i := 0) (oi := _) (v := ?_) rfl (by kernel_rfl) (by kernel_rfl) (by kernel_rfl) (fun _ _ _ h => h) (Or.inl ⟨by rfl, ?_⟩) (by assumption) ?_
    rotate_left
    · intro w hSw
      try dsimp only at hSw
      go_simp <;> with_reducible rfl
    simp only [Act.put, List.setIfInBounds_toArray]
    refine wpAnyH_take (i := 1) (oi := _) (v := ?_) rfl (by kernel_rfl) (by kernel_rfl) (by kernel_rfl) (fun _ _ _ h => h) (Or.inl ⟨by rfl, ?_⟩) (by assumption) ?_
    rotate_left
    · intro w hSw
      try dsimp only at hSw
      go_simp <;> with_reducible rfl
    simp only [Act.put]
    refine wpAnyH_take (i := 2) (oi := _) (v := ?_) rfl (by kernel_rfl) (by kernel_rfl) (by kernel_rfl) (fun _ _ _ h => h) (Or.inl ⟨by rfl, ?_⟩) (by assumption) ?_
    rotate_left
    · intro w hSw
      try dsimp only at hSw
      go_simp <;> with_reducible rfl
    simp only [Act.put]
    refine wpAnyH_take (i := 3) (oi := _) (v := ?_) rfl (by kernel_rfl) (by kernel_rfl) (by kernel_rfl) (fun _ _ _ h => h) (Or.inl ⟨by rfl, ?_⟩) (by assumption) ?_
    rotate_left
    · intro w hSw
      try dsimp only at hSw
      go_simp <;> with_reducible rfl
    simp only [Act.put]
    refine wpAnyH_take (i := 5) (oi := _) (v := ?_) rfl (by kernel_rfl) (by kernel_rfl) (by kernel_rfl) (fun _ _ _ h => h) (Or.inl ⟨by rfl, ?_⟩) (by assumption) ?_
    rotate_left
    · intro w hSw
      try dsimp only at hSw
      go_simp <;> with_reducible rfl
    simp only [Act.put]
    refine wpAnyH_take (i := 6) (oi := _) (v := ?_) rfl (by kernel_rfl) (by kernel_rfl) (by kernel_rfl) (fun _ _ _ h => h) (Or.inl ⟨by rfl, ?_⟩) (by assumption) ?_
    rotate_left
    · intro w hSw
      try dsimp only at hSw
      go_simp <;> with_reducible rfl
    simp only [Act.put]
    refine wpAnyH_take (i := 7) (oi := _) (v := ?_) rfl (by kernel_rfl) (by kernel_rfl) (by kernel_rfl) (fun _ _ _ h => h) (Or.inl ⟨by rfl, ?_⟩) (by assumption) ?_
    rotate_left
    · intro w hSw
      try dsimp only at hSw
      go_simp <;> with_reducible rfl
    simp only [Act.put]
    refine wpAnyH_take (i := 8) (oi := _) (v := ?_) rfl (by kernel_rfl) (by kernel_rfl) (by kernel_rfl) (fun _ _ _ h => h) (Or.inl ⟨by rfl, ?_⟩) (by assumption) ?_
    rotate_left
    · intro w hSw
      try dsimp only at hSw
      go_simp <;> with_reducible rfl
    simp only [Act.put]
    generalize hW0 : ((w.alloc (.cells #[.int .i64 ty, .string key, .int .i64 side, .string elem, .int .i64 n] 31)).alloc (.cells #[.int .i64 0, .string ⟨#[]⟩, .int .i64 0, .int .i64 0, .string ⟨#[]⟩, .int .i64 0] 76)).drew = W0 at *
    refine wpAnyH_ready (rs := [4, 11]) (by kernel_rfl) (by simp) ?_
    refine AllReadyH.cons (o := _) rfl (fun K hK => ?_) (AllReadyH.cons (o := _) rfl (fun K hK => ?_) AllReadyH.nil)
    · go_simp
      refine (HC1.out _).mono ?_
      rintro e w1 ⟨rfl, hg⟩
      have hb1 := grown_below hg
      clear hg
      try dsimp only
      refine hK.out _ _ (op4_keep hHeld hb1) (fun hH1 => ?_)
      clear hK K
      refine wpAnyH_ready (rs := [9, 11]) (by kernel_rfl) (by simp) ?_
      refine AllReadyH.cons (o := _) rfl (fun K hK => ?_) (AllReadyH.cons (o := _) rfl (fun K hK => ?_) AllReadyH.nil)
      · go_simp
        refine (HC2.out _).mono ?_
        rintro e w2 ⟨rfl, hg⟩
        have hb2 := grown_below hg
        clear hg
        try dsimp only
        refine hK.out _ _ (op4_keep hH1 hb2) (fun hH2 => ?_)
        clear hK K
        refine wpAnyH_take (i := 10) (oi := _) (v := ?_) rfl (by kernel_rfl) (by kernel_rfl) (by kernel_rfl) (fun _ _ _ h => h) (Or.inl ⟨by rfl, ?_⟩) (by assumption) ?_
        rotate_left
        · intro w hSw
          try dsimp only at hSw
          go_simp <;> with_reducible rfl
        simp only [Act.put, List.setIfInBounds_toArray]
        refine wpAnyH_ready (rs := [11]) (by kernel_rfl) (by simp) ?_
        refine AllReadyH.cons (o := _) rfl (fun K hK => ?_) AllReadyH.nil
        go_simp
        refine hK.out _ _ (op4_keep hH2 (below_alloc (Below.refl _ _) _)) (fun hH3 => ?_)
        clear hK K
        refine wpAnyH_ready (rs := [12]) (by kernel_rfl) (by simp) ?_
        refine AllReadyH.cons (o := _) rfl (fun K hK => ?_) AllReadyH.nil
        go_simp
        refine hK.out _ _ (op4_keep hH2 (below_alloc (Below.refl _ _) _)) (fun hH4 => ?_)
        clear hK K
        refine wpAnyH_done (by kernel_rfl) ?_ _
        go_wp2
        go_meet
        case rel => exact ⟨_, rfl, HM1.out w1 w2 hb1 hb2⟩
      · go_simp
        refine hK.out _ _ (op4_keep hH1 (below_alloc (Below.refl _ _) _)) (fun hH2 => ?_)
        clear hK K
        refine wpAnyH_ready (rs := [9]) (by kernel_rfl) (by simp) ?_
        refine AllReadyH.cons (o := _) rfl (fun K hK => ?_) AllReadyH.nil
        go_simp
        refine (HC2.out _).mono ?_
        rintro e w2 ⟨rfl, hg⟩
        have hb2 := grown_below hg
        clear hg
        try dsimp only
        refine hK.out _ _ (op4_keep hH2 hb2) (fun hH3 => ?_)
        clear hK K
        refine wpAnyH_take (i := 10) (oi := _) (v := ?_) rfl (by kernel_rfl) (by kernel_rfl) (by kernel_rfl) (fun _ _ _ h => h) (Or.inl ⟨by rfl, ?_⟩) (by assumption) ?_
        rotate_left
        · intro w hSw
          try dsimp only at hSw
          go_simp <;> with_reducible rfl
        simp only [Act.put, List.setIfInBounds_toArray]
        refine wpAnyH_ready (rs := [12]) (by kernel_rfl) (by simp) ?_
        refine AllReadyH.cons (o := _) rfl (fun K hK => ?_) AllReadyH.nil
        obtain ⟨e0, e1, e2, e3, e4, e5, ef⟩ := al6 hb2
        go_simp
        refine hK.out _ _ (HS6.out w2 _ hH3 (op4_ne hHeld hb1)) (fun hH4 => ?_)
        clear hK K
        refine wpAnyH_done (by kernel_rfl) ?_ _
        go_wp2
        go_meet
        case rel => exact ⟨_, rfl, HM2.out w1 w2 hb1 hb2⟩
    · go_simp
      refine hK.out _ _ (op4_keep hHeld (below_alloc (Below.refl _ _) _)) (fun hH1 => ?_)
      clear hK K
      refine wpAnyH_ready (rs := [4]) (by kernel_rfl) (by simp) ?_
      refine AllReadyH.cons (o := _) rfl (fun K hK => ?_) AllReadyH.nil
      go_simp
      refine (HC1.out _).mono ?_
      rintro e w1 ⟨rfl, hg⟩
      have hb1 := grown_below hg
      clear hg
      try dsimp only
      refine hK.out _ _ (op4_keep hH1 hb1) (fun hH2 => ?_)
      clear hK K
      refine wpAnyH_ready (rs := [9]) (by kernel_rfl) (by simp) ?_
      refine AllReadyH.cons (o := _) rfl (fun K hK => ?_) AllReadyH.nil
      go_simp
      refine (HC2.out _).mono ?_
      rintro e w2 ⟨rfl, hg⟩
      have hb2 := grown_below hg
      clear hg
      try dsimp only
      refine hK.out _ _ (op4_keep hH2 hb2) (fun hH3 => ?_)
      clear hK K
      refine wpAnyH_take (i := 10) (oi := _) (v := ?_) rfl (by kernel_rfl) (by kernel_rfl) (by kernel_rfl) (fun _ _ _ h => h) (Or.inl ⟨by rfl, ?_⟩) (by assumption) ?_
      rotate_left
      · intro w hSw
        try dsimp only at hSw
        go_simp <;> with_reducible rfl
      simp only [Act.put, List.setIfInBounds_toArray]
      refine wpAnyH_ready (rs := [12]) (by kernel_rfl) (by simp) ?_
      refine AllReadyH.cons (o := _) rfl (fun K hK => ?_) AllReadyH.nil
      obtain ⟨e0, e1, e2, e3, e4, e5, ef⟩ := al6 (hb1.trans (hb2.mono hb1.size))
      go_simp
      refine hK.out _ _ (HS6.out w2 _ hH3 hne0) (fun hH4 => ?_)
      clear hK K
      refine wpAnyH_done (by kernel_rfl) ?_ _
      go_wp2
      go_meet
      case rel => exact ⟨_, rfl, HM3.out w2 (hb1.trans (hb2.mono hb1.size))⟩
  case rest =>
    obtain ⟨b, rfl, hm⟩ := hcut
    have HBE : Hid (Below w.heap.size w wc) := hm.out.be
    have hlt := hm.out.lt
    have o0 := blk_cell hm.out.op 0
    have o1 := blk_cell hm.out.op 1
    have o2 := blk_cell hm.out.op 2
    have o3 := blk_cell hm.out.op 3
    have o4 := blk_cell hm.out.op 4
    obtain ⟨a0, a1, a2, a3, a4, a5⟩ := six_cells hm.out.at_
    have af := blk_thaw hm.out.at_
    obtain ⟨r0, r1, r2, r3, r4, r5⟩ := six_cells hm.out.rs
    have HRS : Hid (wc.heap[w.heap.size + 1]? = some (.cells #[.int .i64 0, .string ⟨#[]⟩, .int .i64 0, .int .i64 0, .string ⟨#[]⟩, .int .i64 0] 76 (0, 0))) := hm.out.rs
    have rf := blk_thaw hm.out.rs
    have q2 : w.heap.size + 1 ≠ b := by have := hm.out.lt; omega
    simp at o0 o1 o2 o3 o4
    clear hm HM1 HM2 HM3 HS6 hne0 HC1 HC2
    generalize wc = w3 at *
    have q1 : b ≠ w.heap.size := by omega
    have q3 : b ≠ w.heap.size + 1 := fun e => q2 e.symm
    clear HRS
    by_cases h1 : ty = 1
    · subst h1
      go_wp2
      go_region
      all_goals go_wp2
      all_goals refine bodyPost_ret (v := At.val ⟨1, key, side, r, elem, n⟩) (by simp [results, Tryz.results159, go_sem, At.val, r0, r1, r2, r3, r4, r5]) rfl ⟨by simp [movedAt], ?_⟩
      all_goals repeat (with_reducible first | exact HBE.out | refine Below.drew ?_ | refine Below.setCell ?_ (by dsimp only; omega) _)
    by_cases h2 : ty = 2
    · subst h2
      by_cases hn : n < 0
      · have hmx : max n (-n) = -n := by omega
        go_wp2
        go_region
        all_goals go_wp2
        all_goals refine bodyPost_ret (v := At.val ⟨2, key, 1, r, elem, -n⟩) (by simp [results, Tryz.results159, go_sem, At.val, r0, r1, r2, r3, r4, r5]) rfl ⟨by simp [movedAt, hn, hmx], ?_⟩
        all_goals repeat (with_reducible first | exact HBE.out | refine Below.drew ?_ | refine Below.setCell ?_ (by dsimp only; omega) _)
      · have hmx : max n (-n) = n := by omega
        have hn' : 0 ≤ n := by omega
        go_wp2
        go_region
        all_goals go_wp2
        all_goals refine bodyPost_ret (v := At.val ⟨2, key, side, r, elem, n⟩) (by simp [results, Tryz.results159, go_sem, At.val, r0, r1, r2, r3, r4, r5]) rfl ⟨by dsimp only [movedAt]; rw [if_neg (by decide), if_pos rfl, if_neg (by omega), hmx], ?_⟩
        all_goals repeat (with_reducible first | exact HBE.out | refine Below.drew ?_ | refine Below.setCell ?_ (by dsimp only; omega) _)
    by_cases h5 : ty = 5
    · subst h5
      go_wp2
      refine bodyPost_ret (v := At.val ⟨5, key, side, r, elem, 1⟩) (by simp [results, Tryz.results159, go_sem, At.val, r0, r1, r2, r3, r4, r5]) rfl ⟨by simp [movedAt], ?_⟩
      repeat (with_reducible first | exact HBE.out | refine Below.drew ?_ | refine Below.setCell ?_ (by dsimp only; omega) _)
    have g1 : (ty == 1) = false := by simpa using h1
    have g2 : (ty == 2) = false := by simpa using h2
    have g5 : (ty == 5) = false := by simpa using h5
    go_wp2
    refine bodyPost_ret (v := At.val ⟨ty, key, side, 0, elem, 0⟩) (by simp [results, Tryz.results159, go_sem, At.val, r0, r1, r2, r3, r4, r5]) rfl ⟨by simp [movedAt, h1, h2, h5], ?_⟩
    repeat (with_reducible first | exact HBE.out | refine Below.drew ?_ | refine Below.setCell ?_ (by dsimp only; omega) _)
end Go.Proofs.YtahdlejgjcjeoabGreatDoor

namespace Go.Proofs.YtahdlejgjcjeoabGreatDoor
open Go.RowKit

/-- What Change answers. -/
def chgN (M : Sl → Option Gr) (r : Nat) (o : OpV) : Int := (movedAt r o).n + (got M (slot (movedAt r o))).n
def chgErr (M : Sl → Option Gr) (r : Nat) (o : OpV) : Int := if fineOp o = false then 6 else if 2147483647 < chgN M r o then 2 else 0
def noAt : At := ⟨0, ⟨#[]⟩, 0, 0, ⟨#[]⟩, 0⟩
def chgAt (M : Sl → Option Gr) (r : Nat) (o : OpV) : At := if chgErr M r o = 0 then { movedAt r o with n := chgN M r o } else noAt


theorem moved_fine {r : Nat} {o : OpV} (h : fineOp o = true) : 1 ≤ (movedAt r o).ty ∧ (movedAt r o).ty ≤ 5 ∧ 0 ≤ (movedAt r o).n ∧ (movedAt r o).n ≤ 1000 ∧ -1000 ≤ o.n ∧ o.n ≤ 1000 := by
  obtain ⟨ty, key, side, elem, n⟩ := o
  simp only [fineOp, decide_eq_true_eq] at h
  unfold movedAt
  dsimp only
  split
  · dsimp only; omega
  · split
    · dsimp only; omega
    · split <;> dsimp only <;> omega
theorem moved_fits {r : Nat} {o : OpV} (hr : r < 6) (h : fineOp o = true) : fits (movedAt r o) := by
  obtain ⟨ty, key, side, elem, n⟩ := o
  simp only [fineOp, decide_eq_true_eq] at h
  unfold movedAt fits
  dsimp only
  split
  · dsimp only; omega
  · split
    · dsimp only; split <;> omega
    · split <;> dsimp only <;> omega
theorem st_get (w : World) (b n : Nat) (M : Sl → Option Gr) (hown : StMap w b n M) (s : Sl) (hs : s.ok) : (Instr.lookup 122 (.map (some b)) s.val false).run Tryz.prog w = .ok (got M s).val w := by
  obtain ⟨D, h1, h2, h3⟩ := hown
  obtain ⟨v, ps, hrun, hv⟩ := h1.lookup slotKeyed (t := 122) (e := 213) Tryz.underlying122 (zeroGrade w) (grElem_mk _) (keyOf_slot s hs)
  rw [hrun]
  obtain ⟨g, rfl, hz⟩ := grElem_inv hv
  simp only [Prod.mk.injEq] at hz
  cases hM : M s with
  | none =>
    rw [Maps.atKey_of_not_has (h2 s hs hM)] at hz
    have : g = got M s := by unfold got; rw [hM]; exact (Gr.dat_inj hz.1).symm
    rw [this]
  | some g' =>
    rw [(h3 s g' hM).2.2] at hz
    have : g = got M s := by unfold got; rw [hM]; exact (Gr.dat_inj hz.1).symm
    rw [this]
theorem field_n (g : Gr) (w : World) : (Instr.field 213 (.agg #[.int .i64 g.n, .int .i64 g.who, .string g.elem]) 0).run Tryz.prog w = .ok (.int .i64 g.n) w := by kernel_rfl
/-- The operation and the answer's room. -/
structure ChgAt (w w1 : World) (ty : Int) (key : ByteArray) (side : Int) (elem : ByteArray) (n : Int) : Prop where
  op : w1.heap[w.heap.size]? = some (.cells #[.int .i64 ty, .string key, .int .i64 side, .string elem, .int .i64 n] 31 (0, 0))
  rs : w1.heap[w.heap.size + 1]? = some (.cells #[.int .i64 0, .string ⟨#[]⟩, .int .i64 0, .int .i64 0, .string ⟨#[]⟩, .int .i64 0] 76 (0, 0))
  be : Below w.heap.size w w1
  lt : w.heap.size + 1 < w1.heap.size
theorem chgAt_start {w : World} {ty : Int} {key : ByteArray} {side : Int} {elem : ByteArray} {n : Int} : ChgAt w ((w.alloc (.cells #[.int .i64 ty, .string key, .int .i64 side, .string elem, .int .i64 n] 31)).alloc (.cells #[.int .i64 0, .string ⟨#[]⟩, .int .i64 0, .int .i64 0, .string ⟨#[]⟩, .int .i64 0] 76)) ty key side elem n :=
  ⟨mv_op, mv_rs, below_alloc (below_alloc (Below.refl _ w) _) _, by simp⟩
theorem ChgAt.below {w w1 w2 : World} {ty : Int} {key : ByteArray} {side : Int} {elem : ByteArray} {n : Int} (h : ChgAt w w1 ty key side elem n) (hb : Below w1.heap.size w1 w2) : ChgAt w w2 ty key side elem n :=
  ⟨(hb.block _ (Nat.lt_of_succ_lt h.lt)).trans h.op, (hb.block _ h.lt).trans h.rs, h.be.trans (hb.mono h.be.size), Nat.lt_of_lt_of_le h.lt hb.size⟩

set_option maxRecDepth 100000 in
set_option maxHeartbeats 1000000 in
theorem change_any (b m : Nat) (M : Sl → Option Gr) (r : Nat) (o : OpV) (w : World) (hr : RulesAt w) (hs : StepsAt w) (hm : StMap w b m M) (ho : o.short) (hr6 : r < 6) (hN : ∀ s, 0 ≤ (got M s).n ∧ (got M s).n ≤ 2147483647) :
    Calls Tryz.prog 108 #[.map (some b), .int .i64 r, o.val] w fun e w' => e = .returned (.tuple #[(chgAt M r o).val, .int .i64 (chgErr M r o)]) ∧ Below w.heap.size w w' := by
  have HOP : Hid (∀ W, StepsAt W → Calls Tryz.prog 158 #[o.val] W fun e w' => e = .returned (.bool (fineOp o)) ∧ Below W.heap.size W w') := fun W h => isOp_any o W h ho
  cases hf : fineOp o
  · have he : chgErr M r o = 6 := by simp [chgErr, hf]
    have ha : chgAt M r o = noAt := by simp [chgAt, he]
    rw [he, ha]
    obtain ⟨ty, key, side, elem, n⟩ := o
    unfold OpV.val at *
    simp only at *
    go_enter Tryz.func108, Tryz.ntmps108
    go_wp2_with fail
    refine (HOP.out _ (hs.below (below_alloc (below_alloc (Below.refl _ w) _) _) hs.1)).mono ?_
    rintro e w1 ⟨rfl, hb1⟩
    have hC := (chgAt_start (w := w) (ty := ty) (key := key) (side := side) (elem := elem) (n := n)).below hb1
    obtain ⟨r0, r1, r2, r3, r4, r5⟩ := six_cells hC.rs
    have rf := blk_thaw hC.rs
    have HBE : Hid (Below w.heap.size w w1) := hC.be
    clear hb1 hC HOP
    go_wp2
    refine bodyPost_ret (v := .tuple #[noAt.val, .int .i64 6]) (by simp [results, Tryz.results108, go_sem, At.val, noAt, r0, r1, r2, r3, r4, r5]) rfl ⟨rfl, ?_⟩
    repeat (with_reducible first | exact HBE.out | refine Below.drew ?_ | refine Below.setCell ?_ (by dsimp only; omega) _)
  · have hm0 : 1 ≤ (movedAt r o).ty ∧ (movedAt r o).ty ≤ 5 ∧ 0 ≤ (movedAt r o).n ∧ (movedAt r o).n ≤ 1000 ∧ -1000 ≤ o.n ∧ o.n ≤ 1000 := moved_fine hf
    have hok := slot_ok (moved_fits hr6 hf)
    have HMV : Hid (∀ W, Calls Tryz.prog 159 #[.int .i64 r, o.val] W fun e w' => e = .returned (movedAt r o).val ∧ Below W.heap.size W w') := fun W => moved_any r o W ho ⟨hm0.2.2.2.2.1, hm0.2.2.2.2.2⟩
    have hgN := hN (slot (movedAt r o))
    have HER : Hid (chgErr M r o = if 2147483647 < (movedAt r o).n + (got M (slot (movedAt r o))).n then (2 : Int) else 0) := by unfold Hid chgErr chgN; rw [if_neg (by simp [hf])]
    have HAT : Hid (chgAt M r o = if 2147483647 < (movedAt r o).n + (got M (slot (movedAt r o))).n then noAt else { movedAt r o with n := (movedAt r o).n + (got M (slot (movedAt r o))).n }) := by
      rw [Hid, chgAt, HER.out]
      split <;> simp [chgN]
    have HMV2 : Hid (∀ W, Calls Tryz.prog 159 #[.int .i64 r, o.val] W fun e w' => e = .returned (.agg #[.int .i64 (movedAt r o).ty, .string (movedAt r o).key, .int .i64 (movedAt r o).side, .int .i64 (movedAt r o).who, .string (movedAt r o).elem, .int .i64 (movedAt r o).n]) ∧ Below W.heap.size W w') := HMV.out
    clear HMV
    generalize movedAt r o = a at *
    have HM : Hid (StMap w b m M) := hm
    have HR : Hid (RulesAt w) := hr
    clear hm hr
    obtain ⟨ty, key, side, elem, n⟩ := o
    unfold OpV.val at *
    simp only at *
    go_enter Tryz.func108, Tryz.ntmps108
    go_wp2_with fail
    refine (HOP.out _ (hs.below (below_alloc (below_alloc (Below.refl _ w) _) _) hs.1)).mono ?_
    rintro e w1 ⟨rfl, hb1⟩
    have HC1 := hid_of ((chgAt_start (w := w) (ty := ty) (key := key) (side := side) (elem := elem) (n := n)).below hb1)
    have o0 := blk_cell HC1.out.op 0
    have o1 := blk_cell HC1.out.op 1
    have o2 := blk_cell HC1.out.op 2
    have o3 := blk_cell HC1.out.op 3
    have o4 := blk_cell HC1.out.op 4
    simp at o0 o1 o2 o3 o4
    clear hb1 HOP
    go_wp2_with fail
    refine (HMV2.out _).mono ?_
    rintro e w2 ⟨rfl, hb2⟩
    have HC2 := hid_of (HC1.out.below hb2)
    clear hb2 HC1 HMV2 o0 o1 o2 o3 o4
    go_wp2_with fail
    refine (split_exp a _ ?hrl hm0.1 hm0.2.1).mono ?_
    case hrl => exact HR.out.below (below_alloc HC2.out.be _) HR.out.1
    rintro e w3 ⟨rfl, hb3⟩
    have HC3 := hid_of ((HC2.out.below (below_alloc (Below.refl _ _) (.cells #[.int .i64 a.ty, .string a.key, .int .i64 a.side, .int .i64 a.who, .string a.elem, .int .i64 a.n] 76))).below hb3)
    have hA := (hb3.block w2.heap.size (by simp)).trans (heap_alloc_new w2 _)
    obtain ⟨a0, a1, a2, a3, a4, a5⟩ := six_cells hA
    have af := blk_thaw hA
    have hst3 := HM.out.below HC3.out.be
    have HLT : Hid (w.heap.size + 1 < w2.heap.size) := HC2.out.lt
    have HA3 : Hid (w3.heap[w2.heap.size]? = some (.cells #[.int .i64 a.ty, .string a.key, .int .i64 a.side, .int .i64 a.who, .string a.elem, .int .i64 a.n] 76 (0, 0))) := hA
    have hw23 : w2.heap.size < w3.heap.size := by have := hb3.size; simp at this; omega
    clear hb3 HC2 hA
    have HST : Hid (StMap w3 b m M) := hst3
    clear hst3
    generalize slot a = s at *
    generalize grade a = gg at *
    have hgv := hgN
    go_wp2
    generalize hW5 : (w3.alloc (.cells #[.int .i64 s.ty, .string s.key, .int .i64 s.side, .int .i64 s.who, .string s.elem] 211)).alloc (.cells #[.int .i64 gg.n, .int .i64 gg.who, .string gg.elem] 213) = w5
    have hb5 : Below w3.heap.size w3 w5 := by rw [← hW5]; exact below_alloc (below_alloc (Below.refl _ _) _) _
    have s0 : w5.heap[w3.heap.size]? = some (.cells #[.int .i64 s.ty, .string s.key, .int .i64 s.side, .int .i64 s.who, .string s.elem] 211 (0, 0)) := by
      rw [← hW5, (below_alloc (Below.refl (w3.alloc (.cells #[.int .i64 s.ty, .string s.key, .int .i64 s.side, .int .i64 s.who, .string s.elem] 211)).heap.size _) _).block w3.heap.size (by simp)]
      exact heap_alloc_new w3 _
    have t0 := blk_cell s0 0
    have t1 := blk_cell s0 1
    have t2 := blk_cell s0 2
    have t3 := blk_cell s0 3
    have t4 := blk_cell s0 4
    simp at t0 t1 t2 t3 t4
    have HC5 := hid_of (HC3.out.below hb5)
    have hA5 := (hb5.block w2.heap.size hw23).trans HA3.out
    obtain ⟨b0, b1, b2, b3, b4, b5⟩ := six_cells hA5
    have bf := blk_thaw hA5
    have hget : (Instr.lookup 122 (.map (some b)) (.agg #[.int .i64 s.ty, .string s.key, .int .i64 s.side, .int .i64 s.who, .string s.elem]) false).run Tryz.prog w5.drew = .ok (.agg #[.int .i64 (got M s).n, .int .i64 (got M s).who, .string (got M s).elem]) w5.drew := st_get w5.drew b m M ((HST.out.below hb5).below ⟨rfl, rfl, rfl, Nat.le_refl _, fun _ _ => rfl⟩) s hok
    clear hW5 hb5 s0 hA5 HST HC3 HA3 a0 a1 a2 a3 a4 a5 af
    generalize got M s = gs at *
    have hfl := field_n gs w5.drew
    go_region
    obtain ⟨r0, r1, r2, r3, r4, r5⟩ := six_cells HC5.out.rs
    have rf := blk_thaw HC5.out.rs
    have HBE : Hid (Below w.heap.size w w5) := HC5.out.be
    have q2 : w2.heap.size ≠ w.heap.size + 1 := by have := HLT.out; omega
    have q3 : w.heap.size + 1 ≠ w2.heap.size := fun e => q2 e.symm
    have q4 : w.heap.size ≤ w2.heap.size := by have := HLT.out; omega
    clear HC5 HLT hget hfl t0 t1 t2 t3 t4
    by_cases hlg : 2147483647 < a.n + gs.n
    · rw [if_pos hlg] at HER HAT
      go_wp2
      refine bodyPost_ret (v := .tuple #[noAt.val, .int .i64 2]) (by simp [results, Tryz.results108, go_sem, At.val, noAt, r0, r1, r2, r3, r4, r5]) rfl ⟨by rw [HER.out, HAT.out], ?_⟩
      repeat (with_reducible first | exact HBE.out | refine Below.drew ?_ | refine Below.setCell ?_ (by dsimp only; omega) _)
    · rw [if_neg hlg] at HER HAT
      have q5 : a.n + gs.n ≤ 2147483647 := by omega
      go_wp2
      refine bodyPost_ret (v := .tuple #[At.val { a with n := a.n + gs.n }, .int .i64 0]) (by simp [results, Tryz.results108, go_sem, At.val, r0, r1, r2, r3, r4, r5]) rfl ⟨by rw [HER.out, HAT.out], ?_⟩
      repeat (with_reducible first | exact HBE.out | refine Below.drew ?_ | refine Below.setCell ?_ (by dsimp only; omega) _)
end Go.Proofs.YtahdlejgjcjeoabGreatDoor

namespace Go.Proofs.YtahdlejgjcjeoabGreatDoor
open Go.RowKit

/-- A state without what another has as well. -/
def thinM (M O : Sl → Option Gr) (s : Sl) : Option Gr :=
  match M s, O s with
  | some g, some h => if gcmp g h ≤ 0 then none else some g
  | some g, none => some g
  | none, _ => none
theorem thinM_some {M O : Sl → Option Gr} {s : Sl} {g : Gr} (h : thinM M O s = some g) : M s = some g ∧ ∀ k, O s = some k → 0 < gcmp g k := by
  unfold thinM at h
  split at h
  · rename_i g' k' hM hO
    split at h
    · cases h
    · rename_i hn
      cases h
      exact ⟨hM, fun k hk => by rw [hO] at hk; cases hk; omega⟩
  · rename_i g' hM hO
    cases h
    exact ⟨hM, fun k hk => by rw [hO] at hk; cases hk⟩
  · cases h
theorem thinM_mk {M O : Sl → Option Gr} {s : Sl} {g : Gr} (h : M s = some g) (k : ∀ k, O s = some k → 0 < gcmp g k) : thinM M O s = some g := by
  unfold thinM
  rw [h]
  cases hO : O s with
  | none => rfl
  | some k' => 
    have := k k' hO
    simp only
    rw [if_neg (by omega)]

theorem thin_may {M O : Sl → Option Gr} (h : MayMap M) : MayMap (thinM M O) := fun s g hs => h s g (thinM_some hs).1

theorem Holds2.news {M O : Sl → Option Gr} {l m out : List At} (h : Holds2 M l) (k : Holds2 O m) (hl : ∀ a ∈ l, mayB a = true) (ht : TellOf (thinM M O) out) : IsNews l m out where
  sorted := ht.sorted
  mem x := by
    rw [ht.mem]
    constructor
    · rintro ⟨hmx, hx⟩
      obtain ⟨hMx, hOx⟩ := thinM_some hx
      obtain ⟨a, ha, h1, h2⟩ := h.only _ _ hMx
      have hax : a = x := by rw [← unite_eq a (hl a ha), ← unite_eq x hmx, h1, h2]
      refine ⟨hax ▸ ha, fun y hy hp => ?_, fun y hy hp => ?_⟩
      · obtain ⟨g, hg, hle⟩ := h.top y hy
        rw [plc_slot hp, hMx] at hg
        rw [grd_eq y x (plc_ty hp), Option.some.inj hg]
        exact hle
      · obtain ⟨g, hg, hle⟩ := k.top y hy
        rw [← plc_slot hp] at hg
        have h3 := hOx g hg
        rw [grd_eq x y (plc_ty hp)]
        have h4 := gcmp_tp.anti (grade x) g
        have h5 := gcmp_tp.le_lt hle (z := grade x) (by omega)
        have h6 := gcmp_tp.anti (grade y) (grade x)
        omega
    · rintro ⟨h1, h2, h3⟩
      refine ⟨hl x h1, thinM_mk ?_ ?_⟩
      · obtain ⟨g, hg, hle⟩ := h.top x h1
        obtain ⟨b, hb, e1, rfl⟩ := h.only _ _ hg
        have hp : plc b x = 0 := by rw [plc_eq, scmp_zero, e1]
        have h4 := h2 b hb hp
        rw [grd_eq b x (plc_ty hp)] at h4
        have h5 := gcmp_tp.anti (grade x) (grade b)
        rw [hg, (gcmp_zero (grade x) (grade b)).1 (by omega)]
      · intro g hg
        obtain ⟨y, hy, e1, rfl⟩ := k.only _ _ hg
        have hp : plc x y = 0 := by rw [plc_eq, scmp_zero, e1]
        have := h3 y hy hp
        rwa [grd_eq x y (plc_ty hp)] at this

end Go.Proofs.YtahdlejgjcjeoabGreatDoor
