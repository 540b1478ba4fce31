/- The laws' book: one entry more; the frame. -/
import Derived.Test.YtahdlejgjcjeoaaDoorBook
namespace Go.Proofs.YtahdlejgjcjeoaaDoor
open Go.RowKit

/-- Outside X nothing that was there has turned. -/
structure Fr (X : Nat → Prop) (w w' : World) : Prop where
  os : w'.os = w.os
  tape : w'.tape = w.tape
  output : w'.output = w.output
  size : w.heap.size ≤ w'.heap.size
  block : ∀ k, k < w.heap.size → ¬ X k → w'.heap[k]? = w.heap[k]?
theorem Fr.refl (X : Nat → Prop) (w : World) : Fr X w w := ⟨rfl, rfl, rfl, Nat.le_refl _, fun _ _ _ => rfl⟩
theorem Fr.step {X : Nat → Prop} {w w1 w2 : World} {row : Option Nat} (h : Fr X w w1) (hg : w1.grownBy w2 row) (hr : ∀ q, row = some q → w.heap.size ≤ q ∨ X q) : Fr X w w2 :=
  ⟨hg.os.trans h.os, hg.tape.trans h.tape, hg.output.trans h.output, Nat.le_trans h.size hg.size, fun k hk hx => by
    refine (hg.block k (Nat.lt_of_lt_of_le hk h.size) (fun e => ?_)).trans (h.block k hk hx)
    rcases hr k e.symm with h1 | h1
    · omega
    · exact hx h1⟩
theorem Fr.below {X : Nat → Prop} {w w1 w2 : World} (h : Fr X w w1) (hb : Below w1.heap.size w1 w2) : Fr X w w2 := h.step (below_grown hb none) (fun q hq => by cases hq)
theorem grown_setCell (w : World) (a : Addr) (u : Value) : w.grownBy (w.setCell a u) (some a.block) :=
  ⟨rfl, rfl, rfl, by simp [World.setCell], fun k _ hne => Below.heap_setCell _ _ _ _ (fun e => hne (by rw [e]))⟩
theorem Fr.trans {X Y : Nat → Prop} {w w1 w2 : World} (h : Fr X w w1) (k : Fr Y w1 w2) (hY : ∀ q, q < w.heap.size → Y q → X q) : Fr X w w2 :=
  ⟨k.os.trans h.os, k.tape.trans h.tape, k.output.trans h.output, Nat.le_trans h.size k.size, fun q hq hx => (k.block q (Nat.lt_of_lt_of_le hq h.size) (fun hy => hx (hY q hq hy))).trans (h.block q hq hx)⟩
theorem Fr.toBelow {X : Nat → Prop} {w w' : World} (h : Fr X w w') {B : Nat} (hB : B ≤ w.heap.size) (hX : ∀ q, X q → B ≤ q) : Below B w w' :=
  ⟨h.os, h.tape, h.output, h.size, fun k hk => h.block k (Nat.lt_of_lt_of_le hk hB) (fun hx => by have := hX k hx; omega)⟩

theorem flatE_snoc (es : List (Value × Int)) (s : Value) (k : Int) : flatE (es ++ [(s, k)]) = flatE es ++ [s, .int .i64 k] := by simp [flatE]

theorem BookInv.push {w w2 : World} {B : Nat} {va : Value} {es : List (Value × Int)} (h : BookInv w B va es) (s : Value) (k : Int) {g cap : Nat} (tmp : Obj)
    (hkb : 0 ≤ k ∧ k ≤ 1000000) (hgood : ∃ n, n ≤ 16777216 ∧ SliceOf w s (List.replicate n (mark k))) (hsep : ∀ q, s.ownBlock = some q → q < w.heap.size ∧ q ≠ B ∧ some q ≠ va.ownBlock)
    (hown : w2.ownsRow (B + 1) 96 2 (.slice (some ⟨g, 0, none⟩) (es.length + 1) cap) (es.length + 1) (flatE es ++ [s, .int .i64 k]))
    (hcase : ((w.alloc tmp).grownBy w2 none ∧ (w.alloc tmp).heap.size ≤ g) ∨ (va.ownBlock = some g ∧ (w.alloc tmp).grownBy w2 (some g))) :
    BookInv (w2.setCell ⟨B, 0, none⟩ (.slice (some ⟨g, 0, none⟩) (es.length + 1) cap)) B (.slice (some ⟨g, 0, none⟩) (es.length + 1) cap) (es ++ [(s, k)]) := by
  have hgB : B + 1 ≤ g := owns_base hown g rfl
  have hBlt := h.lt
  have hal : w.grownBy (w.alloc tmp) none := World.grownBy_alloc w tmp none
  -- one row alone may have turned
  obtain ⟨row, hg, hrow⟩ : ∃ row, w.grownBy w2 row ∧ ∀ q, row = some q → va.ownBlock = some q := by
    rcases hcase with ⟨h1, _⟩ | ⟨h1, h2⟩
    · exact ⟨none, grown_trans hal h1, fun q hq => by cases hq⟩
    · exact ⟨some g, grown_trans (hal.but _) h2, fun q hq => by cases hq; exact h1⟩
  have hne : ∀ q, q ≠ B → some q ≠ va.ownBlock → some q ≠ row := fun q _ h2 e => h2 (hrow q e.symm).symm
  have hBr : some B ≠ row := fun e => by
    have := owns_base h.row B (hrow B e.symm)
    omega
  have hcB : ∀ (o : Nat) (u : Value), w.cell? ⟨B, o, none⟩ = some u → w2.cell? ⟨B, o, none⟩ = some u := fun o u hu => hg.cell hu hBr
  have hfr2 : ∀ o, w2.frozen? ⟨B, o, none⟩ = false := fun o => by rw [← h.fz o]; exact World.frozen?_of_block (w := w) (hg.block B hBlt hBr)
  obtain ⟨cc, ee, ff, hbB, hcc⟩ := Go.Sort.cells_of_cell? (hcB 0 _ h.c0)
  have hblk := heap_setCell_at (o := 0) hbB (.slice (some ⟨g, 0, none⟩) (es.length + 1) cap)
  have hsc := grown_setCell w2 ⟨B, 0, none⟩ (.slice (some ⟨g, 0, none⟩) (es.length + 1) cap)
  have hgood' : ∀ p ∈ es ++ [(s, k)], ∃ n, n ≤ 16777216 ∧ SliceOf w p.1 (List.replicate n (mark p.2)) := by
    intro p hp
    rcases List.mem_append.1 hp with hp | hp
    · exact h.good p hp
    · rw [List.mem_singleton] at hp; subst hp; exact hgood
  have hsep' : ∀ p ∈ es ++ [(s, k)], ∀ q, p.1.ownBlock = some q → q < w.heap.size ∧ q ≠ B ∧ some q ≠ va.ownBlock := by
    intro p hp
    rcases List.mem_append.1 hp with hp | hp
    · exact h.sep p hp
    · rw [List.mem_singleton] at hp; subst hp; exact hsep
  have hoth : ∀ j u, j ≠ 0 → w2.cell? ⟨B, j, none⟩ = some u → (w2.setCell ⟨B, 0, none⟩ (.slice (some ⟨g, 0, none⟩) (es.length + 1) cap)).cell? ⟨B, j, none⟩ = some u := by
    intro j u hj hu
    simp only [World.cell?, hbB] at hu
    simp only [World.cell?, hblk]
    simpa [Array.getElem?_setIfInBounds, Ne.symm hj] using hu
  refine ⟨?_, hoth 1 _ (by decide) (hcB 1 _ h.c1), hoth 2 _ (by decide) (hcB 2 _ h.c2), hoth 3 _ (by decide) (hcB 3 _ h.c3), fun o => ?_, ?_, fun p hp => ?_, fun p hp => ?_, fun p hp q hq => ?_⟩
  · have h0 : 0 < cc.size := (Array.getElem?_eq_some_iff.1 hcc).1
    simp only [World.cell?, hblk]
    simp [h0]
  · have := hfr2 o
    simp only [World.frozen?, hbB] at this
    simp only [World.frozen?, hblk]
    simpa using this
  · rw [flatE_snoc, List.length_append]
    exact owns_grown' hown hsc (fun q hq => by cases hq; intro e; cases e; omega)
  · obtain ⟨n, hnb, hn⟩ := hgood' p hp
    have hs := hsep' p hp
    exact ⟨n, hnb, (hn.grown hg (fun q hq => hne q (hs q hq).2.1 (hs q hq).2.2)).grown hsc (fun q hq e => (hs q hq).2.1 (by cases e; rfl))⟩
  · rcases List.mem_append.1 hp with hp | hp
    · exact h.bnd p hp
    · rw [List.mem_singleton] at hp; subst hp; exact hkb
  · have hs := hsep' p hp q hq
    have h1 : w2.heap.size ≤ (w2.setCell ⟨B, 0, none⟩ (.slice (some ⟨g, 0, none⟩) (es.length + 1) cap)).heap.size := hsc.size
    refine ⟨Nat.lt_of_lt_of_le hs.1 (Nat.le_trans hg.size h1), hs.2.1, fun e => ?_⟩
    have hqg : q = g := by cases e; rfl
    rcases hcase with ⟨_, h2⟩ | ⟨h2, _⟩
    · simp at h2; omega
    · exact hs.2.2 (by rw [h2, hqg])

end Go.Proofs.YtahdlejgjcjeoaaDoor
