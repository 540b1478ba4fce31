/- Rows of one's own: where they lie, what keeps them. -/
import Derived.Test.YtahdlejgjcjeoaaGreatDoorP04
namespace Go.Proofs.YtahdlejgjcjeoaaGreatDoor
open Go.RowKit

/-- Outside X nothing that was there has turned. -/
structure Fr (X : Nat → Prop) (w w' : World) : Prop where
  os : w'.os = w.os
  tape : w'.tape = w.tape
  output : w'.output = w.output
  size : w.heap.size ≤ w'.heap.size
  block : ∀ k, k < w.heap.size → ¬ X k → w'.heap[k]? = w.heap[k]?
theorem Fr.refl (X : Nat → Prop) (w : World) : Fr X w w := ⟨rfl, rfl, rfl, Nat.le_refl _, fun _ _ _ => rfl⟩
theorem Fr.step {X : Nat → Prop} {w w1 w2 : World} {row : Option Nat} (h : Fr X w w1) (hg : w1.grownBy w2 row) (hr : ∀ q, row = some q → w.heap.size ≤ q ∨ X q) : Fr X w w2 :=
  ⟨hg.os.trans h.os, hg.tape.trans h.tape, hg.output.trans h.output, Nat.le_trans h.size hg.size, fun k hk hx => by
    refine (hg.block k (Nat.lt_of_lt_of_le hk h.size) (fun e => ?_)).trans (h.block k hk hx)
    rcases hr k e.symm with h1 | h1
    · omega
    · exact hx h1⟩
theorem Fr.below {X : Nat → Prop} {w w1 w2 : World} (h : Fr X w w1) (hb : Below w1.heap.size w1 w2) : Fr X w w2 := h.step (below_grown hb none) (fun q hq => by cases hq)
theorem grown_setCell (w : World) (a : Addr) (u : Value) : w.grownBy (w.setCell a u) (some a.block) :=
  ⟨rfl, rfl, rfl, by simp [World.setCell], fun k _ hne => Below.heap_setCell _ _ _ _ (fun e => hne (by rw [e]))⟩
theorem Fr.trans {X Y : Nat → Prop} {w w1 w2 : World} (h : Fr X w w1) (k : Fr Y w1 w2) (hY : ∀ q, q < w.heap.size → Y q → X q) : Fr X w w2 :=
  ⟨k.os.trans h.os, k.tape.trans h.tape, k.output.trans h.output, Nat.le_trans h.size k.size, fun q hq hx => (k.block q (Nat.lt_of_lt_of_le hq h.size) (fun hy => hx (hY q hq hy))).trans (h.block q hq hx)⟩
theorem Fr.toBelow {X : Nat → Prop} {w w' : World} (h : Fr X w w') {B : Nat} (hB : B ≤ w.heap.size) (hX : ∀ q, X q → B ≤ q) : Below B w w' :=
  ⟨h.os, h.tape, h.output, h.size, fun k hk => h.block k (Nat.lt_of_lt_of_le hk hB) (fun hx => by have := hX k hx; omega)⟩

theorem flatE_snoc (es : List (Value × Int)) (s : Value) (k : Int) : flatE (es ++ [(s, k)]) = flatE es ++ [s, .int .i64 k] := by simp [flatE]

theorem BookInv.push {w w2 : World} {B : Nat} {va : Value} {es : List (Value × Int)} (h : BookInv w B va es) (s : Value) (k : Int) {g cap : Nat} (tmp : Obj)
    (hkb : 0 ≤ k ∧ k ≤ 1000000) (hgood : ∃ n, n ≤ 16777216 ∧ SliceOf w s (List.replicate n (mark k))) (hsep : ∀ q, s.ownBlock = some q → q < w.heap.size ∧ q ≠ B ∧ some q ≠ va.ownBlock)
    (hown : w2.ownsRow (B + 1) 75 2 (.slice (some ⟨g, 0, none⟩) (es.length + 1) cap) (es.length + 1) (flatE es ++ [s, .int .i64 k]))
    (hcase : ((w.alloc tmp).grownBy w2 none ∧ (w.alloc tmp).heap.size ≤ g) ∨ (va.ownBlock = some g ∧ (w.alloc tmp).grownBy w2 (some g))) :
    BookInv (w2.setCell ⟨B, 0, none⟩ (.slice (some ⟨g, 0, none⟩) (es.length + 1) cap)) B (.slice (some ⟨g, 0, none⟩) (es.length + 1) cap) (es ++ [(s, k)]) := by
  have hgB : B + 1 ≤ g := owns_base hown g rfl
  have hBlt := h.lt
  have hal : w.grownBy (w.alloc tmp) none := World.grownBy_alloc w tmp none
  -- one row alone may have turned
  obtain ⟨row, hg, hrow⟩ : ∃ row, w.grownBy w2 row ∧ ∀ q, row = some q → va.ownBlock = some q := by
    rcases hcase with ⟨h1, _⟩ | ⟨h1, h2⟩
    · exact ⟨none, grown_trans hal h1, fun q hq => by cases hq⟩
    · exact ⟨some g, grown_trans (hal.but _) h2, fun q hq => by cases hq; exact h1⟩
  have hne : ∀ q, q ≠ B → some q ≠ va.ownBlock → some q ≠ row := fun q _ h2 e => h2 (hrow q e.symm).symm
  have hBr : some B ≠ row := fun e => by
    have := owns_base h.row B (hrow B e.symm)
    omega
  have hcB : ∀ (o : Nat) (u : Value), w.cell? ⟨B, o, none⟩ = some u → w2.cell? ⟨B, o, none⟩ = some u := fun o u hu => hg.cell hu hBr
  have hfr2 : ∀ o, w2.frozen? ⟨B, o, none⟩ = false := fun o => by rw [← h.fz o]; exact World.frozen?_of_block (w := w) (hg.block B hBlt hBr)
  obtain ⟨cc, ee, ff, hbB, hcc⟩ := Go.Sort.cells_of_cell? (hcB 0 _ h.c0)
  have hblk := heap_setCell_at (o := 0) hbB (.slice (some ⟨g, 0, none⟩) (es.length + 1) cap)
  have hsc := grown_setCell w2 ⟨B, 0, none⟩ (.slice (some ⟨g, 0, none⟩) (es.length + 1) cap)
  have hgood' : ∀ p ∈ es ++ [(s, k)], ∃ n, n ≤ 16777216 ∧ SliceOf w p.1 (List.replicate n (mark p.2)) := by
    intro p hp
    rcases List.mem_append.1 hp with hp | hp
    · exact h.good p hp
    · rw [List.mem_singleton] at hp; subst hp; exact hgood
  have hsep' : ∀ p ∈ es ++ [(s, k)], ∀ q, p.1.ownBlock = some q → q < w.heap.size ∧ q ≠ B ∧ some q ≠ va.ownBlock := by
    intro p hp
    rcases List.mem_append.1 hp with hp | hp
    · exact h.sep p hp
    · rw [List.mem_singleton] at hp; subst hp; exact hsep
  have hoth : ∀ j u, j ≠ 0 → w2.cell? ⟨B, j, none⟩ = some u → (w2.setCell ⟨B, 0, none⟩ (.slice (some ⟨g, 0, none⟩) (es.length + 1) cap)).cell? ⟨B, j, none⟩ = some u := by
    intro j u hj hu
    simp only [World.cell?, hbB] at hu
    simp only [World.cell?, hblk]
    simpa [Array.getElem?_setIfInBounds, Ne.symm hj] using hu
  refine ⟨?_, hoth 1 _ (by decide) (hcB 1 _ h.c1), hoth 2 _ (by decide) (hcB 2 _ h.c2), hoth 3 _ (by decide) (hcB 3 _ h.c3), fun o => ?_, ?_, fun p hp => ?_, fun p hp => ?_, fun p hp q hq => ?_⟩
  · have h0 : 0 < cc.size := (Array.getElem?_eq_some_iff.1 hcc).1
    simp only [World.cell?, hblk]
    simp [h0]
  · have := hfr2 o
    simp only [World.frozen?, hbB] at this
    simp only [World.frozen?, hblk]
    simpa using this
  · rw [flatE_snoc, List.length_append]
    exact owns_grown' hown hsc (fun q hq => by cases hq; intro e; cases e; omega)
  · obtain ⟨n, hnb, hn⟩ := hgood' p hp
    have hs := hsep' p hp
    exact ⟨n, hnb, (hn.grown hg (fun q hq => hne q (hs q hq).2.1 (hs q hq).2.2)).grown hsc (fun q hq e => (hs q hq).2.1 (by cases e; rfl))⟩
  · rcases List.mem_append.1 hp with hp | hp
    · exact h.bnd p hp
    · rw [List.mem_singleton] at hp; subst hp; exact hkb
  · have hs := hsep' p hp q hq
    have h1 : w2.heap.size ≤ (w2.setCell ⟨B, 0, none⟩ (.slice (some ⟨g, 0, none⟩) (es.length + 1) cap)).heap.size := hsc.size
    refine ⟨Nat.lt_of_lt_of_le hs.1 (Nat.le_trans hg.size h1), hs.2.1, fun e => ?_⟩
    have hqg : q = g := by cases e; rfl
    rcases hcase with ⟨_, h2⟩ | ⟨h2, _⟩
    · simp at h2; omega
    · exact hs.2.2 (by rw [h2, hqg])

end Go.Proofs.YtahdlejgjcjeoaaGreatDoor

namespace Go.Proofs.YtahdlejgjcjeoaaGreatDoor
open Go.RowKit

theorem own_g {g n cap q : Nat} (h : (Value.slice (some ⟨g, 0, none⟩) n cap).ownBlock = some q) : g = q := by simpa [Value.ownBlock] using h
theorem BookInv.inplace {w w' : World} {B g N : Nat} {va : Value} {es : List (Value × Int)} {k : Int} (h : BookInv w B va es) (hg : w.grownBy w' (some g)) (hgB : g ≠ B) (hgv : some g ≠ va.ownBlock) (hrow : RowAt w' g 0 (List.replicate N (mark k))) (hlt : g < w'.heap.size) (hN : N ≤ 16777216)
    (hcur : ∀ p ∈ es, p.1.ownBlock = some g → ∃ m cap, p.1 = .slice (some ⟨g, 0, none⟩) m cap ∧ m ≤ N ∧ m ≤ cap ∧ p.2 = k) : BookInv w' B va es where
  c0 := hg.cell h.c0 (fun e => hgB (by cases e; rfl))
  c1 := hg.cell h.c1 (fun e => hgB (by cases e; rfl))
  c2 := hg.cell h.c2 (fun e => hgB (by cases e; rfl))
  c3 := hg.cell h.c3 (fun e => hgB (by cases e; rfl))
  fz o := by rw [← h.fz o]; exact World.frozen?_of_block (w := w) (hg.block B h.lt (fun e => hgB (by cases e; rfl)))
  row := owns_grown' h.row hg (fun q hq e => hgv (by rw [hq, e]))
  good p hp := by
    by_cases e : p.1.ownBlock = some g
    · obtain ⟨m, cap, hp1, hm, hmc, hk⟩ := hcur p hp e
      refine ⟨m, by omega, ?_⟩
      rw [hp1, hk]
      refine ⟨_, cap, by simp, by simpa using hmc, fun _ => ⟨g, 0, rfl, hlt, fun i hi => ?_⟩⟩
      have hi' : i < m := by simpa using hi
      have := hrow i (by simp; omega)
      simpa using this
    · obtain ⟨n, hnb, hn⟩ := h.good p hp
      exact ⟨n, hnb, hn.grown hg (fun q hq e' => e (by rw [hq, e']))⟩
  bnd := h.bnd
  sep p hp q hq := ⟨Nat.lt_of_lt_of_le (h.sep p hp q hq).1 hg.size, (h.sep p hp q hq).2⟩

structure OwnSt (w0 : World) (X : Nat → Prop) (b0 : Option Nat) (es0 : List (Value × Int)) (B baseL : Nat) (k : Int) (N : Nat) (w : World) (v va : Value) (es : List (Value × Int)) : Prop where
  inv : BookInv w B va es
  own : w.ownsRow baseL 77 6 v N (flat (List.replicate N (mark k)))
  sepB : ∀ q, v.ownBlock = some q → q < w.heap.size ∧ q ≠ B ∧ some q ≠ va.ownBlock
  cur : ∀ p ∈ es, ∀ q, p.1.ownBlock = some q → v.ownBlock = some q → ∃ m cap, p.1 = .slice (some ⟨q, 0, none⟩) m cap ∧ m ≤ N ∧ m ≤ cap ∧ p.2 = k
  fr : Fr X w0 w
  xv : ∀ q, v.ownBlock = some q → w0.heap.size ≤ q ∨ (X q ∧ some q = b0)
  ent : ∀ p ∈ es, p ∈ es0 ∨ ∀ q, p.1.ownBlock = some q → w0.heap.size ≤ q ∨ some q = b0
  xa : ∀ q, va.ownBlock = some q → w0.heap.size ≤ q ∨ X q
  base : baseL ≤ w.heap.size
  kb : 0 ≤ k ∧ k ≤ 1000000
  nb : N ≤ 16777216

theorem OwnSt.below {w0 : World} {X : Nat → Prop} {b0 : Option Nat} {es0 : List (Value × Int)} {B baseL N : Nat} {k : Int} {w w' : World} {v va : Value} {es : List (Value × Int)} (h : OwnSt w0 X b0 es0 B baseL k N w v va es) (hb : Below w.heap.size w w') : OwnSt w0 X b0 es0 B baseL k N w' v va es where
  inv := h.inv.below hb
  own := owns_below h.own hb
  sepB q hq := ⟨Nat.lt_of_lt_of_le (h.sepB q hq).1 hb.size, (h.sepB q hq).2⟩
  cur := h.cur
  fr := h.fr.below hb
  xv := h.xv
  ent := h.ent
  xa := h.xa
  base := Nat.le_trans h.base hb.size
  kb := h.kb
  nb := h.nb

theorem flat_marks (N : Nat) (k : Int) : flat (List.replicate N (mark k)) ++ enc (mark k) = flat (List.replicate (N + 1) (mark k)) := by
  rw [List.replicate_succ', flat_snoc]

theorem OwnSt.append {w0 : World} {X : Nat → Prop} {b0 : Option Nat} {es0 : List (Value × Int)} {B baseL N : Nat} {k : Int} {w w2 : World} {v va : Value} {es : List (Value × Int)} (h : OwnSt w0 X b0 es0 B baseL k N w v va es) (hN1 : N + 1 ≤ 16777216) (tmp : Obj) {g cap : Nat}
    (hown : w2.ownsRow baseL 77 6 (.slice (some ⟨g, 0, none⟩) (N + 1) cap) (N + 1) (flat (List.replicate N (mark k)) ++ enc (mark k)))
    (hcase : ((w.alloc tmp).grownBy w2 none ∧ (w.alloc tmp).heap.size ≤ g) ∨ (v.ownBlock = some g ∧ (w.alloc tmp).grownBy w2 (some g))) :
    OwnSt w0 X b0 es0 B baseL k (N + 1) w2 (.slice (some ⟨g, 0, none⟩) (N + 1) cap) va es := by
  have ha := h.below (below_alloc (Below.refl _ w) tmp)
  rw [flat_marks] at hown
  have hglt : g < w2.heap.size := by
    rcases hown.2 with ⟨h0, _⟩ | ⟨g', cap', cur, hv, _, hh, _⟩
    · cases h0
    · cases hv; exact (Array.getElem?_eq_some_iff.1 hh).1
  rcases hcase with ⟨hg, hge⟩ | ⟨hv, hg⟩
  · refine ⟨ha.inv.kept hg (by simp) (by simp) (by simp), hown, fun q hq => ?_, fun p hp q h1 h2 => ?_, ha.fr.step hg (fun q hq => by cases hq), fun q hq => ?_, h.ent, h.xa, Nat.le_trans ha.base hg.size, h.kb, hN1⟩
    · obtain rfl := own_g hq
      have hB := ha.inv.lt
      refine ⟨hglt, by omega, fun e => ?_⟩
      have : g < (w.alloc tmp).heap.size := by
        rcases ha.inv.row.2 with ⟨h0, _⟩ | ⟨g', cap', cur, hv', _, hh, _⟩
        · rw [h0] at e; cases e
        · rw [hv'] at e; cases e; exact (Array.getElem?_eq_some_iff.1 hh).1
      omega
    · obtain rfl := own_g h2
      have := (ha.inv.sep p hp _ h1).1
      omega
    · obtain rfl := own_g hq
      left
      have := ha.fr.size
      omega
  · have hs := h.sepB g hv
    have hrw : RowAt w2 g 0 (List.replicate (N + 1) (mark k)) := by
      rcases hown.2 with ⟨h0, _⟩ | ⟨g', cap', cur, hv', _, hh, _, _, _, h4⟩
      · cases h0
      · cases hv'; exact rowAt_of_block hh (by simpa using h4)
    have hcur : ∀ p ∈ es, p.1.ownBlock = some g → ∃ m cap, p.1 = .slice (some ⟨g, 0, none⟩) m cap ∧ m ≤ N + 1 ∧ m ≤ cap ∧ p.2 = k := fun p hp e => by
      obtain ⟨m, c, h1, h2, h3, h4⟩ := h.cur p hp g e hv
      exact ⟨m, c, h1, by omega, h3, h4⟩
    refine ⟨ha.inv.inplace hg hs.2.1 hs.2.2 hrw hglt hN1 hcur, hown, fun q hq => ?_, fun p hp q h1 h2 => ?_, ha.fr.step hg (fun q hq => by cases hq; exact (h.xv g hv).imp id And.left), fun q hq => ?_, h.ent, h.xa, Nat.le_trans ha.base hg.size, h.kb, hN1⟩
    · obtain rfl := own_g hq; exact ⟨hglt, hs.2⟩
    · obtain rfl := own_g h2; exact hcur p hp h1
    · obtain rfl := own_g hq; exact h.xv g hv

theorem OwnSt.push {w0 : World} {X : Nat → Prop} {b0 : Option Nat} {es0 : List (Value × Int)} {B baseL N : Nat} {k : Int} {w w2 : World} {v va : Value} {es : List (Value × Int)} (h : OwnSt w0 X b0 es0 B baseL k N w v va es) (hXB : X B) (tmp : Obj) {g cap : Nat}
    (hown : w2.ownsRow (B + 1) 75 2 (.slice (some ⟨g, 0, none⟩) (es.length + 1) cap) (es.length + 1) (flatE es ++ [v, .int .i64 k]))
    (hcase : ((w.alloc tmp).grownBy w2 none ∧ (w.alloc tmp).heap.size ≤ g) ∨ (va.ownBlock = some g ∧ (w.alloc tmp).grownBy w2 (some g))) :
    OwnSt w0 X b0 es0 B baseL k N (w2.setCell ⟨B, 0, none⟩ (.slice (some ⟨g, 0, none⟩) (es.length + 1) cap)) v (.slice (some ⟨g, 0, none⟩) (es.length + 1) cap) (es ++ [(v, k)]) := by
  have hI := h.inv.push v k tmp h.kb ⟨N, h.nb, sliceOf_owns (by simp) h.own⟩ h.sepB hown hcase
  have hsc := grown_setCell w2 ⟨B, 0, none⟩ (.slice (some ⟨g, 0, none⟩) (es.length + 1) cap)
  have hal : w.grownBy (w.alloc tmp) none := World.grownBy_alloc w tmp none
  have hgB : B + 1 ≤ g := owns_base hown g rfl
  obtain ⟨row, hg, hrow⟩ : ∃ row, w.grownBy w2 row ∧ ∀ q, row = some q → va.ownBlock = some q := by
    rcases hcase with ⟨h1, _⟩ | ⟨h1, h2⟩
    · exact ⟨none, grown_trans hal h1, fun q hq => by cases hq⟩
    · exact ⟨some g, grown_trans (hal.but _) h2, fun q hq => by cases hq; exact h1⟩
  have hv1 : w2.ownsRow baseL 77 6 v N (flat (List.replicate N (mark k))) := owns_grown' h.own hg (fun q hq e => (h.sepB q hq).2.2 (hrow q e.symm).symm)
  refine ⟨hI, owns_grown' hv1 hsc (fun q hq e => (h.sepB q hq).2.1 (by cases e; rfl)), fun q hq => ?_, fun p hp q h1 h2 => ?_, (h.fr.step hg (fun q hq => h.xa q (hrow q hq))).step hsc (fun q hq => by cases hq; exact .inr hXB), h.xv, fun p hp => ?_, fun q hq => ?_, Nat.le_trans h.base (Nat.le_trans hg.size hsc.size), h.kb, h.nb⟩
  · have hs := h.sepB q hq
    refine ⟨Nat.lt_of_lt_of_le hs.1 (Nat.le_trans hg.size hsc.size), hs.2.1, fun e => ?_⟩
    have hqg : q = g := by cases e; rfl
    rcases hcase with ⟨_, h2⟩ | ⟨h2, _⟩
    · simp at h2; omega
    · exact hs.2.2 (by rw [h2, hqg])
  · rcases List.mem_append.1 hp with hp | hp
    · exact h.cur p hp q h1 h2
    · rw [List.mem_singleton] at hp
      subst hp
      rcases h.own.2 with ⟨h0, _⟩ | ⟨g', cap', cur, hv', _, _, hle, _⟩
      · rw [h0] at h2; cases h2
      · rw [hv'] at h2
        cases h2
        exact ⟨N, cap', hv', Nat.le_refl _, hle, rfl⟩
  · rcases List.mem_append.1 hp with hp | hp
    · exact h.ent p hp
    · rw [List.mem_singleton] at hp
      subst hp
      exact .inr fun q hq => (h.xv q hq).imp id And.right
  · obtain rfl := own_g hq
    rcases hcase with ⟨_, h2⟩ | ⟨h2, _⟩
    · left
      have := h.fr.size
      simp at h2
      omega
    · exact h.xa g h2

end Go.Proofs.YtahdlejgjcjeoaaGreatDoor

namespace Go.Proofs.YtahdlejgjcjeoaaGreatDoor
open Go.RowKit

theorem own_lt {w : World} {base : Nat} {e : TypeId} {s n : Nat} {v : Value} {xs : List Value} (h : w.ownsRow base e s v n xs) : ∀ q, v.ownBlock = some q → q < w.heap.size := by
  intro q hq
  rcases h.2 with ⟨rfl, _⟩ | ⟨g, cap, cur, rfl, _, hh, _⟩
  · simp [Value.ownBlock] at hq
  · obtain rfl := own_g hq
    exact (Array.getElem?_eq_some_iff.1 hh).1
theorem owns_fr {X : Nat → Prop} {w w' : World} {base : Nat} {e : TypeId} {s n : Nat} {v : Value} {xs : List Value} (h : w.ownsRow base e s v n xs) (hf : Fr X w w') (hx : ∀ q, v.ownBlock = some q → ¬ X q) : w'.ownsRow base e s v n xs := by
  obtain ⟨h0, h⟩ := h
  refine ⟨h0, ?_⟩
  rcases h with h | ⟨g, cap, cur, rfl, hgb, hh, k⟩
  · exact .inl h
  · exact .inr ⟨g, cap, cur, rfl, hgb, by rw [hf.block g (Array.getElem?_eq_some_iff.1 hh).1 (hx g rfl)]; exact hh, k⟩
theorem own_form {w : World} {base : Nat} {e : TypeId} {s n : Nat} {v : Value} {xs : List Value} (h : w.ownsRow base e s v n xs) : ∃ ad cap, v = .slice ad n cap := by
  rcases h.2 with ⟨rfl, rfl⟩ | ⟨g, cap, cur, rfl, _⟩
  · exact ⟨none, 0, rfl⟩
  · exact ⟨_, cap, rfl⟩
theorem news_pair (w : World) (v : Value) (k : Int) (e : TypeId) : ∀ j u, ([v, .int .i64 k] : List Value)[j]? = some u → (w.alloc (.cells #[v, .int .i64 k] e)).cell? ((⟨w.heap.size, 0, none⟩ : Addr).add j) = some u :=
  fun j u hu => World.news_of_block (heap_alloc_new w _) j u hu
theorem pair_oneCell {v : Value} {ad : Option Addr} {n cap : Nat} (hv : v = .slice ad n cap) (k : Int) : ∀ u ∈ ([v, .int .i64 k] : List Value), u.oneCell' = true := by
  intro u hu
  simp only [List.mem_cons, List.not_mem_nil, or_false] at hu
  rcases hu with rfl | rfl
  · rw [hv]; rfl
  · rfl

end Go.Proofs.YtahdlejgjcjeoaaGreatDoor
