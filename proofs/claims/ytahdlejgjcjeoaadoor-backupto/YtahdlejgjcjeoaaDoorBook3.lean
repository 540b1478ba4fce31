/- The laws' book: a list that is marked and goes on being appended to. -/
import Derived.Test.YtahdlejgjcjeoaaDoorBook2
namespace Go.Proofs.YtahdlejgjcjeoaaDoor
open Go.RowKit

theorem own_g {g n cap q : Nat} (h : (Value.slice (some ⟨g, 0, none⟩) n cap).ownBlock = some q) : g = q := by simpa [Value.ownBlock] using h
theorem BookInv.inplace {w w' : World} {B g N : Nat} {va : Value} {es : List (Value × Int)} {k : Int} (h : BookInv w B va es) (hg : w.grownBy w' (some g)) (hgB : g ≠ B) (hgv : some g ≠ va.ownBlock) (hrow : RowAt w' g 0 (List.replicate N (mark k))) (hlt : g < w'.heap.size) (hN : N ≤ 16777216)
    (hcur : ∀ p ∈ es, p.1.ownBlock = some g → ∃ m cap, p.1 = .slice (some ⟨g, 0, none⟩) m cap ∧ m ≤ N ∧ m ≤ cap ∧ p.2 = k) : BookInv w' B va es where
  c0 := hg.cell h.c0 (fun e => hgB (by cases e; rfl))
  c1 := hg.cell h.c1 (fun e => hgB (by cases e; rfl))
  c2 := hg.cell h.c2 (fun e => hgB (by cases e; rfl))
  c3 := hg.cell h.c3 (fun e => hgB (by cases e; rfl))
  fz o := by rw [← h.fz o]; exact World.frozen?_of_block (w := w) (hg.block B h.lt (fun e => hgB (by cases e; rfl)))
  row := owns_grown' h.row hg (fun q hq e => hgv (by rw [hq, e]))
  good p hp := by
    by_cases e : p.1.ownBlock = some g
    · obtain ⟨m, cap, hp1, hm, hmc, hk⟩ := hcur p hp e
      refine ⟨m, by omega, ?_⟩
      rw [hp1, hk]
      refine ⟨_, cap, by simp, by simpa using hmc, fun _ => ⟨g, 0, rfl, hlt, fun i hi => ?_⟩⟩
      have hi' : i < m := by simpa using hi
      have := hrow i (by simp; omega)
      simpa using this
    · obtain ⟨n, hnb, hn⟩ := h.good p hp
      exact ⟨n, hnb, hn.grown hg (fun q hq e' => e (by rw [hq, e']))⟩
  bnd := h.bnd
  sep p hp q hq := ⟨Nat.lt_of_lt_of_le (h.sep p hp q hq).1 hg.size, (h.sep p hp q hq).2⟩

structure OwnSt (w0 : World) (X : Nat → Prop) (b0 : Option Nat) (es0 : List (Value × Int)) (B baseL : Nat) (k : Int) (N : Nat) (w : World) (v va : Value) (es : List (Value × Int)) : Prop where
  inv : BookInv w B va es
  own : w.ownsRow baseL 52 6 v N (flat (List.replicate N (mark k)))
  sepB : ∀ q, v.ownBlock = some q → q < w.heap.size ∧ q ≠ B ∧ some q ≠ va.ownBlock
  cur : ∀ p ∈ es, ∀ q, p.1.ownBlock = some q → v.ownBlock = some q → ∃ m cap, p.1 = .slice (some ⟨q, 0, none⟩) m cap ∧ m ≤ N ∧ m ≤ cap ∧ p.2 = k
  fr : Fr X w0 w
  xv : ∀ q, v.ownBlock = some q → w0.heap.size ≤ q ∨ (X q ∧ some q = b0)
  ent : ∀ p ∈ es, p ∈ es0 ∨ ∀ q, p.1.ownBlock = some q → w0.heap.size ≤ q ∨ some q = b0
  xa : ∀ q, va.ownBlock = some q → w0.heap.size ≤ q ∨ X q
  base : baseL ≤ w.heap.size
  kb : 0 ≤ k ∧ k ≤ 1000000
  nb : N ≤ 16777216

theorem OwnSt.below {w0 : World} {X : Nat → Prop} {b0 : Option Nat} {es0 : List (Value × Int)} {B baseL N : Nat} {k : Int} {w w' : World} {v va : Value} {es : List (Value × Int)} (h : OwnSt w0 X b0 es0 B baseL k N w v va es) (hb : Below w.heap.size w w') : OwnSt w0 X b0 es0 B baseL k N w' v va es where
  inv := h.inv.below hb
  own := owns_below h.own hb
  sepB q hq := ⟨Nat.lt_of_lt_of_le (h.sepB q hq).1 hb.size, (h.sepB q hq).2⟩
  cur := h.cur
  fr := h.fr.below hb
  xv := h.xv
  ent := h.ent
  xa := h.xa
  base := Nat.le_trans h.base hb.size
  kb := h.kb
  nb := h.nb

theorem flat_marks (N : Nat) (k : Int) : flat (List.replicate N (mark k)) ++ enc (mark k) = flat (List.replicate (N + 1) (mark k)) := by
  rw [List.replicate_succ', flat_snoc]

theorem OwnSt.append {w0 : World} {X : Nat → Prop} {b0 : Option Nat} {es0 : List (Value × Int)} {B baseL N : Nat} {k : Int} {w w2 : World} {v va : Value} {es : List (Value × Int)} (h : OwnSt w0 X b0 es0 B baseL k N w v va es) (hN1 : N + 1 ≤ 16777216) (tmp : Obj) {g cap : Nat}
    (hown : w2.ownsRow baseL 52 6 (.slice (some ⟨g, 0, none⟩) (N + 1) cap) (N + 1) (flat (List.replicate N (mark k)) ++ enc (mark k)))
    (hcase : ((w.alloc tmp).grownBy w2 none ∧ (w.alloc tmp).heap.size ≤ g) ∨ (v.ownBlock = some g ∧ (w.alloc tmp).grownBy w2 (some g))) :
    OwnSt w0 X b0 es0 B baseL k (N + 1) w2 (.slice (some ⟨g, 0, none⟩) (N + 1) cap) va es := by
  have ha := h.below (below_alloc (Below.refl _ w) tmp)
  rw [flat_marks] at hown
  have hglt : g < w2.heap.size := by
    rcases hown.2 with ⟨h0, _⟩ | ⟨g', cap', cur, hv, _, hh, _⟩
    · cases h0
    · cases hv; exact (Array.getElem?_eq_some_iff.1 hh).1
  rcases hcase with ⟨hg, hge⟩ | ⟨hv, hg⟩
  · refine ⟨ha.inv.kept hg (by simp) (by simp) (by simp), hown, fun q hq => ?_, fun p hp q h1 h2 => ?_, ha.fr.step hg (fun q hq => by cases hq), fun q hq => ?_, h.ent, h.xa, Nat.le_trans ha.base hg.size, h.kb, hN1⟩
    · obtain rfl := own_g hq
      have hB := ha.inv.lt
      refine ⟨hglt, by omega, fun e => ?_⟩
      have : g < (w.alloc tmp).heap.size := by
        rcases ha.inv.row.2 with ⟨h0, _⟩ | ⟨g', cap', cur, hv', _, hh, _⟩
        · rw [h0] at e; cases e
        · rw [hv'] at e; cases e; exact (Array.getElem?_eq_some_iff.1 hh).1
      omega
    · obtain rfl := own_g h2
      have := (ha.inv.sep p hp _ h1).1
      omega
    · obtain rfl := own_g hq
      left
      have := ha.fr.size
      omega
  · have hs := h.sepB g hv
    have hrw : RowAt w2 g 0 (List.replicate (N + 1) (mark k)) := by
      rcases hown.2 with ⟨h0, _⟩ | ⟨g', cap', cur, hv', _, hh, _, _, _, h4⟩
      · cases h0
      · cases hv'; exact rowAt_of_block hh (by simpa using h4)
    have hcur : ∀ p ∈ es, p.1.ownBlock = some g → ∃ m cap, p.1 = .slice (some ⟨g, 0, none⟩) m cap ∧ m ≤ N + 1 ∧ m ≤ cap ∧ p.2 = k := fun p hp e => by
      obtain ⟨m, c, h1, h2, h3, h4⟩ := h.cur p hp g e hv
      exact ⟨m, c, h1, by omega, h3, h4⟩
    refine ⟨ha.inv.inplace hg hs.2.1 hs.2.2 hrw hglt hN1 hcur, hown, fun q hq => ?_, fun p hp q h1 h2 => ?_, ha.fr.step hg (fun q hq => by cases hq; exact (h.xv g hv).imp id And.left), fun q hq => ?_, h.ent, h.xa, Nat.le_trans ha.base hg.size, h.kb, hN1⟩
    · obtain rfl := own_g hq; exact ⟨hglt, hs.2⟩
    · obtain rfl := own_g h2; exact hcur p hp h1
    · obtain rfl := own_g hq; exact h.xv g hv

theorem OwnSt.push {w0 : World} {X : Nat → Prop} {b0 : Option Nat} {es0 : List (Value × Int)} {B baseL N : Nat} {k : Int} {w w2 : World} {v va : Value} {es : List (Value × Int)} (h : OwnSt w0 X b0 es0 B baseL k N w v va es) (hXB : X B) (tmp : Obj) {g cap : Nat}
    (hown : w2.ownsRow (B + 1) 96 2 (.slice (some ⟨g, 0, none⟩) (es.length + 1) cap) (es.length + 1) (flatE es ++ [v, .int .i64 k]))
    (hcase : ((w.alloc tmp).grownBy w2 none ∧ (w.alloc tmp).heap.size ≤ g) ∨ (va.ownBlock = some g ∧ (w.alloc tmp).grownBy w2 (some g))) :
    OwnSt w0 X b0 es0 B baseL k N (w2.setCell ⟨B, 0, none⟩ (.slice (some ⟨g, 0, none⟩) (es.length + 1) cap)) v (.slice (some ⟨g, 0, none⟩) (es.length + 1) cap) (es ++ [(v, k)]) := by
  have hI := h.inv.push v k tmp h.kb ⟨N, h.nb, sliceOf_owns (by simp) h.own⟩ h.sepB hown hcase
  have hsc := grown_setCell w2 ⟨B, 0, none⟩ (.slice (some ⟨g, 0, none⟩) (es.length + 1) cap)
  have hal : w.grownBy (w.alloc tmp) none := World.grownBy_alloc w tmp none
  have hgB : B + 1 ≤ g := owns_base hown g rfl
  obtain ⟨row, hg, hrow⟩ : ∃ row, w.grownBy w2 row ∧ ∀ q, row = some q → va.ownBlock = some q := by
    rcases hcase with ⟨h1, _⟩ | ⟨h1, h2⟩
    · exact ⟨none, grown_trans hal h1, fun q hq => by cases hq⟩
    · exact ⟨some g, grown_trans (hal.but _) h2, fun q hq => by cases hq; exact h1⟩
  have hv1 : w2.ownsRow baseL 52 6 v N (flat (List.replicate N (mark k))) := owns_grown' h.own hg (fun q hq e => (h.sepB q hq).2.2 (hrow q e.symm).symm)
  refine ⟨hI, owns_grown' hv1 hsc (fun q hq e => (h.sepB q hq).2.1 (by cases e; rfl)), fun q hq => ?_, fun p hp q h1 h2 => ?_, (h.fr.step hg (fun q hq => h.xa q (hrow q hq))).step hsc (fun q hq => by cases hq; exact .inr hXB), h.xv, fun p hp => ?_, fun q hq => ?_, Nat.le_trans h.base (Nat.le_trans hg.size hsc.size), h.kb, h.nb⟩
  · have hs := h.sepB q hq
    refine ⟨Nat.lt_of_lt_of_le hs.1 (Nat.le_trans hg.size hsc.size), hs.2.1, fun e => ?_⟩
    have hqg : q = g := by cases e; rfl
    rcases hcase with ⟨_, h2⟩ | ⟨h2, _⟩
    · simp at h2; omega
    · exact hs.2.2 (by rw [h2, hqg])
  · rcases List.mem_append.1 hp with hp | hp
    · exact h.cur p hp q h1 h2
    · rw [List.mem_singleton] at hp
      subst hp
      rcases h.own.2 with ⟨h0, _⟩ | ⟨g', cap', cur, hv', _, _, hle, _⟩
      · rw [h0] at h2; cases h2
      · rw [hv'] at h2
        cases h2
        exact ⟨N, cap', hv', Nat.le_refl _, hle, rfl⟩
  · rcases List.mem_append.1 hp with hp | hp
    · exact h.ent p hp
    · rw [List.mem_singleton] at hp
      subst hp
      exact .inr fun q hq => (h.xv q hq).imp id And.right
  · obtain rfl := own_g hq
    rcases hcase with ⟨_, h2⟩ | ⟨h2, _⟩
    · left
      have := h.fr.size
      simp at h2
      omega
    · exact h.xa g h2

end Go.Proofs.YtahdlejgjcjeoaaDoor
