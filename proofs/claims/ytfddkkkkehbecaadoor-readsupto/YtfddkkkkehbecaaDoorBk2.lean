/- The laws' whole book: a list of any kind that is marked and goes on being appended to. -/
import Derived.Test.YtfddkkkkehbecaaDoorBk
namespace Go.Proofs.YtfddkkkkehbecaaDoor
open Go.RowKit

structure OwnS (w0 : World) (X : Nat → Prop) (b0 : Option Nat) (va : Nat → Value) (es : Nat → List (Value × Int)) (B baseL f : Nat) (k : Int) (N : Nat) (w : World) (v vf : Value) (ef : List (Value × Int)) : Prop where
  inv : Bk w B (updF va f vf) (updF es f ef)
  own : w.ownsRow baseL (elT f) (szC f) v N (reps N (mkC f k))
  sepB : ∀ q, v.ownBlock = some q → q < w.heap.size ∧ q ≠ B ∧ ∀ j, j < 4 → some q ≠ (updF va f vf j).ownBlock
  cur : ∀ p ∈ ef, ∀ q, p.1.ownBlock = some q → v.ownBlock = some q → ∃ m cap, p.1 = .slice (some ⟨q, 0, none⟩) m cap ∧ m ≤ N ∧ m ≤ cap ∧ p.2 = k
  vo : ∀ j, j < 4 → j ≠ f → ∀ p ∈ es j, ∀ q, v.ownBlock = some q → p.1.ownBlock ≠ some q
  fr : Fr X w0 w
  xv : ∀ q, v.ownBlock = some q → w0.heap.size ≤ q ∨ (X q ∧ some q = b0)
  ent : ∀ p ∈ ef, p ∈ es f ∨ ∀ q, p.1.ownBlock = some q → w0.heap.size ≤ q ∨ some q = b0
  xa : ∀ q, vf.ownBlock = some q → w0.heap.size ≤ q ∨ X q
  base : baseL ≤ w.heap.size
  kb : 0 ≤ k ∧ k ≤ 1000000
  nb : N ≤ 16777216
  ff : f < 4

theorem OwnS.below {w0 : World} {X : Nat → Prop} {b0 : Option Nat} {va : Nat → Value} {es : Nat → List (Value × Int)} {B baseL f N : Nat} {k : Int} {w w' : World} {v vf : Value} {ef : List (Value × Int)} (h : OwnS w0 X b0 va es B baseL f k N w v vf ef) (hb : Below w.heap.size w w') : OwnS w0 X b0 va es B baseL f k N w' v vf ef where
  inv := h.inv.below hb
  own := owns_below h.own hb
  sepB q hq := ⟨Nat.lt_of_lt_of_le (h.sepB q hq).1 hb.size, (h.sepB q hq).2⟩
  cur := h.cur
  vo := h.vo
  fr := h.fr.below hb
  xv := h.xv
  ent := h.ent
  xa := h.xa
  base := Nat.le_trans h.base hb.size
  kb := h.kb
  nb := h.nb
  ff := h.ff

theorem OwnS.append {w0 : World} {X : Nat → Prop} {b0 : Option Nat} {va : Nat → Value} {es : Nat → List (Value × Int)} {B baseL f N : Nat} {k : Int} {w w2 : World} {v vf : Value} {ef : List (Value × Int)} (h : OwnS w0 X b0 va es B baseL f k N w v vf ef) (hN1 : N + 1 ≤ 16777216) (tmp : Obj) {g cap : Nat}
    (hown : w2.ownsRow baseL (elT f) (szC f) (.slice (some ⟨g, 0, none⟩) (N + 1) cap) (N + 1) (reps N (mkC f k) ++ mkC f k))
    (hcase : ((w.alloc tmp).grownBy w2 none ∧ (w.alloc tmp).heap.size ≤ g) ∨ (v.ownBlock = some g ∧ (w.alloc tmp).grownBy w2 (some g))) :
    OwnS w0 X b0 va es B baseL f k (N + 1) w2 (.slice (some ⟨g, 0, none⟩) (N + 1) cap) vf ef := by
  have ha := h.below (below_alloc (Below.refl _ w) tmp)
  have hf := h.ff
  rw [← reps_succ] at hown
  have hglt : g < w2.heap.size := own_lt hown g rfl
  rcases hcase with ⟨hg, hge⟩ | ⟨hv, hg⟩
  · refine ⟨ha.inv.kept hg (by simp) (by simp) (by simp), hown, fun q hq => ?_, fun p hp q h1 h2 => ?_, fun j hj hjf p hp q hq e => ?_, ha.fr.step hg (fun q hq => by cases hq), fun q hq => ?_, h.ent, h.xa, Nat.le_trans ha.base hg.size, h.kb, hN1, hf⟩
    · obtain rfl := own_g hq
      have hB := ha.inv.lt
      refine ⟨hglt, by omega, fun j hj e => ?_⟩
      have := own_lt (ha.inv.row j hj) g e.symm
      omega
    · obtain rfl := own_g h2
      have := (ha.inv.sep f hf p (by rw [updF_same]; exact hp) _ h1).1
      omega
    · obtain rfl := own_g hq
      have := (ha.inv.sep j hj p (by rw [updF_other _ _ hjf]; exact hp) _ e).1
      omega
    · obtain rfl := own_g hq
      left
      have := ha.fr.size
      omega
  · have hs := h.sepB g hv
    have hmr : ∀ i, i < N + 1 → ∀ j u, (mkC f k)[j]? = some u → w2.cell? ⟨g, i * szC f + j, none⟩ = some u := by
      have hl := mkC_length f k
      rw [← hl] at hown ⊢
      obtain ⟨ad, cap', e, _, H⟩ := markRow_owns hown
      cases e
      obtain ⟨b, off, e, _, H⟩ := H (by omega)
      cases e
      intro i hi j u hu
      have := H i hi j u hu
      rwa [Nat.zero_add] at this
    have hcur : ∀ p ∈ ef, p.1.ownBlock = some g → ∃ m cap, p.1 = .slice (some ⟨g, 0, none⟩) m cap ∧ m ≤ N + 1 ∧ m ≤ cap ∧ p.2 = k := fun p hp e => by
      obtain ⟨m, c, h1, h2, h3, h4⟩ := h.cur p hp g e hv
      exact ⟨m, c, h1, by omega, h3, h4⟩
    refine ⟨ha.inv.inplace hf hg hs.2.1 hs.2.2 hmr hglt hN1 (fun j hj hjf p hp => by rw [updF_other _ _ hjf] at hp; exact h.vo j hj hjf p hp g hv) (by rw [updF_same]; exact hcur), hown, fun q hq => ?_, fun p hp q h1 h2 => ?_, fun j hj hjf p hp q hq => ?_, ha.fr.step hg (fun q hq => by cases hq; exact (h.xv g hv).imp id And.left), fun q hq => ?_, h.ent, h.xa, Nat.le_trans ha.base hg.size, h.kb, hN1, hf⟩
    · obtain rfl := own_g hq; exact ⟨hglt, hs.2⟩
    · obtain rfl := own_g h2; exact hcur p hp h1
    · obtain rfl := own_g hq; exact h.vo j hj hjf p hp g hv
    · obtain rfl := own_g hq; exact h.xv g hv

theorem OwnS.push {w0 : World} {X : Nat → Prop} {b0 : Option Nat} {va : Nat → Value} {es : Nat → List (Value × Int)} {B baseL f N : Nat} {k : Int} {w w2 : World} {v vf : Value} {ef : List (Value × Int)} (h : OwnS w0 X b0 va es B baseL f k N w v vf ef) (hXB : X B) (tmp : Obj) {g cap : Nat}
    (hown : w2.ownsRow (B + 1) (eT f) 2 (.slice (some ⟨g, 0, none⟩) (ef.length + 1) cap) (ef.length + 1) (flatE ef ++ [v, .int .i64 k]))
    (hcase : ((w.alloc tmp).grownBy w2 none ∧ (w.alloc tmp).heap.size ≤ g) ∨ (vf.ownBlock = some g ∧ (w.alloc tmp).grownBy w2 (some g))) :
    OwnS w0 X b0 va es B baseL f k N (w2.setCell ⟨B, f, none⟩ (.slice (some ⟨g, 0, none⟩) (ef.length + 1) cap)) v (.slice (some ⟨g, 0, none⟩) (ef.length + 1) cap) (ef ++ [(v, k)]) := by
  have hf := h.ff
  have hgd : ∃ n, n ≤ 16777216 ∧ MarkRow w v (szC f) n (mkC f k) := by
    have ho := h.own
    have hl := mkC_length f k
    rw [← hl] at ho ⊢
    exact ⟨N, h.nb, markRow_owns ho⟩
  have hI := h.inv.push hf v k (g := g) (cap := cap) tmp h.kb hgd h.sepB (fun j hj hjf p hp q hq => by rw [updF_other _ _ hjf] at hp; exact h.vo j hj hjf p hp q hq) (by rw [updF_same]; exact hown) (by rw [updF_same]; exact hcase)
  rw [updF_updF, updF_updF, updF_same] at hI
  have hsc := grown_setCell w2 ⟨B, f, none⟩ (.slice (some ⟨g, 0, none⟩) (ef.length + 1) cap)
  have hal : w.grownBy (w.alloc tmp) none := World.grownBy_alloc w tmp none
  have hgB : B + 1 ≤ g := owns_base hown g rfl
  have hvf : ∀ q, v.ownBlock = some q → some q ≠ vf.ownBlock := fun q hq => by have := (h.sepB q hq).2.2 f hf; rwa [updF_same] at this
  obtain ⟨row, hg, hrow⟩ : ∃ row, w.grownBy w2 row ∧ ∀ q, row = some q → vf.ownBlock = some q := by
    rcases hcase with ⟨h1, _⟩ | ⟨h1, h2⟩
    · exact ⟨none, grown_trans hal h1, fun q hq => by cases hq⟩
    · exact ⟨some g, grown_trans (hal.but _) h2, fun q hq => by cases hq; exact h1⟩
  have hv1 : w2.ownsRow baseL (elT f) (szC f) v N (reps N (mkC f k)) := owns_grown' h.own hg (fun q hq e => hvf q hq (hrow q e.symm).symm)
  refine ⟨hI, owns_grown' hv1 hsc (fun q hq e => (h.sepB q hq).2.1 (by cases e; rfl)), fun q hq => ?_, fun p hp q h1 h2 => ?_, h.vo, (h.fr.step hg (fun q hq => h.xa q (hrow q hq))).step hsc (fun q hq => by cases hq; exact .inr hXB), h.xv, fun p hp => ?_, fun q hq => ?_, Nat.le_trans h.base (Nat.le_trans hg.size hsc.size), h.kb, h.nb, hf⟩
  · have hs := h.sepB q hq
    refine ⟨Nat.lt_of_lt_of_le hs.1 (Nat.le_trans hg.size hsc.size), hs.2.1, fun j hj e => ?_⟩
    by_cases hjf : j = f
    · subst hjf
      rw [updF_same] at e
      have hqg : q = g := by cases e; rfl
      rcases hcase with ⟨_, h2⟩ | ⟨h2, _⟩
      · simp at h2; omega
      · exact hvf q hq (by rw [h2, hqg])
    · have := hs.2.2 j hj
      rw [updF_other _ _ hjf] at e this
      exact this e
  · rcases List.mem_append.1 hp with hp | hp
    · exact h.cur p hp q h1 h2
    · rw [List.mem_singleton] at hp
      subst hp
      rcases h.own.2 with ⟨h0, _⟩ | ⟨g', cap', cur, hv', _, _, hle, _⟩
      · rw [h0] at h2; cases h2
      · rw [hv'] at h2
        cases h2
        exact ⟨N, cap', hv', Nat.le_refl _, hle, rfl⟩
  · rcases List.mem_append.1 hp with hp | hp
    · exact h.ent p hp
    · rw [List.mem_singleton] at hp
      subst hp
      exact .inr fun q hq => (h.xv q hq).imp id And.right
  · obtain rfl := own_g hq
    rcases hcase with ⟨_, h2⟩ | ⟨h2, _⟩
    · left
      have := h.fr.size
      simp at h2
      omega
    · exact h.xa g h2

theorem Bk.after {w w2 : World} {B g f : Nat} {va : Nat → Value} {es : Nat → List (Value × Int)} (h : Bk w B va es) (hf : f < 4) (tmp : Obj)
    (hcase : ((w.alloc tmp).grownBy w2 none ∧ (w.alloc tmp).heap.size ≤ g) ∨ ((va f).ownBlock = some g ∧ (w.alloc tmp).grownBy w2 (some g))) : w2.cell? ⟨B, f, none⟩ = some (va f) ∧ w2.frozen? ⟨B, f, none⟩ = false := by
  have hal : w.grownBy (w.alloc tmp) none := World.grownBy_alloc w tmp none
  rcases hcase with ⟨h1, _⟩ | ⟨h1, h2⟩
  · have hg := grown_trans hal h1
    exact ⟨hg.cell (h.c f hf) (by simp), by rw [← h.fz f]; exact World.frozen?_of_block (w := w) (hg.block B h.lt (by simp))⟩
  · have hg := grown_trans (hal.but _) h2
    have hne : some B ≠ some g := fun e => by
      have := owns_base (h.row f hf) g h1
      cases e
      omega
    exact ⟨hg.cell (h.c f hf) hne, by rw [← h.fz f]; exact World.frozen?_of_block (w := w) (hg.block B h.lt hne)⟩

/-- A store of one cell into a row of the call's own. -/
theorem owns_store1 {w : World} {base g cap n : Nat} {e : TypeId} {xs : List Value} (h : w.ownsRow base e 1 (.slice (some ⟨g, 0, none⟩) n cap) n xs) (i : Nat) (_hi : i < n) (u : Value) :
    (w.setCell ⟨g, i, none⟩ u).ownsRow base e 1 (.slice (some ⟨g, 0, none⟩) n cap) n (xs.set i u) := by
  rcases h.2 with ⟨h0, _⟩ | ⟨g', cap', cur, hv, hg, hh, h1, h2, h3, h4⟩
  · cases h0
  cases hv
  refine ⟨by rw [List.length_set]; exact h.1, .inr ⟨g, cap, _, rfl, hg, heap_setCell_at hh u, h1, h2, by simp [h3], ?_⟩⟩
  rw [Array.toList_setIfInBounds, ← h4, List.take_set]
/-- What such a store wants to know. -/
theorem owns_cell1 {w : World} {base g cap n : Nat} {e : TypeId} {xs : List Value} (h : w.ownsRow base e 1 (.slice (some ⟨g, 0, none⟩) n cap) n xs) (i : Nat) (hi : i < n) :
    (∃ u, w.cell? ⟨g, i, none⟩ = some u ∧ xs[i]? = some u) ∧ w.frozen? ⟨g, i, none⟩ = false := by
  rcases h.2 with ⟨h0, _⟩ | ⟨g', cap', cur, hv, hg, hh, h1, h2, h3, h4⟩
  · cases h0
  cases hv
  have hlt : i < cur.size := by rw [h3]; omega
  refine ⟨⟨cur[i], ?_, ?_⟩, by simp [World.frozen?, hh]⟩
  · simp [World.cell?, hh, hlt]
  · rw [← h4, List.getElem?_take, if_pos (by omega), Array.getElem?_toList, Array.getElem?_eq_getElem hlt]
theorem all_reps1 {L : List Value} {n : Nat} {u : Value} (hl : L.length = n) (h : ∀ t, t < n → L[t]? = some u) : L = reps n [u] := by
  apply List.ext_getElem?
  intro i
  by_cases hi : i < n
  · have := reps_get (n := n) (c := [u]) (j := 0) (u := u) hi rfl
    rw [h i hi]
    simpa using this.symm
  · rw [List.getElem?_eq_none (by omega), List.getElem?_eq_none (by rw [reps_length]; simp; omega)]

def bk0 : Nat → Value := fun _ => .slice none 0 0
def es0 : Nat → List (Value × Int) := fun _ => []
theorem bk_new (w : World) : Bk (w.alloc (.cells #[.slice none 0 0, .slice none 0 0, .slice none 0 0, .slice none 0 0] 44)) w.heap.size bk0 es0 where
  c f hf := by
    have hb := heap_alloc_new w (.cells #[.slice none 0 0, .slice none 0 0, .slice none 0 0, .slice none 0 0] 44)
    rcases (show f = 0 ∨ f = 1 ∨ f = 2 ∨ f = 3 by omega) with rfl | rfl | rfl | rfl
    · exact World.news_of_block hb 0 _ rfl
    · exact World.news_of_block hb 1 _ rfl
    · exact World.news_of_block hb 2 _ rfl
    · exact World.news_of_block hb 3 _ rfl
  fz o := by
    have hb := heap_alloc_new w (.cells #[.slice none 0 0, .slice none 0 0, .slice none 0 0, .slice none 0 0] 44)
    unfold World.frozen?
    rw [hb]
    simp
  row f hf := ⟨rfl, .inl ⟨rfl, rfl⟩⟩
  good f hf p hp := by cases hp
  bnd f hf p hp := by cases hp
  sep f hf p hp := by cases hp
  apart f j hf hj hne q hq := by cases hq
  cross f j hf hj hne p hp := by cases hp
end Go.Proofs.YtfddkkkkehbecaaDoor
