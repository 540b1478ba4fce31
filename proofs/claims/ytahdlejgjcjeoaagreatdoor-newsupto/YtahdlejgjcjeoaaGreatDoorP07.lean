/- The laws' whole book: four lists of entries, what keeps them. -/
import Derived.Test.YtahdlejgjcjeoaaGreatDoorP05
import Derived.Test.YtahdlejgjcjeoaaGreatDoorP06
namespace Go.Proofs.YtahdlejgjcjeoaaGreatDoor
open Go.RowKit

/-- A slice of n elements of s cells, each of them c. -/
def MarkRow (w : World) (v : Value) (s n : Nat) (c : List Value) : Prop :=
  ∃ ad cap, v = .slice ad n cap ∧ n ≤ cap ∧ (0 < n → ∃ b off, ad = some ⟨b, off, none⟩ ∧ b < w.heap.size ∧ ∀ i, i < n → ∀ j u, c[j]? = some u → w.cell? ⟨b, off + i * s + j, none⟩ = some u)
theorem MarkRow.grown {w w' : World} {v : Value} {s n : Nat} {c : List Value} {row : Option Nat} (h : MarkRow w v s n c) (hg : w.grownBy w' row) (hne : ∀ q, v.ownBlock = some q → some q ≠ row) : MarkRow w' v s n c := by
  obtain ⟨ad, cap, rfl, hcap, H⟩ := h
  refine ⟨ad, cap, rfl, hcap, fun h0 => ?_⟩
  obtain ⟨b, off, rfl, hlt, hrow⟩ := H h0
  have hb : some b ≠ row := hne b rfl
  exact ⟨b, off, rfl, Nat.lt_of_lt_of_le hlt hg.size, fun i hi j u hu => hg.cell (hrow i hi j u hu) hb⟩

/-- The same cells n times. -/
def reps (n : Nat) (c : List Value) : List Value := (List.replicate n c).flatten
theorem reps_succ (n : Nat) (c : List Value) : reps (n + 1) c = reps n c ++ c := by
  unfold reps
  rw [List.replicate_succ', List.flatten_append]
  simp
theorem reps_length (n : Nat) (c : List Value) : (reps n c).length = n * c.length := by
  induction n with
  | zero => simp [reps]
  | succ n ih => rw [reps_succ, List.length_append, ih, Nat.succ_mul]
theorem reps_get {n : Nat} {c : List Value} {i j : Nat} {u : Value} (hi : i < n) (hu : c[j]? = some u) : (reps n c)[i * c.length + j]? = some u := by
  have hj : j < c.length := (List.getElem?_eq_some_iff.1 hu).1
  induction n with
  | zero => omega
  | succ n ih =>
    rw [reps_succ]
    by_cases h : i < n
    · have h1 := ih h
      have h2 : i * c.length + j < (reps n c).length := (List.getElem?_eq_some_iff.1 h1).1
      rw [List.getElem?_append_left h2]
      exact h1
    · obtain rfl : i = n := by omega
      rw [List.getElem?_append_right (by rw [reps_length]; omega), reps_length, Nat.add_sub_cancel_left]
      exact hu
theorem markRow_owns {w : World} {base : Nat} {e : TypeId} {v : Value} {n : Nat} {c : List Value} (h : w.ownsRow base e c.length v n (reps n c)) : MarkRow w v c.length n c := by
  rcases h.2 with ⟨rfl, rfl⟩ | ⟨g, cap, cur, rfl, hg, hb, h1, h2, h3, h4⟩
  · exact ⟨none, 0, rfl, Nat.le_refl _, fun h => by omega⟩
  · refine ⟨_, cap, rfl, h1, fun _ => ⟨g, 0, rfl, (Array.getElem?_eq_some_iff.1 hb).1, fun i hi j u hu => ?_⟩⟩
    have hx := reps_get hi hu
    have hlt := (List.getElem?_eq_some_iff.1 hx).1
    rw [reps_length] at hlt
    rw [← h4, List.getElem?_take, if_pos hlt, Array.getElem?_toList] at hx
    rw [Nat.zero_add]
    simp [World.cell?, hb, hx]

/-- Digits, the lowest first. -/
def digs : Nat → Nat → List UInt8
  | 0, _ => []
  | f + 1, k => if k = 0 then [] else UInt8.ofNat (48 + k % 10) :: digs f (k / 10)
/-- The k-th text. -/
def markT (k : Nat) : ByteArray := bstr ([109, 97, 114, 107, 32] ++ digs 20 k)

/-- The four kinds of lists: what the book keeps of one, what one is made of. -/
def eT : Nat → TypeId
  | 0 => 75
  | 1 => 81
  | 2 => 89
  | _ => 84
def elT : Nat → TypeId
  | 0 => 77
  | 1 => 3
  | 2 => 9
  | _ => 86
def mkC : Nat → Int → List Value
  | 0, k => enc (mark k)
  | 1, k => [.int .i64 (-1 - k)]
  | 2, k => [.string (markT k.toNat)]
  | _, k => [.int .i64 (-1 - k), .int .i64 0, .slice none 0 0]
def szC : Nat → Nat
  | 0 => 6
  | 1 => 1
  | 2 => 1
  | _ => 3
theorem mkC_length : ∀ (f : Nat) (k : Int), (mkC f k).length = szC f
  | 0, _ => rfl
  | 1, _ => rfl
  | 2, _ => rfl
  | _ + 3, _ => rfl

def updF {α : Type} (g : Nat → α) (f : Nat) (x : α) : Nat → α := fun j => if j = f then x else g j
theorem updF_same {α : Type} (g : Nat → α) (f : Nat) (x : α) : updF g f x f = x := if_pos rfl
theorem updF_other {α : Type} (g : Nat → α) {f j : Nat} (x : α) (h : j ≠ f) : updF g f x j = g j := if_neg h
theorem updF_updF {α : Type} (g : Nat → α) (f : Nat) (x y : α) : updF (updF g f x) f y = updF g f y := by
  funext j
  unfold updF
  split <;> rfl
theorem updF_self {α : Type} (g : Nat → α) (f : Nat) : updF g f (g f) = g := by
  funext j
  unfold updF
  split
  · rename_i h; rw [h]
  · rfl

structure Bk (w : World) (B : Nat) (va : Nat → Value) (es : Nat → List (Value × Int)) : Prop where
  c : ∀ f, f < 4 → w.cell? ⟨B, f, none⟩ = some (va f)
  fz : ∀ o, w.frozen? ⟨B, o, none⟩ = false
  row : ∀ f, f < 4 → w.ownsRow (B + 1) (eT f) 2 (va f) (es f).length (flatE (es f))
  good : ∀ f, f < 4 → ∀ p ∈ es f, ∃ n, n ≤ 16777216 ∧ MarkRow w p.1 (szC f) n (mkC f p.2)
  bnd : ∀ f, f < 4 → ∀ p ∈ es f, 0 ≤ p.2 ∧ p.2 ≤ 16777216
  sep : ∀ f, f < 4 → ∀ p ∈ es f, ∀ q, p.1.ownBlock = some q → q < w.heap.size ∧ q ≠ B ∧ ∀ j, j < 4 → some q ≠ (va j).ownBlock
  apart : ∀ f j, f < 4 → j < 4 → f ≠ j → ∀ q, (va f).ownBlock = some q → (va j).ownBlock ≠ some q
  cross : ∀ f j, f < 4 → j < 4 → f ≠ j → ∀ p ∈ es f, ∀ p' ∈ es j, ∀ q, p.1.ownBlock = some q → p'.1.ownBlock ≠ some q

theorem Bk.lt {w : World} {B : Nat} {va : Nat → Value} {es : Nat → List (Value × Int)} (h : Bk w B va es) : B < w.heap.size := by
  obtain ⟨c, e, fr, hb, _⟩ := Go.Sort.cells_of_cell? (h.c 0 (by decide))
  exact (Array.getElem?_eq_some_iff.1 hb).1
theorem Bk.kept {w w' : World} {B : Nat} {va : Nat → Value} {es : Nat → List (Value × Int)} {row : Option Nat} (h : Bk w B va es) (hg : w.grownBy w' row) (hB : some B ≠ row) (hva : ∀ f, f < 4 → ∀ q, (va f).ownBlock = some q → some q ≠ row) (hes : ∀ f, f < 4 → ∀ p ∈ es f, ∀ q, p.1.ownBlock = some q → some q ≠ row) : Bk w' B va es where
  c f hf := hg.cell (h.c f hf) hB
  fz o := by rw [← h.fz o]; exact World.frozen?_of_block (w := w) (hg.block B h.lt hB)
  row f hf := owns_grown' (h.row f hf) hg (hva f hf)
  good f hf p hp := by obtain ⟨n, hnb, hn⟩ := h.good f hf p hp; exact ⟨n, hnb, hn.grown hg (hes f hf p hp)⟩
  bnd := h.bnd
  sep f hf p hp q hq := ⟨Nat.lt_of_lt_of_le (h.sep f hf p hp q hq).1 hg.size, (h.sep f hf p hp q hq).2⟩
  apart := h.apart
  cross := h.cross
theorem Bk.below {w w' : World} {B : Nat} {va : Nat → Value} {es : Nat → List (Value × Int)} (h : Bk w B va es) (hb : Below w.heap.size w w') : Bk w' B va es :=
  h.kept (below_grown hb none) (by simp) (by simp) (by simp)

/-- A list of kind f is written further, in its own block. -/
theorem Bk.inplace {w w' : World} {B g N f : Nat} {va : Nat → Value} {es : Nat → List (Value × Int)} {k : Int} (h : Bk w B va es) (hf : f < 4) (hg : w.grownBy w' (some g)) (hgB : g ≠ B) (hgv : ∀ j, j < 4 → some g ≠ (va j).ownBlock)
    (hrow : ∀ i, i < N → ∀ j u, (mkC f k)[j]? = some u → w'.cell? ⟨g, i * szC f + j, none⟩ = some u) (hlt : g < w'.heap.size) (hN : N ≤ 16777216)
    (hoth : ∀ j, j < 4 → j ≠ f → ∀ p ∈ es j, p.1.ownBlock ≠ some g)
    (hcur : ∀ p ∈ es f, p.1.ownBlock = some g → ∃ m cap, p.1 = .slice (some ⟨g, 0, none⟩) m cap ∧ m ≤ N ∧ m ≤ cap ∧ p.2 = k) : Bk w' B va es where
  c j hj := hg.cell (h.c j hj) (fun e => hgB (by cases e; rfl))
  fz o := by rw [← h.fz o]; exact World.frozen?_of_block (w := w) (hg.block B h.lt (fun e => hgB (by cases e; rfl)))
  row j hj := owns_grown' (h.row j hj) hg (fun q hq e => hgv j hj (by rw [hq, e]))
  good j hj p hp := by
    by_cases e : p.1.ownBlock = some g
    · by_cases hjf : j = f
      · subst hjf
        obtain ⟨m, cap, hp1, hm, hmc, hk⟩ := hcur p hp e
        refine ⟨m, by omega, ?_⟩
        rw [hp1, hk]
        refine ⟨_, cap, rfl, hmc, fun _ => ⟨g, 0, rfl, hlt, fun i hi t u hu => ?_⟩⟩
        rw [Nat.zero_add]
        exact hrow i (by omega) t u hu
      · exact absurd e (hoth j hj hjf p hp)
    · obtain ⟨n, hnb, hn⟩ := h.good j hj p hp
      exact ⟨n, hnb, hn.grown hg (fun q hq e' => e (by rw [hq, e']))⟩
  bnd := h.bnd
  sep j hj p hp q hq := ⟨Nat.lt_of_lt_of_le (h.sep j hj p hp q hq).1 hg.size, (h.sep j hj p hp q hq).2⟩
  apart := h.apart
  cross := h.cross

/-- One entry more of kind f. -/
theorem Bk.push {w w2 : World} {B f : Nat} {va : Nat → Value} {es : Nat → List (Value × Int)} (h : Bk w B va es) (hf : f < 4) (s : Value) (k : Int) {g cap : Nat} (tmp : Obj)
    (hkb : 0 ≤ k ∧ k ≤ 16777216) (hgood : ∃ n, n ≤ 16777216 ∧ MarkRow w s (szC f) n (mkC f k))
    (hsep : ∀ q, s.ownBlock = some q → q < w.heap.size ∧ q ≠ B ∧ ∀ j, j < 4 → some q ≠ (va j).ownBlock)
    (hcross : ∀ j, j < 4 → j ≠ f → ∀ p ∈ es j, ∀ q, s.ownBlock = some q → p.1.ownBlock ≠ some q)
    (hown : w2.ownsRow (B + 1) (eT f) 2 (.slice (some ⟨g, 0, none⟩) ((es f).length + 1) cap) ((es f).length + 1) (flatE (es f) ++ [s, .int .i64 k]))
    (hcase : ((w.alloc tmp).grownBy w2 none ∧ (w.alloc tmp).heap.size ≤ g) ∨ ((va f).ownBlock = some g ∧ (w.alloc tmp).grownBy w2 (some g))) :
    Bk (w2.setCell ⟨B, f, none⟩ (.slice (some ⟨g, 0, none⟩) ((es f).length + 1) cap)) B (updF va f (.slice (some ⟨g, 0, none⟩) ((es f).length + 1) cap)) (updF es f (es f ++ [(s, k)])) := by
  have hgB : B + 1 ≤ g := owns_base hown g rfl
  have hBlt := h.lt
  have hal : w.grownBy (w.alloc tmp) none := World.grownBy_alloc w tmp none
  obtain ⟨row, hg, hrow⟩ : ∃ row, w.grownBy w2 row ∧ ∀ q, row = some q → (va f).ownBlock = some q := by
    rcases hcase with ⟨h1, _⟩ | ⟨h1, h2⟩
    · exact ⟨none, grown_trans hal h1, fun q hq => by cases hq⟩
    · exact ⟨some g, grown_trans (hal.but _) h2, fun q hq => by cases hq; exact h1⟩
  have hfresh : ∀ q, q < w.heap.size → some q ≠ (va f).ownBlock → q ≠ g := by
    intro q hq hne e
    subst e
    rcases hcase with ⟨_, h2⟩ | ⟨h2, _⟩
    · simp at h2; omega
    · exact hne h2.symm
  have hBr : some B ≠ row := fun e => by
    have := owns_base (h.row f hf) B (hrow B e.symm)
    omega
  have hsc := grown_setCell w2 ⟨B, f, none⟩ (.slice (some ⟨g, 0, none⟩) ((es f).length + 1) cap)
  have hcB : ∀ j, j < 4 → w2.cell? ⟨B, j, none⟩ = some (va j) := fun j hj => hg.cell (h.c j hj) hBr
  have hmem : ∀ j, j < 4 → ∀ p ∈ updF es f (es f ++ [(s, k)]) j, p ∈ es j ∨ (j = f ∧ p = (s, k)) := by
    intro j _ p hp
    by_cases e : j = f
    · subst e
      rw [updF_same] at hp
      rcases List.mem_append.1 hp with hp | hp
      · exact .inl hp
      · exact .inr ⟨rfl, List.mem_singleton.1 hp⟩
    · rw [updF_other _ _ e] at hp
      exact .inl hp
  have hsep' : ∀ j, j < 4 → ∀ p ∈ updF es f (es f ++ [(s, k)]) j, ∀ q, p.1.ownBlock = some q → q < w.heap.size ∧ q ≠ B ∧ ∀ t, t < 4 → some q ≠ (va t).ownBlock := by
    intro j hj p hp
    rcases hmem j hj p hp with hp | ⟨rfl, rfl⟩
    · exact h.sep j hj p hp
    · exact hsep
  refine ⟨fun j hj => ?_, fun o => ?_, fun j hj => ?_, fun j hj p hp => ?_, fun j hj p hp => ?_, fun j hj p hp q hq => ?_, fun j t hj ht hne q hq => ?_, fun j t hj ht hne p hp p' hp' q hq => ?_⟩
  · by_cases e : j = f
    · subst e
      rw [updF_same]
      exact World.cell?_setCell_same _ _ _ (hcB j hj)
    · rw [updF_other _ _ e]
      exact (World.cell?_setCell_other _ _ _ _ (fun e' => e (by cases e'; rfl))).trans (hcB j hj)
  · rw [World.frozen?_setCell, ← h.fz o]
    exact World.frozen?_of_block (w := w) (hg.block B hBlt hBr)
  · by_cases e : j = f
    · subst e
      rw [updF_same, updF_same, flatE_snoc, List.length_append]
      exact owns_grown' hown hsc (fun q hq => by cases hq; intro e; cases e; omega)
    · rw [updF_other _ _ e, updF_other _ _ e]
      refine owns_grown' (owns_grown' (h.row j hj) hg (fun q hq e' => h.apart j f hj hf e q hq (hrow q e'.symm))) hsc (fun q hq e' => ?_)
      have := owns_base (h.row j hj) q hq
      have hqB : q = B := by cases e'; rfl
      omega
  · have hs := hsep' j hj p hp
    have hgd : ∃ n, n ≤ 16777216 ∧ MarkRow w p.1 (szC j) n (mkC j p.2) := by
      rcases hmem j hj p hp with hp | ⟨rfl, rfl⟩
      · exact h.good j hj p hp
      · exact hgood
    obtain ⟨n, hnb, hn⟩ := hgd
    exact ⟨n, hnb, (hn.grown hg (fun q hq e => (hs q hq).2.2 f hf (hrow q e.symm).symm)).grown hsc (fun q hq e => (hs q hq).2.1 (by cases e; rfl))⟩
  · rcases hmem j hj p hp with hp | ⟨rfl, rfl⟩
    · exact h.bnd j hj p hp
    · exact hkb
  · have hs := hsep' j hj p hp q hq
    refine ⟨Nat.lt_of_lt_of_le hs.1 (Nat.le_trans hg.size hsc.size), hs.2.1, fun t ht e => ?_⟩
    by_cases et : t = f
    · subst et
      rw [updF_same] at e
      exact hfresh q hs.1 (hs.2.2 t ht) (by cases e; rfl)
    · rw [updF_other _ _ et] at e
      exact hs.2.2 t ht e
  · by_cases ej : j = f
    · subst ej
      rw [updF_same] at hq
      rw [updF_other _ _ (Ne.symm hne)]
      obtain rfl := own_g hq
      intro e
      exact hfresh g (own_lt (h.row t ht) g e) (fun e' => h.apart j t hj ht hne g e'.symm e) rfl
    · rw [updF_other _ _ ej] at hq
      by_cases et : t = f
      · subst et
        rw [updF_same]
        intro e
        obtain rfl := own_g e
        exact hfresh g (own_lt (h.row j hj) g hq) (fun e' => h.apart j t hj ht hne g hq e'.symm) rfl
      · rw [updF_other _ _ et]
        exact h.apart j t hj ht hne q hq
  · rcases hmem j hj p hp with g1 | ⟨g1, g2⟩
    · rcases hmem t ht p' hp' with g3 | ⟨g3, g4⟩
      · exact h.cross j t hj ht hne p g1 p' g3 q hq
      · rw [g4]
        exact fun e => hcross j hj (by rw [← g3]; exact hne) p g1 q e hq
    · rcases hmem t ht p' hp' with g3 | ⟨g3, g4⟩
      · rw [g2] at hq
        exact hcross t ht (by rw [← g1]; exact Ne.symm hne) p' g3 q hq
      · exact absurd (g1.trans g3.symm) hne
end Go.Proofs.YtahdlejgjcjeoaaGreatDoor
