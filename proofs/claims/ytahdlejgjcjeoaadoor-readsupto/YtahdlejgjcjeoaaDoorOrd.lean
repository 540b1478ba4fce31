/- The orders: slots, grades; what it is to be told; that it is one. No program. -/
import Derived.Test.YtahdlejgjcjeoaaDoorBase
namespace Go.Proofs.YtahdlejgjcjeoaaDoor
open Go.RowKit

/-- A comparison that is a whole order up to equals. -/
structure TP {α : Type} (c : α → α → Int) : Prop where
  anti : ∀ x y, c y x = - c x y
  trans : ∀ x y z, c x y ≤ 0 → c y z ≤ 0 → c x z ≤ 0

theorem TP.lex {α : Type} {c d : α → α → Int} (h : TP c) (k : TP d) : TP (fun x y => if c x y ≠ 0 then c x y else d x y) where
  anti x y := by
    have := h.anti x y
    have := k.anti x y
    split <;> split <;> omega
  trans x y z := by
    have a1 := h.trans x y z
    have a2 := h.trans y z x
    have a3 := h.trans z x y
    have b1 := k.trans x y z
    have e1 := h.anti x y
    have e2 := h.anti y z
    have e3 := h.anti x z
    split <;> split <;> split <;> omega

theorem TP.comap {α β : Type} {c : β → β → Int} (h : TP c) (f : α → β) : TP (fun x y => c (f x) (f y)) where
  anti _ _ := h.anti _ _
  trans _ _ _ := h.trans _ _ _

theorem TP.refl {α : Type} {c : α → α → Int} (h : TP c) (x : α) : c x x = 0 := by have := h.anti x x; omega
theorem TP.lt_le {α : Type} {c : α → α → Int} (h : TP c) {x y z : α} (a : c x y < 0) (b : c y z ≤ 0) : c x z < 0 := by
  have e1 := h.anti x y
  have e2 := h.anti x z
  have := h.trans y z x b
  omega
theorem TP.le_lt {α : Type} {c : α → α → Int} (h : TP c) {x y z : α} (a : c x y ≤ 0) (b : c y z < 0) : c x z < 0 := by
  have e1 := h.anti y z
  have e2 := h.anti x z
  have := h.trans z x y
  omega

def ci (a b : Int) : Int := sgn (a - b)
theorem ci_tp : TP ci where
  anti x y := by simp only [ci, sgn]; split <;> split <;> (try split) <;> (try split) <;> omega
  trans x y z := by
    simp only [ci, sgn]
    intro h1 h2
    have h1' : x ≤ y := by split at h1 <;> (try split at h1) <;> omega
    have h2' : y ≤ z := by split at h2 <;> (try split at h2) <;> omega
    split <;> (try split) <;> omega
theorem ci_zero (a b : Int) : ci a b = 0 ↔ a = b := by
  simp only [ci, sgn]
  split <;> (try split) <;> omega

theorem cb_anti : ∀ l r, Lib.compareBytes r l = - Lib.compareBytes l r
  | [], [] => rfl
  | [], _ :: _ => rfl
  | _ :: _, [] => rfl
  | a :: l, b :: r => by
    have ih := cb_anti l r
    simp only [Lib.compareBytes, UInt8.lt_iff_toNat_lt]
    split <;> split <;> omega
theorem cb_zero : ∀ l r, Lib.compareBytes l r = 0 ↔ l = r
  | [], [] => by simp [Lib.compareBytes]
  | [], _ :: _ => by simp [Lib.compareBytes]
  | _ :: _, [] => by simp [Lib.compareBytes]
  | a :: l, b :: r => by
    have ih := cb_zero l r
    have e : a = b ↔ a.toNat = b.toNat := UInt8.toNat_inj.symm
    simp only [Lib.compareBytes, UInt8.lt_iff_toNat_lt, List.cons.injEq, e]
    split
    · simp; omega
    · split
      · simp; omega
      · rw [ih]; constructor
        · intro h; exact ⟨by omega, h⟩
        · intro h; exact h.2
theorem cb_trans : ∀ l r s, Lib.compareBytes l r ≤ 0 → Lib.compareBytes r s ≤ 0 → Lib.compareBytes l s ≤ 0
  | [], _, [] => by simp [Lib.compareBytes]
  | [], _, _ :: _ => by simp [Lib.compareBytes]
  | _ :: _, [], _ => by simp [Lib.compareBytes]
  | _ :: _, _ :: _, [] => by simp [Lib.compareBytes]
  | a :: l, b :: r, c :: s => by
    have ih := cb_trans l r s
    simp only [Lib.compareBytes, UInt8.lt_iff_toNat_lt]
    split <;> split <;> (try split) <;> (try split) <;> (try split) <;> omega
theorem ordS_tp : TP ordS where
  anti _ _ := cb_anti _ _
  trans _ _ _ := cb_trans _ _ _
theorem ordS_zero (a b : ByteArray) : ordS a b = 0 ↔ a = b := by
  unfold ordS
  rw [cb_zero]
  constructor
  · intro h; exact ByteArray.ext (Array.toList_inj.1 h)
  · intro h; rw [h]

/-- A slot, a grade: the program's own. -/
structure Sl where
  ty : Int
  key : ByteArray
  side : Int
  who : Int
  elem : ByteArray
structure Gr where
  n : Int
  who : Int
  elem : ByteArray

def scmp (s t : Sl) : Int :=
  if ci s.ty t.ty ≠ 0 then ci s.ty t.ty
  else if ordS s.key t.key ≠ 0 then ordS s.key t.key
  else if ci s.side t.side ≠ 0 then ci s.side t.side
  else if ci s.who t.who ≠ 0 then ci s.who t.who
  else ordS s.elem t.elem
def gcmp (g h : Gr) : Int :=
  if ci g.n h.n ≠ 0 then ci g.n h.n
  else if ci g.who h.who ≠ 0 then ci g.who h.who
  else ordS g.elem h.elem
theorem scmp_tp : TP scmp := (ci_tp.comap Sl.ty).lex ((ordS_tp.comap Sl.key).lex ((ci_tp.comap Sl.side).lex ((ci_tp.comap Sl.who).lex (ordS_tp.comap Sl.elem))))
theorem gcmp_tp : TP gcmp := (ci_tp.comap Gr.n).lex ((ci_tp.comap Gr.who).lex (ordS_tp.comap Gr.elem))
theorem scmp_zero (s t : Sl) : scmp s t = 0 ↔ s = t := by
  obtain ⟨a1, a2, a3, a4, a5⟩ := s
  obtain ⟨b1, b2, b3, b4, b5⟩ := t
  simp only [scmp, Sl.mk.injEq]
  rw [← ci_zero a1 b1, ← ordS_zero a2 b2, ← ci_zero a3 b3, ← ci_zero a4 b4, ← ordS_zero a5 b5]
  split
  · omega
  · split
    · omega
    · split
      · omega
      · split
        · omega
        · omega
theorem gcmp_zero (s t : Gr) : gcmp s t = 0 ↔ s = t := by
  obtain ⟨a1, a2, a3⟩ := s
  obtain ⟨b1, b2, b3⟩ := t
  simp only [gcmp, Gr.mk.injEq]
  rw [← ci_zero a1 b1, ← ci_zero a2 b2, ← ordS_zero a3 b3]
  split
  · omega
  · split
    · omega
    · omega

def slot (a : At) : Sl := if a.ty = 5 then ⟨a.ty, a.key, 0, 0, ByteArray.empty⟩ else ⟨a.ty, a.key, a.side, a.who, a.elem⟩
def grade (a : At) : Gr := if a.ty = 5 then ⟨a.n, a.who, a.elem⟩ else ⟨a.n, 0, ByteArray.empty⟩
/-- The atom of a slot and a grade. -/
def unite (s : Sl) (g : Gr) : At := if s.ty = 5 then ⟨s.ty, s.key, 0, g.who, g.elem, g.n⟩ else ⟨s.ty, s.key, s.side, s.who, s.elem, g.n⟩

theorem plc_eq (a b : At) : plc a b = scmp (slot a) (slot b) := by
  have e0 : ∀ x, ci x x = 0 := fun x => (ci_zero x x).2 rfl
  have z0 : ∀ x, ordS x x = 0 := fun x => (ordS_zero x x).2 rfl
  by_cases h : a.ty = b.ty
  · by_cases h5 : a.ty = 5
    · have h5b : b.ty = 5 := by omega
      simp only [plc, slot, scmp, h5, h5b, if_true, ne_eq, not_true_eq_false, if_false, or_true]
      rw [e0 5, e0 0, z0]
      by_cases hk : ordS a.key b.key = 0 <;> simp [hk]
    · have h5b : ¬ b.ty = 5 := by omega
      simp only [plc, slot, scmp, if_neg h5b, h, e0]
      have s1 : (a.side ≠ b.side) ↔ ci a.side b.side ≠ 0 := by rw [Ne, ← ci_zero]
      have s2 : (a.who ≠ b.who) ↔ ci a.who b.who ≠ 0 := by rw [Ne, ← ci_zero]
      simp only [s1, s2, h5b, or_false, ne_eq, not_true_eq_false, if_false]
      rfl
  · have hc : ci a.ty b.ty ≠ 0 := by rw [Ne, ci_zero]; exact h
    have e1 : (slot a).ty = a.ty := by unfold slot; split <;> rfl
    have e2 : (slot b).ty = b.ty := by unfold slot; split <;> rfl
    simp only [plc, scmp, e1, e2, if_pos hc]
    rw [if_pos h]; rfl

theorem grd_eq (a b : At) (h : a.ty = b.ty) : grd a b = gcmp (grade a) (grade b) := by
  have e0 : ∀ x, ci x x = 0 := fun x => (ci_zero x x).2 rfl
  have z0 : ∀ x, ordS x x = 0 := fun x => (ordS_zero x x).2 rfl
  have s1 : (a.n ≠ b.n) ↔ ci a.n b.n ≠ 0 := by rw [Ne, ← ci_zero]
  have s2 : (a.who ≠ b.who) ↔ ci a.who b.who ≠ 0 := by rw [Ne, ← ci_zero]
  by_cases h5 : a.ty = 5
  · have h5b : b.ty = 5 := by omega
    simp only [grd, grade, gcmp, h5, h5b, s1, s2, if_true, ne_eq, not_true_eq_false, if_false]
    rfl
  · have h5b : ¬ b.ty = 5 := by omega
    simp only [grd, grade, gcmp, if_neg h5b, e0, z0, s1, s2, ne_eq, not_true_eq_false, if_false, h5, not_false_eq_true, if_true]
    rfl

theorem slot_ty (a : At) : (slot a).ty = a.ty := by unfold slot; split <;> rfl
theorem unite_eq (a : At) (h : mayB a = true) : unite (slot a) (grade a) = a := by
  obtain ⟨ty, key, side, who, elem, n⟩ := a
  simp only [mayB, decide_eq_true_eq] at h
  unfold unite
  rw [slot_ty]
  by_cases h5 : ty = 5
  · have : side = 0 := by omega
    simp [slot, grade, h5, this]
  · simp [slot, grade, h5]

/-- IT IS TOLD: sorted; each of it the greatest of its slot in the list; of every slot of the list. -/
structure IsTold (l out : List At) : Prop where
  sorted : out.Pairwise (fun x y => plc x y < 0)
  great : ∀ x ∈ out, x ∈ l ∧ ∀ y ∈ l, plc y x = 0 → grd y x ≤ 0
  all : ∀ y ∈ l, ∃ x ∈ out, plc y x = 0

theorem plc_tp : TP plc := by
  have : plc = fun a b => scmp (slot a) (slot b) := by funext a b; exact plc_eq a b
  rw [this]; exact scmp_tp.comap slot
theorem plc_ty {a b : At} (h : plc a b = 0) : a.ty = b.ty := by
  rw [plc_eq, scmp_zero] at h
  rw [← slot_ty a, ← slot_ty b, h]
theorem same_of {a b : At} (ha : mayB a = true) (hb : mayB b = true) (h : plc a b = 0) (hg : grd a b = 0) : a = b := by
  have ht := plc_ty h
  rw [plc_eq, scmp_zero] at h
  rw [grd_eq a b ht, gcmp_zero] at hg
  rw [← unite_eq a ha, ← unite_eq b hb, h, hg]
theorem grd_anti {a b : At} (h : a.ty = b.ty) : grd b a = - grd a b := by
  rw [grd_eq a b h, grd_eq b a h.symm]; exact gcmp_tp.anti _ _

/-- Two sorted lists of the same elements are one. -/
theorem sorted_ext {c : At → At → Int} (hc : TP c) : ∀ {l r : List At}, l.Pairwise (fun x y => c x y < 0) → r.Pairwise (fun x y => c x y < 0) → (∀ x, x ∈ l ↔ x ∈ r) → l = r
  | [], [], _, _, _ => rfl
  | [], y :: r, _, _, h => by have := (h y).2 (by simp); simp at this
  | x :: l, [], _, _, h => by have := (h x).1 (by simp); simp at this
  | x :: l, y :: r, hl, hr, h => by
    rw [List.pairwise_cons] at hl hr
    have hxy : x = y := by
      have h1 : x = y ∨ x ∈ r := by simpa using (h x).1 (by simp)
      have h2 : y = x ∨ y ∈ l := by simpa using (h y).2 (by simp)
      rcases h1 with h1 | h1
      · exact h1
      · rcases h2 with h2 | h2
        · exact h2.symm
        · have a1 := hl.1 y h2
          have a2 := hr.1 x h1
          have := hc.anti x y
          omega
    subst hxy
    congr 1
    refine sorted_ext hc hl.2 hr.2 fun z => ?_
    constructor
    · intro hz
      have h1 : z = x ∨ z ∈ r := by simpa using (h z).1 (by simp [hz])
      rcases h1 with h1 | h1
      · have := hl.1 z hz; rw [h1, hc.refl] at this; omega
      · exact h1
    · intro hz
      have h1 : z = x ∨ z ∈ l := by simpa using (h z).2 (by simp [hz])
      rcases h1 with h1 | h1
      · have := hr.1 z hz; rw [h1, hc.refl] at this; omega
      · exact h1

theorem IsTold.sub {l a b : List At} (hl : ∀ x ∈ l, mayB x = true) (ha : IsTold l a) (hb : IsTold l b) : ∀ x ∈ a, x ∈ b := by
  intro x hx
  obtain ⟨hxl, hxm⟩ := ha.great x hx
  obtain ⟨y, hy, hxy⟩ := hb.all x hxl
  obtain ⟨hyl, hym⟩ := hb.great y hy
  have h1 := hym x hxl hxy
  have hyx : plc y x = 0 := by rw [plc_tp.anti x y, hxy]; rfl
  have h2 := hxm y hyl hyx
  rw [grd_anti (plc_ty hxy)] at h2
  rw [same_of (hl x hxl) (hl y hyl) hxy (by omega)]
  exact hy
/-- A state is told in one way. -/
theorem IsTold.unique {l a b : List At} (hl : ∀ x ∈ l, mayB x = true) (ha : IsTold l a) (hb : IsTold l b) : a = b :=
  sorted_ext plc_tp ha.sorted hb.sorted fun x => ⟨ha.sub hl hb x, hb.sub hl ha x⟩

end Go.Proofs.YtahdlejgjcjeoaaDoor
