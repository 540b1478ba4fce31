/- Walks of the program's package state: rules, mayBe, split, greater, unite. -/
import Derived.WalkKit
import Derived.WalkSpells
import Derived.WalkLawsBesides
import Derived.BigQuiet
import Derived.Deep.QuietTactic
import Derived.Deep.DeepMust
import Derived.Lib.Bytealg
import Derived.Deep.AppendLies
import Derived.Test.YtahdlejgjcjeoabGreatDoorProg
import Derived.Maps.Own
import Derived.Maps.OwnSet
import Derived.Maps.OwnOps
import Derived.Maps.RangeWalk
import Derived.ProofKit
import Derived.Deep.Light
import Derived.Deep.RegionHeld3
import Derived.RegionTactic
import Derived.BigRegion
namespace Go.Proofs.YtahdlejgjcjeoabGreatDoor
open Go.RowKit

/-- An atom's six fields, in their order. -/
structure At where
  ty : Int
  key : ByteArray
  side : Int
  who : Int
  elem : ByteArray
  n : Int

/-- Its six cells. -/
def enc (a : At) : List Value := [.int .i64 a.ty, .string a.key, .int .i64 a.side, .int .i64 a.who, .string a.elem, .int .i64 a.n]

/-- As a value. -/
def At.val (a : At) : Value := .agg #[.int .i64 a.ty, .string a.key, .int .i64 a.side, .int .i64 a.who, .string a.elem, .int .i64 a.n]

def flat (l : List At) : List Value := l.flatMap enc

def sgn (n : Int) : Int := if n < 0 then -1 else if 0 < n then 1 else 0

/-- P3: an atom that may be. -/
def mayB (a : At) : Bool := decide (
  1 ≤ a.key.size ∧ a.key.size ≤ 4 ∧
  ((a.ty = 1 ∧ 0 ≤ a.who ∧ a.who ≤ 5 ∧ 1 ≤ a.n ∧ a.n ≤ 2147483647 ∧ a.side = 0 ∧ a.elem.size = 0) ∨
   (a.ty = 2 ∧ 0 ≤ a.who ∧ a.who ≤ 5 ∧ 1 ≤ a.n ∧ a.n ≤ 2147483647 ∧ (a.side = 0 ∨ a.side = 1) ∧ a.elem.size = 0) ∨
   (a.ty = 3 ∧ a.elem.size ≤ 8 ∧ a.side = 0 ∧ a.who = 0 ∧ a.n = 0) ∨
   (a.ty = 4 ∧ a.elem.size ≤ 8 ∧ (a.side = 0 ∨ a.side = 1) ∧ a.who = 0 ∧ a.n = 0) ∨
   (a.ty = 5 ∧ 0 ≤ a.who ∧ a.who ≤ 5 ∧ 1 ≤ a.n ∧ a.n ≤ 2147483647 ∧ a.elem.size ≤ 8 ∧ a.side = 0)))

/-- Texts are compared byte by byte. -/
def ordS (a b : ByteArray) : Int := Lib.compareBytes a.data.toList b.data.toList

/-- Numbers that can be subtracted, texts that can be. -/
def fits (a : At) : Prop := -4294967296 ≤ a.ty ∧ a.ty ≤ 4294967296 ∧ -4294967296 ≤ a.side ∧ a.side ≤ 4294967296 ∧ -4294967296 ≤ a.who ∧ a.who ≤ 4294967296 ∧ -4294967296 ≤ a.n ∧ a.n ≤ 4294967296 ∧ a.key.size ≤ 4096 ∧ a.elem.size ≤ 4096

theorem fits_of_may {a : At} (h : mayB a = true) : fits a := by
  simp only [mayB, decide_eq_true_eq] at h
  unfold fits
  omega

/-- The order in which slots are told; 0: the same slot. -/
def plc (a b : At) : Int :=
  if a.ty ≠ b.ty then sgn (a.ty - b.ty)
  else if ordS a.key b.key ≠ 0 ∨ a.ty = 5 then ordS a.key b.key
  else if a.side ≠ b.side then sgn (a.side - b.side)
  else if a.who ≠ b.who then sgn (a.who - b.who)
  else ordS a.elem b.elem

/-- Of two atoms of one slot: the grades. -/
def grd (a b : At) : Int :=
  if a.n ≠ b.n then sgn (a.n - b.n)
  else if a.ty ≠ 5 then 0
  else if a.who ≠ b.who then sgn (a.who - b.who)
  else ordS a.elem b.elem

theorem ret_int {k : IntKind} {a b : Int} (h : a = b) : Ending.returned (.int k a) = .returned (.int k b) := by rw [h]
theorem ret_bool {a b : Bool} (h : a = b) : Ending.returned (.bool a) = .returned (.bool b) := by rw [h]

/-- The six cells of an atom, from o on. -/
def cellsAt (w : World) (b o : Nat) (a : At) : Prop :=
  w.cell? ⟨b, o, none⟩ = some (.int .i64 a.ty) ∧ w.cell? ⟨b, o + 1, none⟩ = some (.string a.key) ∧ w.cell? ⟨b, o + 2, none⟩ = some (.int .i64 a.side) ∧
  w.cell? ⟨b, o + 3, none⟩ = some (.int .i64 a.who) ∧ w.cell? ⟨b, o + 4, none⟩ = some (.string a.elem) ∧ w.cell? ⟨b, o + 5, none⟩ = some (.int .i64 a.n)

/-- A row of atoms in memory. -/
def RowAt (w : World) (b off : Nat) (l : List At) : Prop := ∀ (k : Nat) (h : k < l.length), cellsAt w b (off + k * 6) (l[k])

theorem cellsAt_below {B : Nat} {w w' : World} (h : Below B w w') {b o : Nat} {a : At} (hb : b < B) (hr : cellsAt w b o a) : cellsAt w' b o a := by
  obtain ⟨c0, c1, c2, c3, c4, c5⟩ := hr
  refine ⟨?_, ?_, ?_, ?_, ?_, ?_⟩ <;> (rw [h.cell (p := ⟨b, _, none⟩) hb]; assumption)

theorem RowAt.below {B : Nat} {w w' : World} {b off : Nat} {l : List At} (hr : RowAt w b off l) (h : Below B w w') (hb : b < B) : RowAt w' b off l :=
  fun k hk => cellsAt_below h hb (hr k hk)

theorem all_snoc {α : Type} (p : α → Bool) (l : List α) (k : Nat) (h : k < l.length) : (l.take (k + 1)).all p = ((l.take k).all p && p (l[k])) := by
  rw [List.take_succ_eq_append_getElem h, List.all_append]; simp only [List.all_cons, List.all_nil, Bool.and_true]

/-- Texts that a length can tell. -/
def short (a : At) : Prop := a.key.size ≤ 281474976710656 ∧ a.elem.size ≤ 281474976710656

end Go.Proofs.YtahdlejgjcjeoabGreatDoor

namespace Go.Proofs.YtahdlejgjcjeoabGreatDoor
open Go.RowKit

/-- A comparison that is a whole order up to equals. -/
structure TP {α : Type} (c : α → α → Int) : Prop where
  anti : ∀ x y, c y x = - c x y
  trans : ∀ x y z, c x y ≤ 0 → c y z ≤ 0 → c x z ≤ 0

theorem TP.lex {α : Type} {c d : α → α → Int} (h : TP c) (k : TP d) : TP (fun x y => if c x y ≠ 0 then c x y else d x y) where
  anti x y := by
    have := h.anti x y
    have := k.anti x y
    split <;> split <;> omega
  trans x y z := by
    have a1 := h.trans x y z
    have a2 := h.trans y z x
    have a3 := h.trans z x y
    have b1 := k.trans x y z
    have e1 := h.anti x y
    have e2 := h.anti y z
    have e3 := h.anti x z
    split <;> split <;> split <;> omega

theorem TP.comap {α β : Type} {c : β → β → Int} (h : TP c) (f : α → β) : TP (fun x y => c (f x) (f y)) where
  anti _ _ := h.anti _ _
  trans _ _ _ := h.trans _ _ _

theorem TP.refl {α : Type} {c : α → α → Int} (h : TP c) (x : α) : c x x = 0 := by have := h.anti x x; omega
theorem TP.lt_le {α : Type} {c : α → α → Int} (h : TP c) {x y z : α} (a : c x y < 0) (b : c y z ≤ 0) : c x z < 0 := by
  have e1 := h.anti x y
  have e2 := h.anti x z
  have := h.trans y z x b
  omega
theorem TP.le_lt {α : Type} {c : α → α → Int} (h : TP c) {x y z : α} (a : c x y ≤ 0) (b : c y z < 0) : c x z < 0 := by
  have e1 := h.anti y z
  have e2 := h.anti x z
  have := h.trans z x y
  omega

def ci (a b : Int) : Int := sgn (a - b)
theorem ci_tp : TP ci where
  anti x y := by simp only [ci, sgn]; split <;> split <;> (try split) <;> (try split) <;> omega
  trans x y z := by
    simp only [ci, sgn]
    intro h1 h2
    have h1' : x ≤ y := by split at h1 <;> (try split at h1) <;> omega
    have h2' : y ≤ z := by split at h2 <;> (try split at h2) <;> omega
    split <;> (try split) <;> omega
theorem ci_zero (a b : Int) : ci a b = 0 ↔ a = b := by
  simp only [ci, sgn]
  split <;> (try split) <;> omega

theorem cb_anti : ∀ l r, Lib.compareBytes r l = - Lib.compareBytes l r
  | [], [] => rfl
  | [], _ :: _ => rfl
  | _ :: _, [] => rfl
  | a :: l, b :: r => by
    have ih := cb_anti l r
    simp only [Lib.compareBytes, UInt8.lt_iff_toNat_lt]
    split <;> split <;> omega
theorem cb_zero : ∀ l r, Lib.compareBytes l r = 0 ↔ l = r
  | [], [] => by simp [Lib.compareBytes]
  | [], _ :: _ => by simp [Lib.compareBytes]
  | _ :: _, [] => by simp [Lib.compareBytes]
  | a :: l, b :: r => by
    have ih := cb_zero l r
    have e : a = b ↔ a.toNat = b.toNat := UInt8.toNat_inj.symm
    simp only [Lib.compareBytes, UInt8.lt_iff_toNat_lt, List.cons.injEq, e]
    split
    · simp; omega
    · split
      · simp; omega
      · rw [ih]; constructor
        · intro h; exact ⟨by omega, h⟩
        · intro h; exact h.2
theorem cb_trans : ∀ l r s, Lib.compareBytes l r ≤ 0 → Lib.compareBytes r s ≤ 0 → Lib.compareBytes l s ≤ 0
  | [], _, [] => by simp [Lib.compareBytes]
  | [], _, _ :: _ => by simp [Lib.compareBytes]
  | _ :: _, [], _ => by simp [Lib.compareBytes]
  | _ :: _, _ :: _, [] => by simp [Lib.compareBytes]
  | a :: l, b :: r, c :: s => by
    have ih := cb_trans l r s
    simp only [Lib.compareBytes, UInt8.lt_iff_toNat_lt]
    split <;> split <;> (try split) <;> (try split) <;> (try split) <;> omega
theorem ordS_tp : TP ordS where
  anti _ _ := cb_anti _ _
  trans _ _ _ := cb_trans _ _ _
theorem ordS_zero (a b : ByteArray) : ordS a b = 0 ↔ a = b := by
  unfold ordS
  rw [cb_zero]
  constructor
  · intro h; exact ByteArray.ext (Array.toList_inj.1 h)
  · intro h; rw [h]

/-- A slot, a grade: the program's own. -/
structure Sl where
  ty : Int
  key : ByteArray
  side : Int
  who : Int
  elem : ByteArray
structure Gr where
  n : Int
  who : Int
  elem : ByteArray

def scmp (s t : Sl) : Int :=
  if ci s.ty t.ty ≠ 0 then ci s.ty t.ty
  else if ordS s.key t.key ≠ 0 then ordS s.key t.key
  else if ci s.side t.side ≠ 0 then ci s.side t.side
  else if ci s.who t.who ≠ 0 then ci s.who t.who
  else ordS s.elem t.elem
def gcmp (g h : Gr) : Int :=
  if ci g.n h.n ≠ 0 then ci g.n h.n
  else if ci g.who h.who ≠ 0 then ci g.who h.who
  else ordS g.elem h.elem
theorem scmp_tp : TP scmp := (ci_tp.comap Sl.ty).lex ((ordS_tp.comap Sl.key).lex ((ci_tp.comap Sl.side).lex ((ci_tp.comap Sl.who).lex (ordS_tp.comap Sl.elem))))
theorem gcmp_tp : TP gcmp := (ci_tp.comap Gr.n).lex ((ci_tp.comap Gr.who).lex (ordS_tp.comap Gr.elem))
theorem scmp_zero (s t : Sl) : scmp s t = 0 ↔ s = t := by
  obtain ⟨a1, a2, a3, a4, a5⟩ := s
  obtain ⟨b1, b2, b3, b4, b5⟩ := t
  simp only [scmp, Sl.mk.injEq]
  rw [← ci_zero a1 b1, ← ordS_zero a2 b2, ← ci_zero a3 b3, ← ci_zero a4 b4, ← ordS_zero a5 b5]
  split
  · omega
  · split
    · omega
    · split
      · omega
      · split
        · omega
        · omega
theorem gcmp_zero (s t : Gr) : gcmp s t = 0 ↔ s = t := by
  obtain ⟨a1, a2, a3⟩ := s
  obtain ⟨b1, b2, b3⟩ := t
  simp only [gcmp, Gr.mk.injEq]
  rw [← ci_zero a1 b1, ← ci_zero a2 b2, ← ordS_zero a3 b3]
  split
  · omega
  · split
    · omega
    · omega

def slot (a : At) : Sl := if a.ty = 5 then ⟨a.ty, a.key, 0, 0, ByteArray.empty⟩ else ⟨a.ty, a.key, a.side, a.who, a.elem⟩
def grade (a : At) : Gr := if a.ty = 5 then ⟨a.n, a.who, a.elem⟩ else ⟨a.n, 0, ByteArray.empty⟩
/-- The atom of a slot and a grade. -/
def unite (s : Sl) (g : Gr) : At := if s.ty = 5 then ⟨s.ty, s.key, 0, g.who, g.elem, g.n⟩ else ⟨s.ty, s.key, s.side, s.who, s.elem, g.n⟩

theorem plc_eq (a b : At) : plc a b = scmp (slot a) (slot b) := by
  have e0 : ∀ x, ci x x = 0 := fun x => (ci_zero x x).2 rfl
  have z0 : ∀ x, ordS x x = 0 := fun x => (ordS_zero x x).2 rfl
  by_cases h : a.ty = b.ty
  · by_cases h5 : a.ty = 5
    · have h5b : b.ty = 5 := by omega
      simp only [plc, slot, scmp, h5, h5b, if_true, ne_eq, not_true_eq_false, if_false, or_true]
      rw [e0 5, e0 0, z0]
      by_cases hk : ordS a.key b.key = 0 <;> simp [hk]
    · have h5b : ¬ b.ty = 5 := by omega
      simp only [plc, slot, scmp, if_neg h5b, h, e0]
      have s1 : (a.side ≠ b.side) ↔ ci a.side b.side ≠ 0 := by rw [Ne, ← ci_zero]
      have s2 : (a.who ≠ b.who) ↔ ci a.who b.who ≠ 0 := by rw [Ne, ← ci_zero]
      simp only [s1, s2, h5b, or_false, ne_eq, not_true_eq_false, if_false]
      rfl
  · have hc : ci a.ty b.ty ≠ 0 := by rw [Ne, ci_zero]; exact h
    have e1 : (slot a).ty = a.ty := by unfold slot; split <;> rfl
    have e2 : (slot b).ty = b.ty := by unfold slot; split <;> rfl
    simp only [plc, scmp, e1, e2, if_pos hc]
    rw [if_pos h]; rfl

theorem grd_eq (a b : At) (h : a.ty = b.ty) : grd a b = gcmp (grade a) (grade b) := by
  have e0 : ∀ x, ci x x = 0 := fun x => (ci_zero x x).2 rfl
  have z0 : ∀ x, ordS x x = 0 := fun x => (ordS_zero x x).2 rfl
  have s1 : (a.n ≠ b.n) ↔ ci a.n b.n ≠ 0 := by rw [Ne, ← ci_zero]
  have s2 : (a.who ≠ b.who) ↔ ci a.who b.who ≠ 0 := by rw [Ne, ← ci_zero]
  by_cases h5 : a.ty = 5
  · have h5b : b.ty = 5 := by omega
    simp only [grd, grade, gcmp, h5, h5b, s1, s2, if_true, ne_eq, not_true_eq_false, if_false]
    rfl
  · have h5b : ¬ b.ty = 5 := by omega
    simp only [grd, grade, gcmp, if_neg h5b, e0, z0, s1, s2, ne_eq, not_true_eq_false, if_false, h5, not_false_eq_true, if_true]
    rfl

theorem slot_ty (a : At) : (slot a).ty = a.ty := by unfold slot; split <;> rfl
theorem unite_eq (a : At) (h : mayB a = true) : unite (slot a) (grade a) = a := by
  obtain ⟨ty, key, side, who, elem, n⟩ := a
  simp only [mayB, decide_eq_true_eq] at h
  unfold unite
  rw [slot_ty]
  by_cases h5 : ty = 5
  · have : side = 0 := by omega
    simp [slot, grade, h5, this]
  · simp [slot, grade, h5]

/-- IT IS TOLD: sorted; each of it the greatest of its slot in the list; of every slot of the list. -/
structure IsTold (l out : List At) : Prop where
  sorted : out.Pairwise (fun x y => plc x y < 0)
  great : ∀ x ∈ out, x ∈ l ∧ ∀ y ∈ l, plc y x = 0 → grd y x ≤ 0
  all : ∀ y ∈ l, ∃ x ∈ out, plc y x = 0

theorem plc_tp : TP plc := by
  have : plc = fun a b => scmp (slot a) (slot b) := by funext a b; exact plc_eq a b
  rw [this]; exact scmp_tp.comap slot
theorem plc_ty {a b : At} (h : plc a b = 0) : a.ty = b.ty := by
  rw [plc_eq, scmp_zero] at h
  rw [← slot_ty a, ← slot_ty b, h]
theorem same_of {a b : At} (ha : mayB a = true) (hb : mayB b = true) (h : plc a b = 0) (hg : grd a b = 0) : a = b := by
  have ht := plc_ty h
  rw [plc_eq, scmp_zero] at h
  rw [grd_eq a b ht, gcmp_zero] at hg
  rw [← unite_eq a ha, ← unite_eq b hb, h, hg]
theorem grd_anti {a b : At} (h : a.ty = b.ty) : grd b a = - grd a b := by
  rw [grd_eq a b h, grd_eq b a h.symm]; exact gcmp_tp.anti _ _

/-- Two sorted lists of the same elements are one. -/
theorem sorted_ext {c : At → At → Int} (hc : TP c) : ∀ {l r : List At}, l.Pairwise (fun x y => c x y < 0) → r.Pairwise (fun x y => c x y < 0) → (∀ x, x ∈ l ↔ x ∈ r) → l = r
  | [], [], _, _, _ => rfl
  | [], y :: r, _, _, h => by have := (h y).2 (by simp); simp at this
  | x :: l, [], _, _, h => by have := (h x).1 (by simp); simp at this
  | x :: l, y :: r, hl, hr, h => by
    rw [List.pairwise_cons] at hl hr
    have hxy : x = y := by
      have h1 : x = y ∨ x ∈ r := by simpa using (h x).1 (by simp)
      have h2 : y = x ∨ y ∈ l := by simpa using (h y).2 (by simp)
      rcases h1 with h1 | h1
      · exact h1
      · rcases h2 with h2 | h2
        · exact h2.symm
        · have a1 := hl.1 y h2
          have a2 := hr.1 x h1
          have := hc.anti x y
          omega
    subst hxy
    congr 1
    refine sorted_ext hc hl.2 hr.2 fun z => ?_
    constructor
    · intro hz
      have h1 : z = x ∨ z ∈ r := by simpa using (h z).1 (by simp [hz])
      rcases h1 with h1 | h1
      · have := hl.1 z hz; rw [h1, hc.refl] at this; omega
      · exact h1
    · intro hz
      have h1 : z = x ∨ z ∈ l := by simpa using (h z).2 (by simp [hz])
      rcases h1 with h1 | h1
      · have := hr.1 z hz; rw [h1, hc.refl] at this; omega
      · exact h1

theorem IsTold.sub {l a b : List At} (hl : ∀ x ∈ l, mayB x = true) (ha : IsTold l a) (hb : IsTold l b) : ∀ x ∈ a, x ∈ b := by
  intro x hx
  obtain ⟨hxl, hxm⟩ := ha.great x hx
  obtain ⟨y, hy, hxy⟩ := hb.all x hxl
  obtain ⟨hyl, hym⟩ := hb.great y hy
  have h1 := hym x hxl hxy
  have hyx : plc y x = 0 := by rw [plc_tp.anti x y, hxy]; rfl
  have h2 := hxm y hyl hyx
  rw [grd_anti (plc_ty hxy)] at h2
  rw [same_of (hl x hxl) (hl y hyl) hxy (by omega)]
  exact hy
/-- A state is told in one way. -/
theorem IsTold.unique {l a b : List At} (hl : ∀ x ∈ l, mayB x = true) (ha : IsTold l a) (hb : IsTold l b) : a = b :=
  sorted_ext plc_tp ha.sorted hb.sorted fun x => ⟨ha.sub hl hb x, hb.sub hl ha x⟩

end Go.Proofs.YtahdlejgjcjeoabGreatDoor

namespace Go.Proofs.YtahdlejgjcjeoabGreatDoor
open Go.RowKit Go.Maps
set_option maxRecDepth 100000

theorem laidOut : laidOutB Tryz.prog = true := by kernel_rfl
theorem typesTwo : decide (2 ≤ Tryz.prog.types.size) = true := by kernel_rfl
theorem typesSize : ∃ d, Tryz.prog.types.size + 1 = d + 2 := ⟨Tryz.prog.types.size - 1, by have := of_decide_eq_true typesTwo; omega⟩
theorem keyTypeSlot : Tryz.prog.keyType 211 = true := by kernel_rfl
theorem cellsSlot : Tryz.prog.cellsOf 211 = 5 := by kernel_rfl
theorem cellsInt : Tryz.prog.cellsOf 3 = 1 := by kernel_rfl
theorem cellsString : Tryz.prog.cellsOf 9 = 1 := by kernel_rfl

theorem slotKeyed : Keyed Tryz.prog 211 :=
  Keyed.of_law (deep_law_laid laidOut (m := 4) (by omega) (of_decide_eq_true (by kernel_rfl)) (by kernel_rfl) (by kernel_rfl))

def Sl.val (s : Sl) : Value := .agg #[.int .i64 s.ty, .string s.key, .int .i64 s.side, .int .i64 s.who, .string s.elem]
def Gr.val (g : Gr) : Value := .agg #[.int .i64 g.n, .int .i64 g.who, .string g.elem]
def Sl.lit (s : Sl) : Lit := .string (keyBytes [.int .i64 s.ty, .string s.key.data.toList, .int .i64 s.side, .int .i64 s.who, .string s.elem.data.toList])
/-- Numbers of 64 bits, texts that can be. -/
def Sl.ok (s : Sl) : Prop := (Lit.int .i64 s.ty).wf = true ∧ s.key.size ≤ maxLen ∧ (Lit.int .i64 s.side).wf = true ∧ (Lit.int .i64 s.who).wf = true ∧ s.elem.size ≤ maxLen

theorem keyOf_slot (s : Sl) (h : s.ok) : keyOf Tryz.prog 211 s.val = some s.lit := by
  obtain ⟨h1, h2, h3, h4, h5⟩ := h
  unfold keyOf
  rw [Tryz.underlying211]
  have hf : s.val.formed Tryz.prog 211 = true := by simp [Sl.val, Value.formed, Tryz.underlying211, cellsSlot]
  simp only [keyTypeSlot, hf, Bool.and_self, if_true]
  obtain ⟨d, hd⟩ := typesSize
  rw [hd]
  simp [Program.keyLits, Tryz.underlying211, cellsSlot, Sl.val, Value.cells, cellsInt, cellsString, Tryz.underlying3, Tryz.underlying9, h1, h2, h3, h4, h5, Sl.lit]

theorem int_cell (d : Nat) (c : Value) (ls : List Lit) (h : Tryz.prog.keyLits (d + 1) 3 [c] = some ls) : ∃ n, c = .int .i64 n := by
  unfold Program.keyLits at h
  rw [Tryz.underlying3] at h
  cases c <;> simp at h
  obtain ⟨⟨rfl, _⟩, _⟩ := h
  exact ⟨_, rfl⟩
theorem string_cell (d : Nat) (c : Value) (ls : List Lit) (h : Tryz.prog.keyLits (d + 1) 9 [c] = some ls) : ∃ s, c = .string s := by
  unfold Program.keyLits at h
  rw [Tryz.underlying9] at h
  cases c <;> simp at h
  exact ⟨_, rfl⟩
theorem slot_cells (d : Nat) (c0 c1 c2 c3 c4 : Value) (ls : List Lit) (h : Tryz.prog.keyLits (d + 2) 211 [c0, c1, c2, c3, c4] = some ls) : ∃ s : Sl, Value.agg #[c0, c1, c2, c3, c4] = s.val := by
  unfold Program.keyLits at h
  simp only [Tryz.underlying211, cellsSlot] at h
  split at h
  · simp only [List.mapM_cons, List.mapM_nil, Option.map_eq_some_iff, Option.bind_eq_bind, Option.bind_eq_some_iff, cellsInt, cellsString, List.drop_zero, List.take_succ_cons, List.take_zero, List.drop_succ_cons, Option.pure_def] at h
    obtain ⟨xs, ⟨x0, k0, y0, ⟨x1, k1, y1, ⟨x2, k2, y2, ⟨x3, k3, y3, ⟨x4, k4, _⟩, _⟩, _⟩, _⟩, _⟩, _⟩ := h
    obtain ⟨n0, rfl⟩ := int_cell d c0 _ k0
    obtain ⟨n1, rfl⟩ := string_cell d c1 _ k1
    obtain ⟨n2, rfl⟩ := int_cell d c2 _ k2
    obtain ⟨n3, rfl⟩ := int_cell d c3 _ k3
    obtain ⟨n4, rfl⟩ := string_cell d c4 _ k4
    exact ⟨⟨n0, n1, n2, n3, n4⟩, rfl⟩
  · cases h
theorem slot_key_inv (key : Value) (kl : Lit) (h : keyOf Tryz.prog 211 key = some kl) : ∃ s : Sl, key = s.val := by
  unfold keyOf at h
  simp only [Tryz.underlying211, keyTypeSlot, Bool.true_and] at h
  split at h
  · rename_i hf
    cases key with
    | agg cs =>
      simp only [Value.formed, Tryz.underlying211, cellsSlot, beq_iff_eq] at hf
      obtain ⟨d, hd⟩ := typesSize
      rw [hd] at h
      obtain ⟨l⟩ := cs
      match l, hf with
      | [c0, c1, c2, c3, c4], _ =>
        rw [Option.map_eq_some_iff] at h
        obtain ⟨ls, hls, _⟩ := h
        exact slot_cells d c0 c1 c2 c3 c4 ls hls
    | _ => simp [Value.formed, Tryz.underlying211] at hf
  · cases h

/-- How a grade reads. -/
def Gr.dat (g : Gr) : DataW Unit := .agg [.lit (.int .i64 g.n), .lit (.int .i64 g.who), .lit (.string g.elem.data.toList)]
def grElem (v : Value) : Option (DataW Unit × List MemPlace) :=
  match v with
  | .agg cs => match cs.toList with
    | [.int .i64 n, .int .i64 who, .string e] => some (.agg [.lit (.int .i64 n), .lit (.int .i64 who), .lit (.string e.data.toList)], [])
    | _ => none
  | _ => none
theorem grElem_mk (g : Gr) : grElem g.val = some (g.dat, []) := rfl
theorem grElem_inv {v : Value} {z : DataW Unit × List MemPlace} (h : grElem v = some z) : ∃ g : Gr, v = g.val ∧ z = (g.dat, []) := by
  unfold grElem at h
  split at h
  · rename_i cs
    obtain ⟨l⟩ := cs
    split at h
    · rename_i n who e hl
      simp only at hl
      subst hl
      cases h
      exact ⟨⟨n, who, e⟩, rfl, rfl⟩
    · cases h
  · cases h
theorem Gr.dat_inj {g h : Gr} (e : g.dat = h.dat) : g = h := by
  obtain ⟨n, w, x⟩ := g
  obtain ⟨n', w', x'⟩ := h
  simp only [Gr.dat, DataW.agg.injEq, List.cons.injEq, DataW.lit.injEq, Lit.int.injEq, Lit.string.injEq, and_true, true_and] at e
  obtain ⟨rfl, rfl, e⟩ := e
  have : x = x' := ByteArray.ext (Array.toList_inj.1 e)
  rw [this]

theorem zeroGrade (w : World) : (zeroValue 213).run Tryz.prog w = .ok (Gr.val ⟨0, 0, ByteArray.empty⟩) w := by kernel_rfl
theorem Sl.val_inj {s t : Sl} (h : s.val = t.val) : s = t := by
  obtain ⟨a, b, c, d, e⟩ := s
  obtain ⟨a', b', c', d', e'⟩ := t
  simp [Sl.val] at h
  obtain ⟨rfl, rfl, rfl, rfl, rfl⟩ := h
  rfl
theorem Sl.lit_inj {s t : Sl} (hs : s.ok) (ht : t.ok) (h : s.lit = t.lit) : s = t :=
  Sl.val_inj (slotKeyed.inj (keyOf_slot s hs) (by rw [h]; exact keyOf_slot t ht))

/-- THE MAP IN BLOCK b IS M (of at most n entries). -/
def StMap (w : World) (b n : Nat) (M : Sl → Option Gr) : Prop :=
  ∃ D : DataW Unit, w.ownsMap Tryz.prog 211 grElem b n D ∧ (∀ s, s.ok → M s = none → Maps.has D s.lit = false) ∧
    (∀ s g, M s = some g → s.ok ∧ Maps.has D s.lit = true ∧ ∀ z, D.atKey s.lit z = g.dat)

def upd (M : Sl → Option Gr) (s : Sl) (g : Gr) : Sl → Option Gr := fun t => if scmp t s = 0 then some g else M t

theorem stMap_made (w : World) : StMap (w.alloc (.map #[] 0)) w.heap.size 0 (fun _ => none) :=
  ⟨.map [], World.ownsMap_made w _ _ _, fun s _ _ => rfl, fun s g h => by cases h⟩

theorem StMap.kept {w w' : World} {b n : Nat} {M : Sl → Option Gr} {row : Option Nat} (h : StMap w b n M) (hg : w.grownBy w' row) (hne : some b ≠ row) : StMap w' b n M := by
  obtain ⟨D, h1, h2⟩ := h
  exact ⟨D, h1.kept hg hne, h2⟩
theorem StMap.lt {w : World} {b n : Nat} {M : Sl → Option Gr} (h : StMap w b n M) : b < w.heap.size := by
  obtain ⟨D, h1, _⟩ := h
  exact h1.lt
theorem upd_stMap {w' : World} {b n : Nat} {D : DataW Unit} {M : Sl → Option Gr} {s : Sl} {g : Gr} (hs : s.ok) (hm : Maps.IsMap D)
    (h2 : ∀ t, t.ok → M t = none → Maps.has D t.lit = false) (h3 : ∀ t g, M t = some g → t.ok ∧ Maps.has D t.lit = true ∧ ∀ z, D.atKey t.lit z = g.dat)
    (h1 : w'.ownsMap Tryz.prog 211 grElem b n (D.put s.lit g.dat)) : StMap w' b n (upd M s g) := by
  have hkl : WideAt.IsKeyLit s.lit := slotKeyed.key (keyOf_slot s hs)
  refine ⟨_, h1, fun t ht hn => ?_, fun t g' hg' => ?_⟩
  · unfold upd at hn
    split at hn
    · cases hn
    · rename_i hne
      have hl : t.lit ≠ s.lit := fun e => hne ((scmp_zero t s).2 (Sl.lit_inj ht hs e))
      rw [Maps.has_put_other hl]
      exact h2 t ht hn
  · unfold upd at hg'
    split at hg'
    · rename_i he
      obtain rfl := (scmp_zero t s).1 he
      cases hg'
      exact ⟨hs, Maps.has_put_same hm hkl _, fun z => Maps.atKey_put_same hm hkl _ z⟩
    · rename_i hne
      obtain ⟨ht, hh, ha⟩ := h3 t g' hg'
      have hl : t.lit ≠ s.lit := fun e => hne ((scmp_zero t s).2 (Sl.lit_inj ht hs e))
      exact ⟨ht, by rw [Maps.has_put_other hl]; exact hh, fun z => by rw [Maps.atKey_put_other hl]; exact ha z⟩

/-- What a look-up hands back. -/
def got (M : Sl → Option Gr) (s : Sl) : Gr := (M s).getD ⟨0, 0, ByteArray.empty⟩

section
variable (w : World) {ops : Array Oper} {rest : List Oper} {o : Oper} {a : Act} {Q : Exit → Act → World → Prop}
theorem wpList_st_look (hg : o.guard = none) (m x : Operand) (t : TypeId) (hop : o.op = Op.lookup t m x true) (ht : Tryz.prog.underlying t = some (.map 211 213)) (b n : Nat) (M : Sl → Option Gr)
    (hm : a.eval m = .map (some b)) (hown : StMap w b n M) (s : Sl) (hs : s.ok) (hx : a.eval x = s.val)
    (hK : wpList Tryz.prog ops Q rest (a.put o.dst (.tuple #[(got M s).val, .bool (M s).isSome])) w) :
    wpList Tryz.prog ops Q (o :: rest) a w := by
  obtain ⟨D, h1, h2, h3⟩ := hown
  refine wpList_lookup_own_ok w hg m x t hop 211 213 slotKeyed ht grElem (zeroGrade w) (Gr.dat ⟨0, 0, ByteArray.empty⟩) [] (grElem_mk _) b n D hm h1 s.val s.lit hx (keyOf_slot s hs) ?_
  intro v ps hv
  obtain ⟨g, rfl, hz⟩ := grElem_inv hv
  simp only [Prod.mk.injEq] at hz
  cases hM : M s with
  | none =>
    have hh := h2 s hs hM
    rw [hh]
    rw [Maps.atKey_of_not_has hh] at hz
    have : g = got M s := by unfold got; rw [hM]; exact (Gr.dat_inj hz.1).symm
    rw [this]
    rw [hM] at hK
    exact hK
  | some g' =>
    obtain ⟨_, hh, ha⟩ := h3 s g' hM
    rw [hh]
    rw [ha] at hz
    have : g = got M s := by unfold got; rw [hM]; exact (Gr.dat_inj hz.1).symm
    rw [this]
    rw [hM] at hK
    exact hK

theorem wpList_st_put (hg : o.guard = none) (m x v : Operand) (t : TypeId) (hop : o.op = Op.mapUpdate t m x v) (ht : Tryz.prog.underlying t = some (.map 211 213)) (b n : Nat) (M : Sl → Option Gr)
    (hm : a.eval m = .map (some b)) (hown : StMap w b n M) (hn : n < maxLen) (s : Sl) (g : Gr) (hs : s.ok) (hx : a.eval x = s.val) (hv : a.eval v = g.val)
    (hK : ∀ w', StMap w' b (n + 1) (upd M s g) → w.grownBy w' (some b) → wpList Tryz.prog ops Q rest (a.put o.dst undef) w') :
    wpList Tryz.prog ops Q (o :: rest) a w := by
  obtain ⟨D, h1, h2, h3⟩ := hown
  refine wpList_mapUpdate_own w hg m x v t hop 211 213 slotKeyed ht grElem b n D hm h1 hn s.val g.val s.lit hx hv (keyOf_slot s hs) g.dat [] (grElem_mk g) ?_
  intro w' r1 r2
  exact hK w' (upd_stMap hs h1.isMap h2 h3 r1) r2
end

/-- Nothing old has turned: so it is grown. -/
theorem below_grown {w w' : World} (h : Below w.heap.size w w') (row : Option Nat) : w.grownBy w' row := ⟨h.os, h.tape, h.output, h.size, fun i hi _ => h.block i hi⟩
theorem grown_trans {a b c : World} {row : Option Nat} (h : a.grownBy b row) (k : b.grownBy c row) : a.grownBy c row :=
  ⟨k.os.trans h.os, k.tape.trans h.tape, k.output.trans h.output, Nat.le_trans h.size k.size, fun i hi hne => (k.block i (Nat.lt_of_lt_of_le hi h.size) hne).trans (h.block i hi hne)⟩
theorem StMap.below {w w' : World} {b n : Nat} {M : Sl → Option Gr} (h : StMap w b n M) (hb : Below w.heap.size w w') : StMap w' b n M := h.kept (below_grown hb none) (by simp)
theorem StMap.ne_cell {w : World} {b n : Nat} {M : Sl → Option Gr} (h : StMap w b n M) {b' o : Nat} {v : Value} (hc : w.cell? ⟨b', o, none⟩ = some v) : b' ≠ b := by
  rintro rfl
  obtain ⟨D, ⟨es, clock, hb, _⟩, _⟩ := h
  simp [World.cell?, hb] at hc

/-- One atom joined into a state; a list. -/
def addA (M : Sl → Option Gr) (a : At) : Sl → Option Gr := upd M (slot a) (match M (slot a) with | none => grade a | some g => if gcmp g (grade a) < 0 then grade a else g)
def addTo (M : Sl → Option Gr) (l : List At) : Sl → Option Gr := l.foldl addA M
theorem addTo_succ (M : Sl → Option Gr) (l : List At) (k : Nat) (h : k < l.length) : addTo M (l.take (k + 1)) = addA (addTo M (l.take k)) l[k] := by
  unfold addTo
  rw [List.take_succ_eq_append_getElem h, List.foldl_append]
  rfl

theorem wf_small {n : Int} (h1 : -4294967296 ≤ n) (h2 : n ≤ 4294967296) : (Lit.int .i64 n).wf = true := by
  simp [Lit.wf, IntKind.min, IntKind.max, IntKind.bits, IntKind.signed]; omega
theorem slot_ok {a : At} (h : fits a) : (slot a).ok := by
  obtain ⟨a1, a2, a3, a4, a5, a6, a7, a8, a9, a10⟩ := h
  unfold slot Sl.ok maxLen
  split
  · dsimp only
    exact ⟨wf_small a1 a2, by omega, by decide, by decide, by simp⟩
  · dsimp only
    exact ⟨wf_small a1 a2, by omega, wf_small a3 a4, wf_small a5 a6, by omega⟩

end Go.Proofs.YtahdlejgjcjeoabGreatDoor

namespace Go.Proofs.YtahdlejgjcjeoabGreatDoor
open Go.RowKit

def zAt : At := ⟨0, ByteArray.empty, 0, 0, ByteArray.empty, 0⟩
/-- The k-th atom of a list. -/
def nth (l : List At) (k : Nat) : At := l.getD k zAt
theorem nth_eq (l : List At) (k : Nat) (h : k < l.length) : nth l k = l[k] := by simp [nth, h]
theorem nth_mem (l : List At) (k : Nat) (h : k < l.length) : nth l k ∈ l := by rw [nth_eq l k h]; exact List.getElem_mem h
theorem RowAt.nth {w : World} {b off : Nat} {l : List At} (hr : RowAt w b off l) {k : Nat} (h : k < l.length) : cellsAt w b (off + k * 6) (nth l k) := by
  rw [nth_eq l k h]; exact hr k h

/-- A slice value that reads as a list of atoms (a nil one reads as none). -/
def SliceOf (w : World) (v : Value) (l : List At) : Prop :=
  ∃ ad cap, v = .slice ad l.length cap ∧ l.length ≤ cap ∧ (0 < l.length → ∃ b off, ad = some ⟨b, off, none⟩ ∧ b < w.heap.size ∧ RowAt w b off l)

/-- x speaks against y (of which x stands ahead: ahead). -/
def bad (x y : At) (ahead : Bool) : Bool := plc x y == 0 && (decide (0 < grd x y) || (grd x y == 0 && ahead))
def cntTo (l : List At) (i k : Nat) : Bool := (List.range k).all fun j => !bad (nth l j) (nth l i) (decide (j < i))
theorem bcell {W w1 : World} (hb : Below W.heap.size W w1) : (∀ b o, b < W.heap.size → w1.cell? ⟨b, o, none⟩ = W.cell? ⟨b, o, none⟩) ∧ (∀ b o, b < W.heap.size → w1.frozen? ⟨b, o, none⟩ = W.frozen? ⟨b, o, none⟩) :=
  ⟨fun b o h => hb.cell (p := ⟨b, o, none⟩) h, fun b o h => hb.frozen (p := ⟨b, o, none⟩) h⟩

theorem flat_get (l : List At) (k j : Nat) (h : k < l.length) (hj : j < 6) : (flat l)[k * 6 + j]? = (enc l[k])[j]? := by
  induction l generalizing k with
  | nil => simp at h
  | cons a l ih =>
    have hl : (enc a).length = 6 := rfl
    cases k with
    | zero => simp [flat, List.getElem?_append_left (by rw [hl]; omega : j < (enc a).length)]
    | succ k =>
      have := ih k (by simpa using h)
      simp only [flat, List.flatMap_cons, List.getElem_cons_succ]
      rw [List.getElem?_append_right (by rw [hl]; omega), hl, show (k + 1) * 6 + j - 6 = k * 6 + j by omega]
      exact this

theorem flat_length (l : List At) : (flat l).length = l.length * 6 := by
  induction l with
  | nil => rfl
  | cons a l ih => simp only [flat, List.flatMap_cons, List.length_append, List.length_cons]; rw [show (List.flatMap enc l) = flat l from rfl, ih, show (enc a).length = 6 from rfl]; omega

theorem flat_snoc (l : List At) (a : At) : flat (l ++ [a]) = flat l ++ enc a := by simp [flat]

theorem enc_oneCell (a : At) : ∀ u ∈ enc a, u.oneCell' = true := by
  intro u hu
  simp only [enc, List.mem_cons, List.not_mem_nil, or_false] at hu
  rcases hu with rfl | rfl | rfl | rfl | rfl | rfl <;> rfl

/-- A block whose first cells are a list's: a row. -/
theorem rowAt_of_block {w : World} {g : Nat} {cur : Array Value} {e : TypeId} {fz : Nat × Nat} {l : List At} (hb : w.heap[g]? = some (.cells cur e fz)) (h : cur.toList.take (l.length * 6) = flat l) : RowAt w g 0 l := by
  intro k hk
  have hc : ∀ j, j < 6 → w.cell? ⟨g, 0 + k * 6 + j, none⟩ = (enc l[k])[j]? := by
    intro j hj
    have h1 : w.cell? ⟨g, 0 + k * 6 + j, none⟩ = cur[0 + k * 6 + j]? := by simp [World.cell?, hb]
    rw [h1, ← flat_get l k j hk hj, ← h, List.getElem?_take, if_pos (by omega), Nat.zero_add]
    simp
  exact ⟨by have := hc 0 (by omega); simpa [enc] using this, by have := hc 1 (by omega); simpa [enc] using this, by have := hc 2 (by omega); simpa [enc] using this, by have := hc 3 (by omega); simpa [enc] using this, by have := hc 4 (by omega); simpa [enc] using this, by have := hc 5 (by omega); simpa [enc] using this⟩

theorem sliceOf_nil (w : World) : SliceOf w (.slice none 0 0) [] := ⟨none, 0, rfl, Nat.le_refl _, fun h => by simp at h⟩

theorem sliceOf_owns {w : World} {base : Nat} {e : TypeId} {v : Value} {l : List At} {n : Nat} (hn : n = l.length) (h : w.ownsRow base e 6 v n (flat l)) : SliceOf w v l := by
  subst hn
  obtain ⟨_, h⟩ := h
  rcases h with ⟨rfl, h0⟩ | ⟨g, cap, cur, rfl, hg, hb, h1, h2, h3, h4⟩
  · obtain rfl := List.length_eq_zero_iff.1 h0
    exact sliceOf_nil w
  · exact ⟨_, cap, rfl, h1, fun _ => ⟨g, 0, rfl, (Array.getElem?_eq_some_iff.1 hb).1, rowAt_of_block hb h4⟩⟩

theorem SliceOf.below {w w' : World} {v : Value} {l : List At} (h : SliceOf w v l) (hb : Below w.heap.size w w') : SliceOf w' v l := by
  obtain ⟨ad, cap, rfl, hcap, h⟩ := h
  refine ⟨ad, cap, rfl, hcap, fun h0 => ?_⟩
  obtain ⟨b, off, rfl, hlt, hrow⟩ := h h0
  exact ⟨b, off, rfl, Nat.lt_of_lt_of_le hlt hb.size, hrow.below hb hlt⟩

/-- The cells of an atom that was laid in a block of its own. -/
theorem news_at (w : World) (x : At) (e : TypeId) : ∀ j u, (enc x)[j]? = some u → (w.alloc (.cells #[.int .i64 x.ty, .string x.key, .int .i64 x.side, .int .i64 x.who, .string x.elem, .int .i64 x.n] e)).cell? ((⟨w.heap.size, 0, none⟩ : Addr).add j) = some u :=
  fun j u hu => World.news_of_block (heap_alloc_new w _) j u hu

theorem owns_base {w : World} {base : Nat} {e : TypeId} {s n : Nat} {v : Value} {xs : List Value} (h : w.ownsRow base e s v n xs) : ∀ q, v.ownBlock = some q → base ≤ q := by
  intro q hq
  obtain ⟨_, h⟩ := h
  rcases h with ⟨rfl, _⟩ | ⟨g, cap, cur, rfl, hg, _⟩
  · simp [Value.ownBlock] at hq
  · simp [Value.ownBlock] at hq; omega

theorem owns_below {w w' : World} {base : Nat} {e : TypeId} {s n : Nat} {v : Value} {xs : List Value} (h : w.ownsRow base e s v n xs) (hb : Below w.heap.size w w') : w'.ownsRow base e s v n xs := by
  obtain ⟨h0, h⟩ := h
  refine ⟨h0, ?_⟩
  rcases h with h | ⟨g, cap, cur, hv, hg, hh, r⟩
  · exact .inl h
  · exact .inr ⟨g, cap, cur, hv, hg, by rw [hb.block g (Array.getElem?_eq_some_iff.1 hh).1]; exact hh, r⟩

theorem owns_mono {w : World} {base base' : Nat} {e : TypeId} {s n : Nat} {v : Value} {xs : List Value} (h : w.ownsRow base e s v n xs) (hb : base' ≤ base) : w.ownsRow base' e s v n xs := by
  obtain ⟨h0, h⟩ := h
  refine ⟨h0, ?_⟩
  rcases h with h | ⟨g, cap, cur, hv, hg, hh, r⟩
  · exact .inl h
  · exact .inr ⟨g, cap, cur, hv, Nat.le_trans hb hg, hh, r⟩

theorem below_alloc {w w1 : World} (h : Below w.heap.size w w1) (o : Obj) : Below w.heap.size w (w1.alloc o) := h.alloc h.size o

end Go.Proofs.YtahdlejgjcjeoabGreatDoor

namespace Go.Proofs.YtahdlejgjcjeoabGreatDoor
open Go.RowKit

theorem isEmpty_size (s : ByteArray) : s.toList.isEmpty = true ↔ s.size = 0 := by
  rw [← decide_eq_emptyBytes, decide_eq_true_eq]
  simp
theorem isEmpty_size' (s : ByteArray) : s.toList.isEmpty = false ↔ ¬ s.size = 0 := by
  rw [← isEmpty_size]; simp
end Go.Proofs.YtahdlejgjcjeoabGreatDoor

namespace Go.Proofs.YtahdlejgjcjeoabGreatDoor
open Go.RowKit

/-- The cells of one rule of the table. -/
def ruleAt (w : World) (o : Nat) (ms mw n0 n1 me : Int) (reg : Bool) : Prop :=
  w.cell? ⟨1, o, none⟩ = some (.int .i64 ms) ∧ w.cell? ⟨1, o + 1, none⟩ = some (.int .i64 mw) ∧ w.cell? ⟨1, o + 2, none⟩ = some (.int .i64 n0) ∧ w.cell? ⟨1, o + 3, none⟩ = some (.int .i64 n1) ∧ w.cell? ⟨1, o + 4, none⟩ = some (.int .i64 me) ∧ w.cell? ⟨1, o + 5, none⟩ = some (.bool reg)
/-- THE TABLE IS LAID. -/
def RulesAt (w : World) : Prop := 1 < w.heap.size ∧ ruleAt w 0 0 5 1 2147483647 0 false ∧ ruleAt w 6 1 5 1 2147483647 0 false ∧ ruleAt w 12 0 0 0 0 8 false ∧ ruleAt w 18 1 0 0 0 8 false ∧ ruleAt w 24 0 5 1 2147483647 8 true

theorem ruleAt.below {B : Nat} {w w' : World} (hb : Below B w w') (h0 : 1 < B) {o : Nat} {a b c d e : Int} {r : Bool} (h : ruleAt w o a b c d e r) : ruleAt w' o a b c d e r := by
  obtain ⟨c0, c1, c2, c3, c4, c5⟩ := h
  refine ⟨?_, ?_, ?_, ?_, ?_, ?_⟩ <;> (rw [hb.cell (p := ⟨1, _, none⟩) h0]; assumption)
theorem RulesAt.below {w w' : World} (h : RulesAt w) {B : Nat} (hb : Below B w w') (h0 : 1 < B) : RulesAt w' := by
  obtain ⟨h1, r1, r2, r3, r4, r5⟩ := h
  exact ⟨Nat.lt_of_lt_of_le h1 hb.size, r1.below hb h0, r2.below hb h0, r3.below hb h0, r4.below hb h0, r5.below hb h0⟩

theorem kinds5 {k : Int} (h1 : 1 ≤ k) (h5 : k ≤ 5) : k = 1 ∨ k = 2 ∨ k = 3 ∨ k = 4 ∨ k = 5 := by omega

set_option maxHeartbeats 400000 in
theorem isRegister_any (k : Int) (w : World) (h : RulesAt w) (h1 : 1 ≤ k) (h5 : k ≤ 5) :
    Calls Tryz.prog 184 #[.int .i64 k] w fun e w' => e = .returned (.bool (k == 5)) ∧ w' = w := by
  obtain ⟨h0, r1, r2, r3, r4, r5⟩ := h
  rcases kinds5 h1 h5 with rfl | rfl | rfl | rfl | rfl
  · obtain ⟨c0, c1, c2, c3, c4, c5⟩ := r1
    clear r2 r3 r4 r5
    go_enter Tryz.func184, Tryz.ntmps184
    go_wp2
    go_ret
    exact ⟨rfl, rfl⟩
  · obtain ⟨c0, c1, c2, c3, c4, c5⟩ := r2
    clear r1 r3 r4 r5
    go_enter Tryz.func184, Tryz.ntmps184
    go_wp2
    go_ret
    exact ⟨rfl, rfl⟩
  · obtain ⟨c0, c1, c2, c3, c4, c5⟩ := r3
    clear r2 r1 r4 r5
    go_enter Tryz.func184, Tryz.ntmps184
    go_wp2
    go_ret
    exact ⟨rfl, rfl⟩
  · obtain ⟨c0, c1, c2, c3, c4, c5⟩ := r4
    clear r2 r3 r1 r5
    go_enter Tryz.func184, Tryz.ntmps184
    go_wp2
    go_ret
    exact ⟨rfl, rfl⟩
  · obtain ⟨c0, c1, c2, c3, c4, c5⟩ := r5
    clear r2 r3 r4 r1
    go_enter Tryz.func184, Tryz.ntmps184
    go_wp2
    go_ret
    exact ⟨rfl, rfl⟩

def wi (n a b : Int) : Bool := decide (a ≤ n) && decide (n ≤ b)
theorem wi_iff (n a b : Int) : wi n a b = true ↔ a ≤ n ∧ n ≤ b := by simp [wi]
theorem wi_false (n a b : Int) : wi n a b = false ↔ ¬ (a ≤ n ∧ n ≤ b) := by rw [← wi_iff]; simp
set_option maxHeartbeats 400000 in
theorem within_any (n a b : Int) (w : World) :
    Calls Tryz.prog 191 #[.int .i64 n, .int .i64 a, .int .i64 b] w fun e w' => e = .returned (.bool (wi n a b)) ∧ w' = w := by
  by_cases h : a ≤ n
  · go_enter Tryz.func191, Tryz.ntmps191
    go_wp2
    go_ret
    exact ⟨ret_bool (by simp [wi, h]), rfl⟩
  · go_enter Tryz.func191, Tryz.ntmps191
    go_wp2
    go_ret
    exact ⟨ret_bool (by simp [wi]; omega), rfl⟩

set_option maxHeartbeats 400000 in
theorem isType_any (k : Int) (w : World) :
    Calls Tryz.prog 153 #[.int .i64 k] w fun e w' => e = .returned (.bool (wi k 1 5)) ∧ w' = w := by
  go_enter Tryz.func153, Tryz.ntmps153
  go_wp2_with (go_at_call 191; refine (within_any _ _ _ _).mono ?_; rintro e w' ⟨rfl, rfl⟩)
  go_ret
  exact ⟨rfl, rfl⟩

end Go.Proofs.YtahdlejgjcjeoabGreatDoor
