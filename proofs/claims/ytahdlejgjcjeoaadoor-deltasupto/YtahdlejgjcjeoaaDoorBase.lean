/- The plain side: atoms as the program holds them, and what the document's functions compute, with no program. -/
import Derived.WalkKit
import Derived.WalkSpells
import Derived.WalkLawsBesides
import Derived.BigQuiet
import Derived.Deep.QuietTactic
import Derived.Deep.DeepMust
import Derived.Lib.Bytealg
import Derived.Deep.AppendLies
namespace Go.Proofs.YtahdlejgjcjeoaaDoor
open Go.RowKit

/-- An atom's six fields, in their order. -/
structure At where
  ty : Int
  key : ByteArray
  side : Int
  who : Int
  elem : ByteArray
  n : Int

/-- Its six cells. -/
def enc (a : At) : List Value := [.int .i64 a.ty, .string a.key, .int .i64 a.side, .int .i64 a.who, .string a.elem, .int .i64 a.n]

/-- As a value. -/
def At.val (a : At) : Value := .agg #[.int .i64 a.ty, .string a.key, .int .i64 a.side, .int .i64 a.who, .string a.elem, .int .i64 a.n]

def flat (l : List At) : List Value := l.flatMap enc

def sgn (n : Int) : Int := if n < 0 then -1 else if 0 < n then 1 else 0

/-- P3: an atom that may be. -/
def mayB (a : At) : Bool := decide (
  1 ≤ a.key.size ∧ a.key.size ≤ 4 ∧
  ((a.ty = 1 ∧ 0 ≤ a.who ∧ a.who ≤ 5 ∧ 1 ≤ a.n ∧ a.n ≤ 2147483647 ∧ a.side = 0 ∧ a.elem.size = 0) ∨
   (a.ty = 2 ∧ 0 ≤ a.who ∧ a.who ≤ 5 ∧ 1 ≤ a.n ∧ a.n ≤ 2147483647 ∧ (a.side = 0 ∨ a.side = 1) ∧ a.elem.size = 0) ∨
   (a.ty = 3 ∧ a.elem.size ≤ 8 ∧ a.side = 0 ∧ a.who = 0 ∧ a.n = 0) ∨
   (a.ty = 4 ∧ a.elem.size ≤ 8 ∧ (a.side = 0 ∨ a.side = 1) ∧ a.who = 0 ∧ a.n = 0) ∨
   (a.ty = 5 ∧ 0 ≤ a.who ∧ a.who ≤ 5 ∧ 1 ≤ a.n ∧ a.n ≤ 2147483647 ∧ a.elem.size ≤ 8 ∧ a.side = 0)))

/-- Texts are compared byte by byte. -/
def ordS (a b : ByteArray) : Int := Lib.compareBytes a.data.toList b.data.toList

/-- Numbers that can be subtracted, texts that can be. -/
def fits (a : At) : Prop := -4294967296 ≤ a.ty ∧ a.ty ≤ 4294967296 ∧ -4294967296 ≤ a.side ∧ a.side ≤ 4294967296 ∧ -4294967296 ≤ a.who ∧ a.who ≤ 4294967296 ∧ -4294967296 ≤ a.n ∧ a.n ≤ 4294967296 ∧ a.key.size ≤ 4096 ∧ a.elem.size ≤ 4096

/-- Numbers as an int holds them. -/
def wide (a : At) : Prop := (-9223372036854775808 ≤ a.ty ∧ a.ty ≤ 9223372036854775807) ∧ (-9223372036854775808 ≤ a.side ∧ a.side ≤ 9223372036854775807) ∧ (-9223372036854775808 ≤ a.who ∧ a.who ≤ 9223372036854775807) ∧ (-9223372036854775808 ≤ a.n ∧ a.n ≤ 9223372036854775807)

theorem fits_of_may {a : At} (h : mayB a = true) : fits a := by
  simp only [mayB, decide_eq_true_eq] at h
  unfold fits
  omega

/-- The order in which slots are told; 0: the same slot. -/
def plc (a b : At) : Int :=
  if a.ty ≠ b.ty then sgn (a.ty - b.ty)
  else if ordS a.key b.key ≠ 0 ∨ a.ty = 5 then ordS a.key b.key
  else if a.side ≠ b.side then sgn (a.side - b.side)
  else if a.who ≠ b.who then sgn (a.who - b.who)
  else ordS a.elem b.elem

/-- Of two atoms of one slot: the grades. -/
def grd (a b : At) : Int :=
  if a.n ≠ b.n then sgn (a.n - b.n)
  else if a.ty ≠ 5 then 0
  else if a.who ≠ b.who then sgn (a.who - b.who)
  else ordS a.elem b.elem

theorem drewN_more {w v : World} {q : Nat} (h : ∃ q, v = w.drewN q) : ∃ p, v.drewN q = w.drewN p := by
  obtain ⟨p, rfl⟩ := h
  exact ⟨p + q, by simp [World.drewN, Nat.add_assoc]⟩
theorem drewN_all {w v : World} (h : ∃ q, v = w.drewN q) : ∃ q, v = w.drewN q := h

theorem ret_int {k : IntKind} {a b : Int} (h : a = b) : Ending.returned (.int k a) = .returned (.int k b) := by rw [h]
theorem ret_bool {a b : Bool} (h : a = b) : Ending.returned (.bool a) = .returned (.bool b) := by rw [h]

theorem compareBytes_take (l r : List UInt8) : ∀ k, k ≤ l.length → k ≤ r.length → l.take k = r.take k → Lib.compareBytes l r = Lib.compareBytes (l.drop k) (r.drop k) := by
  intro k
  induction k generalizing l r with
  | zero => intros; simp
  | succ k ih =>
    intro h1 h2 h
    cases l with
    | nil => simp at h1
    | cons x l =>
      cases r with
      | nil => simp at h2
      | cons y r =>
        simp at h h1 h2
        obtain ⟨rfl, h⟩ := h
        have hxx : ¬ x < x := by simp
        simp [Lib.compareBytes, hxx]
        exact ih l r h1 h2 h

theorem ordS_lt (a b : ByteArray) (k : Nat) (h1 : k < a.size) (h2 : k < b.size) (h : a.data.toList.take k = b.data.toList.take k) (hc : (a[k].toNat : Int) < b[k].toNat) : ordS a b = -1 := by
  unfold ordS
  rw [compareBytes_take _ _ k (by simpa using Nat.le_of_lt h1) (by simpa using Nat.le_of_lt h2) h]
  rw [List.drop_eq_getElem_cons (l := a.data.toList) (i := k) (by simpa using h1), List.drop_eq_getElem_cons (l := b.data.toList) (i := k) (by simpa using h2)]
  have : a.data.toList[k]'(by simpa using h1) = a[k] := rfl
  have : b.data.toList[k]'(by simpa using h2) = b[k] := rfl
  have hl : a[k] < b[k] := by rw [UInt8.lt_iff_toNat_lt]; omega
  simp_all [Lib.compareBytes]

theorem ordS_gt (a b : ByteArray) (k : Nat) (h1 : k < a.size) (h2 : k < b.size) (h : a.data.toList.take k = b.data.toList.take k) (hc : (b[k].toNat : Int) < a[k].toNat) : ordS a b = 1 := by
  unfold ordS
  rw [compareBytes_take _ _ k (by simpa using Nat.le_of_lt h1) (by simpa using Nat.le_of_lt h2) h]
  rw [List.drop_eq_getElem_cons (l := a.data.toList) (i := k) (by simpa using h1), List.drop_eq_getElem_cons (l := b.data.toList) (i := k) (by simpa using h2)]
  have : a.data.toList[k]'(by simpa using h1) = a[k] := rfl
  have : b.data.toList[k]'(by simpa using h2) = b[k] := rfl
  have hl : b[k] < a[k] := by rw [UInt8.lt_iff_toNat_lt]; omega
  have hn : ¬ a[k] < b[k] := by rw [UInt8.lt_iff_toNat_lt]; omega
  simp_all [Lib.compareBytes]

theorem take_step (a b : ByteArray) (k : Nat) (h1 : k < a.size) (h2 : k < b.size) (h : a.data.toList.take k = b.data.toList.take k) (c1 : (b[k].toNat : Int) ≤ a[k].toNat) (c2 : (a[k].toNat : Int) ≤ b[k].toNat) :
    a.data.toList.take (k + 1) = b.data.toList.take (k + 1) := by
  rw [List.take_succ_eq_append_getElem (by simpa using h1), List.take_succ_eq_append_getElem (by simpa using h2), h]
  have : a.data.toList[k]'(by simpa using h1) = a[k] := rfl
  have : b.data.toList[k]'(by simpa using h2) = b[k] := rfl
  have : a[k] = b[k] := UInt8.toNat_inj.1 (by omega)
  simp_all

theorem ordS_end (a b : ByteArray) (k : Nat) (h1 : k ≤ a.size) (h2 : k ≤ b.size) (h : a.data.toList.take k = b.data.toList.take k) (he : a.size = k ∨ b.size = k) : ordS a b = sgn ((a.size : Int) - b.size) := by
  unfold ordS
  rw [compareBytes_take _ _ k (by simpa using h1) (by simpa using h2) h]
  have la : a.data.toList.length = a.size := by simp
  have lb : b.data.toList.length = b.size := by simp
  rcases he with he | he
  · rw [List.drop_of_length_le (by omega : a.data.toList.length ≤ k)]
    by_cases hb : b.size = k
    · rw [List.drop_of_length_le (by omega : b.data.toList.length ≤ k)]
      simp [Lib.compareBytes, sgn, he, hb]
    · rw [List.drop_eq_getElem_cons (l := b.data.toList) (i := k) (by omega)]
      simp [Lib.compareBytes, sgn]
      omega
  · rw [List.drop_of_length_le (l := b.data.toList) (by omega : b.data.toList.length ≤ k)]
    by_cases hb : a.size = k
    · rw [List.drop_of_length_le (by omega : a.data.toList.length ≤ k)]
      simp [Lib.compareBytes, sgn, he, hb]
    · rw [List.drop_eq_getElem_cons (l := a.data.toList) (i := k) (by omega)]
      simp [Lib.compareBytes, sgn]
      rw [if_neg (by omega), if_pos (by omega)]

/-- The six cells of an atom, from o on. -/
def cellsAt (w : World) (b o : Nat) (a : At) : Prop :=
  w.cell? ⟨b, o, none⟩ = some (.int .i64 a.ty) ∧ w.cell? ⟨b, o + 1, none⟩ = some (.string a.key) ∧ w.cell? ⟨b, o + 2, none⟩ = some (.int .i64 a.side) ∧
  w.cell? ⟨b, o + 3, none⟩ = some (.int .i64 a.who) ∧ w.cell? ⟨b, o + 4, none⟩ = some (.string a.elem) ∧ w.cell? ⟨b, o + 5, none⟩ = some (.int .i64 a.n)

/-- A row of atoms in memory. -/
def RowAt (w : World) (b off : Nat) (l : List At) : Prop := ∀ (k : Nat) (h : k < l.length), cellsAt w b (off + k * 6) (l[k])

theorem cellsAt_below {B : Nat} {w w' : World} (h : Below B w w') {b o : Nat} {a : At} (hb : b < B) (hr : cellsAt w b o a) : cellsAt w' b o a := by
  obtain ⟨c0, c1, c2, c3, c4, c5⟩ := hr
  refine ⟨?_, ?_, ?_, ?_, ?_, ?_⟩ <;> (rw [h.cell (p := ⟨b, _, none⟩) hb]; assumption)

theorem RowAt.below {B : Nat} {w w' : World} {b off : Nat} {l : List At} (hr : RowAt w b off l) (h : Below B w w') (hb : b < B) : RowAt w' b off l :=
  fun k hk => cellsAt_below h hb (hr k hk)

theorem all_snoc {α : Type} (p : α → Bool) (l : List α) (k : Nat) (h : k < l.length) : (l.take (k + 1)).all p = ((l.take k).all p && p (l[k])) := by
  rw [List.take_succ_eq_append_getElem h, List.all_append]; simp only [List.all_cons, List.all_nil, Bool.and_true]

/-- Texts that a length can tell. -/
def short (a : At) : Prop := a.key.size ≤ 281474976710656 ∧ a.elem.size ≤ 281474976710656

end Go.Proofs.YtahdlejgjcjeoaaDoor
