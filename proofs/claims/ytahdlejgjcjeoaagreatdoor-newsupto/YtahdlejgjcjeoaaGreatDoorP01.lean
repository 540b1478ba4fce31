/- Walk of the laws' sameAtoms, where both lists are one. -/
import Derived.Test.YtahdlejgjcjeoaaGreatDoorProg
import Derived.Conc.MuLone
import Derived.KernelRfl
import Derived.WalkKit
import Derived.WalkSpells
import Derived.WalkLawsBesides
import Derived.BigQuiet
import Derived.Deep.QuietTactic
import Derived.Deep.DeepMust
import Derived.Lib.Bytealg
import Derived.Deep.AppendLies
import Derived.Deep.Light
import Derived.Laws.CopyOwn
import Derived.Deep.RegionHeld3
namespace Go.Proofs.YtahdlejgjcjeoaaGreatDoor
abbrev mu : Go.Conc.Locks.MuLink := { lock := 50, unlock := 51, ilock := 99, iunlock := 100, lockSlow := 149, unlockSlow := 152, disable := 145, enable := 147, acquire := 148, relMerge := 150, cas32 := 146, add32 := 151, tMutex := 110, tIMutex := 108, tPMutex := 166, tPIMutex := 209, tPI32 := 211, tUP := 213, tNoCopy := 105, tU32 := 106 }
theorem muLib : Go.Conc.Locks.MuLib Tryz.prog mu :=
  ⟨Tryz.func50, Tryz.func51, Tryz.func99, Tryz.func100, Tryz.func145, Tryz.func147, Tryz.func148, Tryz.func150, Tryz.func146, Tryz.func151,
   Tryz.underlying108, Tryz.runUnderlying108, Tryz.sizeOf108, Tryz.isAgg108, Tryz.zeroValue108, Tryz.underlying110, Tryz.runUnderlying110, Tryz.sizeOf110, Tryz.isAgg110, Tryz.zeroValue110, Tryz.underlying166, Tryz.runUnderlying166, Tryz.sizeOf166, Tryz.isAgg166, Tryz.zeroValue166, Tryz.underlying209, Tryz.runUnderlying209, Tryz.sizeOf209, Tryz.isAgg209, Tryz.zeroValue209, Tryz.underlying211, Tryz.runUnderlying211, Tryz.sizeOf211, Tryz.isAgg211, Tryz.zeroValue211, Tryz.underlying213, Tryz.runUnderlying213, Tryz.sizeOf213, Tryz.isAgg213, Tryz.zeroValue213, Tryz.underlying105, Tryz.runUnderlying105, Tryz.sizeOf105, Tryz.isAgg105, Tryz.zeroValue105, Tryz.underlying21, Tryz.runUnderlying21, Tryz.sizeOf21, Tryz.isAgg21, Tryz.zeroValue21, (by kernel_rfl)⟩
end Go.Proofs.YtahdlejgjcjeoaaGreatDoor

namespace Go.Proofs.YtahdlejgjcjeoaaGreatDoor
open Go.RowKit

/-- An atom's six fields, in their order. -/
structure At where
  ty : Int
  key : ByteArray
  side : Int
  who : Int
  elem : ByteArray
  n : Int

/-- Its six cells. -/
def enc (a : At) : List Value := [.int .i64 a.ty, .string a.key, .int .i64 a.side, .int .i64 a.who, .string a.elem, .int .i64 a.n]

/-- As a value. -/
def At.val (a : At) : Value := .agg #[.int .i64 a.ty, .string a.key, .int .i64 a.side, .int .i64 a.who, .string a.elem, .int .i64 a.n]

def flat (l : List At) : List Value := l.flatMap enc

def sgn (n : Int) : Int := if n < 0 then -1 else if 0 < n then 1 else 0

/-- P3: an atom that may be. -/
def mayB (a : At) : Bool := decide (
  1 ≤ a.key.size ∧ a.key.size ≤ 4 ∧
  ((a.ty = 1 ∧ 0 ≤ a.who ∧ a.who ≤ 5 ∧ 1 ≤ a.n ∧ a.n ≤ 2147483647 ∧ a.side = 0 ∧ a.elem.size = 0) ∨
   (a.ty = 2 ∧ 0 ≤ a.who ∧ a.who ≤ 5 ∧ 1 ≤ a.n ∧ a.n ≤ 2147483647 ∧ (a.side = 0 ∨ a.side = 1) ∧ a.elem.size = 0) ∨
   (a.ty = 3 ∧ a.elem.size ≤ 8 ∧ a.side = 0 ∧ a.who = 0 ∧ a.n = 0) ∨
   (a.ty = 4 ∧ a.elem.size ≤ 8 ∧ (a.side = 0 ∨ a.side = 1) ∧ a.who = 0 ∧ a.n = 0) ∨
   (a.ty = 5 ∧ 0 ≤ a.who ∧ a.who ≤ 5 ∧ 1 ≤ a.n ∧ a.n ≤ 2147483647 ∧ a.elem.size ≤ 8 ∧ a.side = 0)))

/-- Texts are compared byte by byte. -/
def ordS (a b : ByteArray) : Int := Lib.compareBytes a.data.toList b.data.toList

/-- Numbers that can be subtracted, texts that can be. -/
def fits (a : At) : Prop := -4294967296 ≤ a.ty ∧ a.ty ≤ 4294967296 ∧ -4294967296 ≤ a.side ∧ a.side ≤ 4294967296 ∧ -4294967296 ≤ a.who ∧ a.who ≤ 4294967296 ∧ -4294967296 ≤ a.n ∧ a.n ≤ 4294967296 ∧ a.key.size ≤ 4096 ∧ a.elem.size ≤ 4096

/-- Numbers as an int holds them. -/
def wide (a : At) : Prop := (-9223372036854775808 ≤ a.ty ∧ a.ty ≤ 9223372036854775807) ∧ (-9223372036854775808 ≤ a.side ∧ a.side ≤ 9223372036854775807) ∧ (-9223372036854775808 ≤ a.who ∧ a.who ≤ 9223372036854775807) ∧ (-9223372036854775808 ≤ a.n ∧ a.n ≤ 9223372036854775807)

theorem fits_of_may {a : At} (h : mayB a = true) : fits a := by
  simp only [mayB, decide_eq_true_eq] at h
  unfold fits
  omega

/-- The order in which slots are told; 0: the same slot. -/
def plc (a b : At) : Int :=
  if a.ty ≠ b.ty then sgn (a.ty - b.ty)
  else if ordS a.key b.key ≠ 0 ∨ a.ty = 5 then ordS a.key b.key
  else if a.side ≠ b.side then sgn (a.side - b.side)
  else if a.who ≠ b.who then sgn (a.who - b.who)
  else ordS a.elem b.elem

/-- Of two atoms of one slot: the grades. -/
def grd (a b : At) : Int :=
  if a.n ≠ b.n then sgn (a.n - b.n)
  else if a.ty ≠ 5 then 0
  else if a.who ≠ b.who then sgn (a.who - b.who)
  else ordS a.elem b.elem

theorem drewN_more {w v : World} {q : Nat} (h : ∃ q, v = w.drewN q) : ∃ p, v.drewN q = w.drewN p := by
  obtain ⟨p, rfl⟩ := h
  exact ⟨p + q, by simp [World.drewN, Nat.add_assoc]⟩
theorem drewN_all {w v : World} (h : ∃ q, v = w.drewN q) : ∃ q, v = w.drewN q := h

theorem ret_int {k : IntKind} {a b : Int} (h : a = b) : Ending.returned (.int k a) = .returned (.int k b) := by rw [h]
theorem ret_bool {a b : Bool} (h : a = b) : Ending.returned (.bool a) = .returned (.bool b) := by rw [h]

theorem compareBytes_take (l r : List UInt8) : ∀ k, k ≤ l.length → k ≤ r.length → l.take k = r.take k → Lib.compareBytes l r = Lib.compareBytes (l.drop k) (r.drop k) := by
  intro k
  induction k generalizing l r with
  | zero => intros; simp
  | succ k ih =>
    intro h1 h2 h
    cases l with
    | nil => simp at h1
    | cons x l =>
      cases r with
      | nil => simp at h2
      | cons y r =>
        simp at h h1 h2
        obtain ⟨rfl, h⟩ := h
        have hxx : ¬ x < x := by simp
        simp [Lib.compareBytes, hxx]
        exact ih l r h1 h2 h

theorem ordS_lt (a b : ByteArray) (k : Nat) (h1 : k < a.size) (h2 : k < b.size) (h : a.data.toList.take k = b.data.toList.take k) (hc : (a[k].toNat : Int) < b[k].toNat) : ordS a b = -1 := by
  unfold ordS
  rw [compareBytes_take _ _ k (by simpa using Nat.le_of_lt h1) (by simpa using Nat.le_of_lt h2) h]
  rw [List.drop_eq_getElem_cons (l := a.data.toList) (i := k) (by simpa using h1), List.drop_eq_getElem_cons (l := b.data.toList) (i := k) (by simpa using h2)]
  have : a.data.toList[k]'(by simpa using h1) = a[k] := rfl
  have : b.data.toList[k]'(by simpa using h2) = b[k] := rfl
  have hl : a[k] < b[k] := by rw [UInt8.lt_iff_toNat_lt]; omega
  simp_all [Lib.compareBytes]

theorem ordS_gt (a b : ByteArray) (k : Nat) (h1 : k < a.size) (h2 : k < b.size) (h : a.data.toList.take k = b.data.toList.take k) (hc : (b[k].toNat : Int) < a[k].toNat) : ordS a b = 1 := by
  unfold ordS
  rw [compareBytes_take _ _ k (by simpa using Nat.le_of_lt h1) (by simpa using Nat.le_of_lt h2) h]
  rw [List.drop_eq_getElem_cons (l := a.data.toList) (i := k) (by simpa using h1), List.drop_eq_getElem_cons (l := b.data.toList) (i := k) (by simpa using h2)]
  have : a.data.toList[k]'(by simpa using h1) = a[k] := rfl
  have : b.data.toList[k]'(by simpa using h2) = b[k] := rfl
  have hl : b[k] < a[k] := by rw [UInt8.lt_iff_toNat_lt]; omega
  have hn : ¬ a[k] < b[k] := by rw [UInt8.lt_iff_toNat_lt]; omega
  simp_all [Lib.compareBytes]

theorem take_step (a b : ByteArray) (k : Nat) (h1 : k < a.size) (h2 : k < b.size) (h : a.data.toList.take k = b.data.toList.take k) (c1 : (b[k].toNat : Int) ≤ a[k].toNat) (c2 : (a[k].toNat : Int) ≤ b[k].toNat) :
    a.data.toList.take (k + 1) = b.data.toList.take (k + 1) := by
  rw [List.take_succ_eq_append_getElem (by simpa using h1), List.take_succ_eq_append_getElem (by simpa using h2), h]
  have : a.data.toList[k]'(by simpa using h1) = a[k] := rfl
  have : b.data.toList[k]'(by simpa using h2) = b[k] := rfl
  have : a[k] = b[k] := UInt8.toNat_inj.1 (by omega)
  simp_all

theorem ordS_end (a b : ByteArray) (k : Nat) (h1 : k ≤ a.size) (h2 : k ≤ b.size) (h : a.data.toList.take k = b.data.toList.take k) (he : a.size = k ∨ b.size = k) : ordS a b = sgn ((a.size : Int) - b.size) := by
  unfold ordS
  rw [compareBytes_take _ _ k (by simpa using h1) (by simpa using h2) h]
  have la : a.data.toList.length = a.size := by simp
  have lb : b.data.toList.length = b.size := by simp
  rcases he with he | he
  · rw [List.drop_of_length_le (by omega : a.data.toList.length ≤ k)]
    by_cases hb : b.size = k
    · rw [List.drop_of_length_le (by omega : b.data.toList.length ≤ k)]
      simp [Lib.compareBytes, sgn, he, hb]
    · rw [List.drop_eq_getElem_cons (l := b.data.toList) (i := k) (by omega)]
      simp [Lib.compareBytes, sgn]
      omega
  · rw [List.drop_of_length_le (l := b.data.toList) (by omega : b.data.toList.length ≤ k)]
    by_cases hb : a.size = k
    · rw [List.drop_of_length_le (by omega : a.data.toList.length ≤ k)]
      simp [Lib.compareBytes, sgn, he, hb]
    · rw [List.drop_eq_getElem_cons (l := a.data.toList) (i := k) (by omega)]
      simp [Lib.compareBytes, sgn]
      rw [if_neg (by omega), if_pos (by omega)]

/-- The six cells of an atom, from o on. -/
def cellsAt (w : World) (b o : Nat) (a : At) : Prop :=
  w.cell? ⟨b, o, none⟩ = some (.int .i64 a.ty) ∧ w.cell? ⟨b, o + 1, none⟩ = some (.string a.key) ∧ w.cell? ⟨b, o + 2, none⟩ = some (.int .i64 a.side) ∧
  w.cell? ⟨b, o + 3, none⟩ = some (.int .i64 a.who) ∧ w.cell? ⟨b, o + 4, none⟩ = some (.string a.elem) ∧ w.cell? ⟨b, o + 5, none⟩ = some (.int .i64 a.n)

/-- A row of atoms in memory. -/
def RowAt (w : World) (b off : Nat) (l : List At) : Prop := ∀ (k : Nat) (h : k < l.length), cellsAt w b (off + k * 6) (l[k])

theorem cellsAt_below {B : Nat} {w w' : World} (h : Below B w w') {b o : Nat} {a : At} (hb : b < B) (hr : cellsAt w b o a) : cellsAt w' b o a := by
  obtain ⟨c0, c1, c2, c3, c4, c5⟩ := hr
  refine ⟨?_, ?_, ?_, ?_, ?_, ?_⟩ <;> (rw [h.cell (p := ⟨b, _, none⟩) hb]; assumption)

theorem RowAt.below {B : Nat} {w w' : World} {b off : Nat} {l : List At} (hr : RowAt w b off l) (h : Below B w w') (hb : b < B) : RowAt w' b off l :=
  fun k hk => cellsAt_below h hb (hr k hk)

theorem all_snoc {α : Type} (p : α → Bool) (l : List α) (k : Nat) (h : k < l.length) : (l.take (k + 1)).all p = ((l.take k).all p && p (l[k])) := by
  rw [List.take_succ_eq_append_getElem h, List.all_append]; simp only [List.all_cons, List.all_nil, Bool.and_true]

/-- Texts that a length can tell. -/
def short (a : At) : Prop := a.key.size ≤ 281474976710656 ∧ a.elem.size ≤ 281474976710656

end Go.Proofs.YtahdlejgjcjeoaaGreatDoor

namespace Go.Proofs.YtahdlejgjcjeoaaGreatDoor
open Go.RowKit

def zAt : At := ⟨0, ByteArray.empty, 0, 0, ByteArray.empty, 0⟩
/-- The k-th atom of a list. -/
def nth (l : List At) (k : Nat) : At := l.getD k zAt
theorem nth_eq (l : List At) (k : Nat) (h : k < l.length) : nth l k = l[k] := by simp [nth, h]
theorem nth_mem (l : List At) (k : Nat) (h : k < l.length) : nth l k ∈ l := by rw [nth_eq l k h]; exact List.getElem_mem h
theorem RowAt.nth {w : World} {b off : Nat} {l : List At} (hr : RowAt w b off l) {k : Nat} (h : k < l.length) : cellsAt w b (off + k * 6) (nth l k) := by
  rw [nth_eq l k h]; exact hr k h

/-- A slice value that reads as a list of atoms (a nil one reads as none). -/
def SliceOf (w : World) (v : Value) (l : List At) : Prop :=
  ∃ ad cap, v = .slice ad l.length cap ∧ l.length ≤ cap ∧ (0 < l.length → ∃ b off, ad = some ⟨b, off, none⟩ ∧ b < w.heap.size ∧ RowAt w b off l)

/-- x speaks against y (of which x stands ahead: ahead). -/
def bad (x y : At) (ahead : Bool) : Bool := plc x y == 0 && (decide (0 < grd x y) || (grd x y == 0 && ahead))
def cntTo (l : List At) (i k : Nat) : Bool := (List.range k).all fun j => !bad (nth l j) (nth l i) (decide (j < i))
theorem cntTo_succ (l : List At) (i k : Nat) : cntTo l i (k + 1) = (cntTo l i k && !bad (nth l k) (nth l i) (decide (k < i))) := by
  simp [cntTo, List.range_succ]
theorem cntTo_stop (l : List At) (i k n : Nat) (h : k < n) (hb : bad (nth l k) (nth l i) (decide (k < i)) = true) : cntTo l i n = false := by
  unfold cntTo
  rw [List.all_eq_false]
  exact ⟨k, List.mem_range.2 h, by simp [hb]⟩

theorem bcell {W w1 : World} (hb : Below W.heap.size W w1) : (∀ b o, b < W.heap.size → w1.cell? ⟨b, o, none⟩ = W.cell? ⟨b, o, none⟩) ∧ (∀ b o, b < W.heap.size → w1.frozen? ⟨b, o, none⟩ = W.frozen? ⟨b, o, none⟩) :=
  ⟨fun b o h => hb.cell (p := ⟨b, o, none⟩) h, fun b o h => hb.frozen (p := ⟨b, o, none⟩) h⟩

theorem flat_get (l : List At) (k j : Nat) (h : k < l.length) (hj : j < 6) : (flat l)[k * 6 + j]? = (enc l[k])[j]? := by
  induction l generalizing k with
  | nil => simp at h
  | cons a l ih =>
    have hl : (enc a).length = 6 := rfl
    cases k with
    | zero => simp [flat, List.getElem?_append_left (by rw [hl]; omega : j < (enc a).length)]
    | succ k =>
      have := ih k (by simpa using h)
      simp only [flat, List.flatMap_cons, List.getElem_cons_succ]
      rw [List.getElem?_append_right (by rw [hl]; omega), hl, show (k + 1) * 6 + j - 6 = k * 6 + j by omega]
      exact this

theorem flat_length (l : List At) : (flat l).length = l.length * 6 := by
  induction l with
  | nil => rfl
  | cons a l ih => simp only [flat, List.flatMap_cons, List.length_append, List.length_cons]; rw [show (List.flatMap enc l) = flat l from rfl, ih, show (enc a).length = 6 from rfl]; omega

theorem flat_snoc (l : List At) (a : At) : flat (l ++ [a]) = flat l ++ enc a := by simp [flat]

theorem enc_oneCell (a : At) : ∀ u ∈ enc a, u.oneCell' = true := by
  intro u hu
  simp only [enc, List.mem_cons, List.not_mem_nil, or_false] at hu
  rcases hu with rfl | rfl | rfl | rfl | rfl | rfl <;> rfl

/-- A block whose first cells are a list's: a row. -/
theorem rowAt_of_block {w : World} {g : Nat} {cur : Array Value} {e : TypeId} {fz : Nat × Nat} {l : List At} (hb : w.heap[g]? = some (.cells cur e fz)) (h : cur.toList.take (l.length * 6) = flat l) : RowAt w g 0 l := by
  intro k hk
  have hc : ∀ j, j < 6 → w.cell? ⟨g, 0 + k * 6 + j, none⟩ = (enc l[k])[j]? := by
    intro j hj
    have h1 : w.cell? ⟨g, 0 + k * 6 + j, none⟩ = cur[0 + k * 6 + j]? := by simp [World.cell?, hb]
    rw [h1, ← flat_get l k j hk hj, ← h, List.getElem?_take, if_pos (by omega), Nat.zero_add]
    simp
  exact ⟨by have := hc 0 (by omega); simpa [enc] using this, by have := hc 1 (by omega); simpa [enc] using this, by have := hc 2 (by omega); simpa [enc] using this, by have := hc 3 (by omega); simpa [enc] using this, by have := hc 4 (by omega); simpa [enc] using this, by have := hc 5 (by omega); simpa [enc] using this⟩

theorem sliceOf_nil (w : World) : SliceOf w (.slice none 0 0) [] := ⟨none, 0, rfl, Nat.le_refl _, fun h => by simp at h⟩

theorem sliceOf_owns {w : World} {base : Nat} {e : TypeId} {v : Value} {l : List At} {n : Nat} (hn : n = l.length) (h : w.ownsRow base e 6 v n (flat l)) : SliceOf w v l := by
  subst hn
  obtain ⟨_, h⟩ := h
  rcases h with ⟨rfl, h0⟩ | ⟨g, cap, cur, rfl, hg, hb, h1, h2, h3, h4⟩
  · obtain rfl := List.length_eq_zero_iff.1 h0
    exact sliceOf_nil w
  · exact ⟨_, cap, rfl, h1, fun _ => ⟨g, 0, rfl, (Array.getElem?_eq_some_iff.1 hb).1, rowAt_of_block hb h4⟩⟩

theorem SliceOf.below {w w' : World} {v : Value} {l : List At} (h : SliceOf w v l) (hb : Below w.heap.size w w') : SliceOf w' v l := by
  obtain ⟨ad, cap, rfl, hcap, h⟩ := h
  refine ⟨ad, cap, rfl, hcap, fun h0 => ?_⟩
  obtain ⟨b, off, rfl, hlt, hrow⟩ := h h0
  exact ⟨b, off, rfl, Nat.lt_of_lt_of_le hlt hb.size, hrow.below hb hlt⟩

/-- The cells of an atom that was laid in a block of its own. -/
theorem news_at (w : World) (x : At) (e : TypeId) : ∀ j u, (enc x)[j]? = some u → (w.alloc (.cells #[.int .i64 x.ty, .string x.key, .int .i64 x.side, .int .i64 x.who, .string x.elem, .int .i64 x.n] e)).cell? ((⟨w.heap.size, 0, none⟩ : Addr).add j) = some u :=
  fun j u hu => World.news_of_block (heap_alloc_new w _) j u hu

theorem owns_base {w : World} {base : Nat} {e : TypeId} {s n : Nat} {v : Value} {xs : List Value} (h : w.ownsRow base e s v n xs) : ∀ q, v.ownBlock = some q → base ≤ q := by
  intro q hq
  obtain ⟨_, h⟩ := h
  rcases h with ⟨rfl, _⟩ | ⟨g, cap, cur, rfl, hg, _⟩
  · simp [Value.ownBlock] at hq
  · simp [Value.ownBlock] at hq; omega

theorem owns_below {w w' : World} {base : Nat} {e : TypeId} {s n : Nat} {v : Value} {xs : List Value} (h : w.ownsRow base e s v n xs) (hb : Below w.heap.size w w') : w'.ownsRow base e s v n xs := by
  obtain ⟨h0, h⟩ := h
  refine ⟨h0, ?_⟩
  rcases h with h | ⟨g, cap, cur, hv, hg, hh, r⟩
  · exact .inl h
  · exact .inr ⟨g, cap, cur, hv, hg, by rw [hb.block g (Array.getElem?_eq_some_iff.1 hh).1]; exact hh, r⟩

/-- A slice's length, for a loop's measure. -/
def lenOf : Value → Nat | .slice _ n _ => n | _ => 0

theorem owns_mono {w : World} {base base' : Nat} {e : TypeId} {s n : Nat} {v : Value} {xs : List Value} (h : w.ownsRow base e s v n xs) (hb : base' ≤ base) : w.ownsRow base' e s v n xs := by
  obtain ⟨h0, h⟩ := h
  refine ⟨h0, ?_⟩
  rcases h with h | ⟨g, cap, cur, hv, hg, hh, r⟩
  · exact .inl h
  · exact .inr ⟨g, cap, cur, hv, Nat.le_trans hb hg, hh, r⟩

theorem below_alloc {w w1 : World} (h : Below w.heap.size w w1) (o : Obj) : Below w.heap.size w (w1.alloc o) := h.alloc h.size o

end Go.Proofs.YtahdlejgjcjeoaaGreatDoor

namespace Go.Proofs.YtahdlejgjcjeoaaGreatDoor
open Go.RowKit

set_option maxRecDepth 100000 in
set_option maxHeartbeats 1000000 in
theorem sameAtoms_any (v1 v2 : Value) (l : List At) (w : World) (h1 : SliceOf w v1 l) (h2 : SliceOf w v2 l) (hlen : l.length ≤ 281474976710656) :
    Calls Tryz.prog 91 #[v1, v2] w fun e w' => e = .returned (.bool true) ∧ Below w.heap.size w w' := by
  obtain ⟨ad1, cap1, rfl, hc1, H1⟩ := h1
  obtain ⟨ad2, cap2, rfl, hc2, H2⟩ := h2
  have HR1 : Hid (0 < l.length → ∃ b off, ad1 = some ⟨b, off, none⟩ ∧ b < w.heap.size ∧ RowAt w b off l) := H1
  have HR2 : Hid (0 < l.length → ∃ b off, ad2 = some ⟨b, off, none⟩ ∧ b < w.heap.size ∧ RowAt w b off l) := H2
  clear H1 H2
  go_enter Tryz.func91, Tryz.ntmps91
  go_wp2
  go_loopw [5] (fun j wr => ∃ k : Nat, k ≤ l.length ∧ j = .int .i64 k ∧ Below w.heap.size w wr) (fun j _ => l.length - (intOf j).toNat)
  case atStart => exact ⟨0, Nat.zero_le _, rfl, Below.refl _ _⟩
  case round =>
    obtain ⟨k, hk, rfl, hbw⟩ := hrel
    by_cases hl : k < l.length
    · obtain ⟨b1, off1, rfl, hb1, hrow1⟩ := HR1.out (by omega)
      obtain ⟨b2, off2, rfl, hb2, hrow2⟩ := HR2.out (by omega)
      obtain ⟨c0, c1, c2, c3, c4, c5⟩ := (hrow1.below hbw hb1) k hl
      obtain ⟨d0, d1, d2, d3, d4, d5⟩ := (hrow2.below hbw hb2) k hl
      clear hrow1 hrow2 HR1 HR2
      generalize l[k] = x at *
      have q1 : (0 : Int) ≤ (k : Int) := by omega
      have q2 : (k : Int) < (l.length : Int) := by omega
      go_wp2
      go_quiet (fail)
      go_wp2
      exact ⟨⟨k + 1, by omega, by go_num, below_drewN hbw _⟩, by simp [intOf]; omega⟩
    · go_wp2
      go_ret
      exact ⟨rfl, hbw⟩

theorem run_copy_row6 {P : Program} (w : World) (dT sT ty elem : TypeId) (g o dLen dCap : Nat) (a : Addr) (sLen sCap : Nat) (cur : Array Value) (t : TypeId) (cs : List Value)
    (hu : P.underlying dT = some (.slice elem)) (hs : (P.info? elem).map (·.size) = some 6)
    (hg : w.heap[g]? = some (.cells cur t (0, 0))) (hn : cs.length = Nat.min sLen dLen * 6)
    (hsrc : ∀ j v, cs[j]? = some v → w.cell? (a.add j) = some v) (hfit : o + cs.length ≤ cur.size) (h1 : ∀ v ∈ cs, v.oneCell' = true) :
    (Builtin.copy_ #[dT, sT] ty #[.slice (some ⟨g, o, none⟩) dLen dCap, .slice (some a) sLen sCap]).run P w =
      .ok (goInt (Nat.min sLen dLen)) (w.setRow g (cur.toList.take o ++ cs ++ cur.toList.drop (o + cs.length)).toArray) := by
  have hl := run_loadCells_list (P := P) w a cs hsrc
  have hst := run_storeCells_at P g o t cs 0 cur w hg (by simpa using hfit) h1
  cases hq : P.info? elem with
  | none => simp [hq] at hs
  | some i =>
    have hi : i.size = 6 := by simpa [hq] using hs
    simp [Builtin.copy_, run_underlying hu, Builtin.lenOf, Builtin.firstCells, sizeOf, typeInfo, hq, hi, ← hn, hl, hst]
theorem run_copy_none6 {P : Program} (w : World) (dT sT ty elem : TypeId) (g o dLen dCap : Nat) (ad : Option Addr) (sCap : Nat)
    (hu : P.underlying dT = some (.slice elem)) (hs : (P.info? elem).map (·.size) = some 6) :
    (Builtin.copy_ #[dT, sT] ty #[.slice (some ⟨g, o, none⟩) dLen dCap, .slice ad 0 sCap]).run P w = .ok (goInt 0) w := by
  cases hq : P.info? elem with
  | none => simp [hq] at hs
  | some i =>
    have hi : i.size = 6 := by simpa [hq] using hs
    have hl : ∀ (x : Addr), (loadCells x 0).run P w = .ok #[] w := fun x => by simpa using run_loadCells_list (P := P) w x [] (by simp)
    cases ad <;> simp [Builtin.copy_, run_underlying hu, Builtin.lenOf, Builtin.firstCells, sizeOf, typeInfo, hq, storeCells, hl]
end Go.Proofs.YtahdlejgjcjeoaaGreatDoor
