/- The plain side of a log: a record is read back from what begins with its bytes; no record's bytes begin with another's. -/
import Derived.Test.YtahdlejgjcjeoabGreatDoorS02
import Derived.Test.YtahdlejgjcjeoabGreatDoorS01
namespace Go.Proofs.YtahdlejgjcjeoabGreatDoor
open Go.RowKit

def num (l : List UInt8) : Nat := l.foldl (fun n b => n * 256 + b.toNat) 0
theorem num_snoc (l : List UInt8) (b : UInt8) : num (l ++ [b]) = num l * 256 + b.toNat := by simp [num]
theorem num_go : ∀ (l : List UInt8) (m : Nat), l.foldl (fun n b => n * 256 + b.toNat) m < (m + 1) * 256 ^ l.length
  | [], m => by simp
  | b :: l, m => by
    have h := num_go l (m * 256 + b.toNat)
    have hb : b.toNat < 256 := b.toNat_lt
    rw [List.foldl_cons, List.length_cons, Nat.pow_succ, Nat.mul_comm (256 ^ l.length) 256, ← Nat.mul_assoc]
    exact Nat.lt_of_lt_of_le h (Nat.mul_le_mul_right _ (by omega))
theorem num_lt (l : List UInt8) : num l < 256 ^ l.length := by
  have := num_go l 0
  simpa [num] using this
theorem num_be (n w : Nat) (h : n < 256 ^ w) : num (be n w) = n := by
  induction w generalizing n with
  | zero => simp at h; subst h; rfl
  | succ w ih =>
    unfold be
    rw [num_snoc, ih (n / 256) (by rw [Nat.pow_succ] at h; exact Nat.div_lt_of_lt_mul (by omega))]
    have : (UInt8.ofNat n).toNat = n % 256 := by simp
    omega

/-- What is read, and what is left. -/
def rdText (l : List UInt8) : List UInt8 × List UInt8 := ((l.drop 1).take (num (l.take 1)), (l.drop 1).drop (num (l.take 1)))
def rdAtom (l : List UInt8) : At × List UInt8 :=
  let k := rdText (l.drop 1)
  let e := rdText ((k.2.drop 1).drop 1)
  (⟨num (l.take 1), bstr k.1, num (k.2.take 1), num ((k.2.drop 1).take 1), bstr e.1, num (e.2.take 4)⟩, e.2.drop 4)

theorem take_app {l r : List UInt8} {n : Nat} (h : l.length = n) : (l ++ r).take n = l := by rw [← h]; exact List.take_left
theorem drop_app {l r : List UInt8} {n : Nat} (h : l.length = n) : (l ++ r).drop n = r := by rw [← h]; exact List.drop_left

theorem rdText_be (s r : List UInt8) (h : s.length < 256) : rdText (be s.length 1 ++ (s ++ r)) = (s, r) := by
  unfold rdText
  rw [take_app (be_length _ _), drop_app (be_length _ _), num_be _ _ (by simpa using h), take_app rfl, drop_app rfl]

theorem rdAtom_encA (a : At) (r : List UInt8) (h : mayB a = true) : rdAtom (encA a ++ r) = (a, r) := by
  obtain ⟨ty, key, side, who, elem, n⟩ := a
  have hm : 0 ≤ ty ∧ ty < 256 ∧ 0 ≤ side ∧ side < 256 ∧ 0 ≤ who ∧ who < 256 ∧ 0 ≤ n ∧ n < 4294967296 ∧ key.size < 256 ∧ elem.size < 256 := by
    simp only [mayB, decide_eq_true_eq] at h
    omega
  obtain ⟨h1, h2, h3, h4, h5, h6, h7, h8, h9, h10⟩ := hm
  have k1 : key.data.toList.length = key.size := by simp
  have k2 : elem.data.toList.length = elem.size := by simp
  unfold encA rdAtom
  simp only [List.append_assoc]
  rw [take_app (be_length _ _), drop_app (be_length _ _), ← k1, rdText_be _ _ (by omega)]
  simp only
  rw [take_app (be_length _ _), drop_app (be_length _ _), take_app (be_length _ _), drop_app (be_length _ _), ← k2, rdText_be _ _ (by omega)]
  simp only
  rw [take_app (be_length _ _), drop_app (be_length _ _), num_be _ 1 (by simp; omega), num_be _ 1 (by simp; omega), num_be _ 1 (by simp; omega), num_be _ 4 (by simp; omega)]
  simp only [bstr_self, Prod.mk.injEq, At.mk.injEq, and_true, true_and]
  omega

theorem rdAtom_less (l : List UInt8) : (rdAtom l).2.length ≤ l.length - 9 := by
  unfold rdAtom rdText
  simp only [List.length_drop]
  omega

/-- Atoms as long as there are bytes. -/
def rdAll : Nat → List UInt8 → List At
  | 0, _ => []
  | f + 1, l => if l.isEmpty then [] else (rdAtom l).1 :: rdAll f (rdAtom l).2
theorem rdAll_more (f : Nat) (l : List UInt8) (h : l.length ≤ f) : rdAll (f + 1) l = rdAll f l := by
  induction f generalizing l with
  | zero =>
    obtain rfl := List.length_eq_zero_iff.1 (by omega : l.length = 0)
    rfl
  | succ f ih =>
    cases l with
    | nil => rfl
    | cons b l =>
      have := rdAtom_less (b :: l)
      simp only [List.length_cons] at this h
      have e := ih (rdAtom (b :: l)).2 (by omega)
      show (rdAtom (b :: l)).1 :: rdAll (f + 1) (rdAtom (b :: l)).2 = (rdAtom (b :: l)).1 :: rdAll f (rdAtom (b :: l)).2
      rw [e]
theorem rdAll_fuel (f g : Nat) (l : List UInt8) (h : l.length ≤ f) (hg : f ≤ g) : rdAll g l = rdAll f l := by
  induction g with
  | zero => have : f = 0 := by omega
            rw [this]
  | succ g ih =>
    by_cases e : f = g + 1
    · rw [e]
    · rw [rdAll_more g l (by omega), ih (by omega)]
def parse (l : List UInt8) : List At := rdAll l.length l
theorem parse_cons (l : List UInt8) (h : l ≠ []) : parse l = (rdAtom l).1 :: parse (rdAtom l).2 := by
  unfold parse
  cases l with
  | nil => exact absurd rfl h
  | cons b l =>
    have := rdAtom_less (b :: l)
    simp only [List.length_cons] at this
    show (rdAtom (b :: l)).1 :: rdAll l.length (rdAtom (b :: l)).2 = _
    rw [rdAll_fuel _ l.length _ (Nat.le_refl _) (by omega)]
theorem parse_encL : ∀ (out : List At), (∀ a ∈ out, mayB a = true) → parse (encL out) = out
  | [], _ => rfl
  | a :: out, h => by
    have e : encL (a :: out) = encA a ++ encL out := by simp [encL]
    have hl := (encA_length a (fit2_of_may (h a (by simp)))).2
    rw [e, parse_cons _ (fun e0 => by have := congrArg List.length e0; simp at this; rw [this.1] at hl; simp at hl), rdAtom_encA a _ (h a (by simp)), parse_encL out (fun x hx => h x (by simp [hx]))]
theorem parse_length (l : List UInt8) : 9 * (parse l).length ≤ l.length + 8 := by
  suffices ∀ n, ∀ l : List UInt8, l.length ≤ n → 9 * (parse l).length ≤ l.length + 8 from this l.length l (Nat.le_refl _)
  intro n
  induction n with
  | zero =>
    intro l h
    obtain rfl := List.length_eq_zero_iff.1 (by omega : l.length = 0)
    simp [parse, rdAll]
  | succ n ih =>
    intro l h
    cases l with
    | nil => simp [parse, rdAll]
    | cons b l =>
      rw [parse_cons _ (by simp)]
      have h1 := rdAtom_less (b :: l)
      have h2 := ih (rdAtom (b :: l)).2 (by simp at h h1; omega)
      simp only [List.length_cons] at h1 ⊢
      by_cases hz : (rdAtom (b :: l)).2 = []
      · rw [hz]
        simp [parse, rdAll]
      · have : 0 < (rdAtom (b :: l)).2.length := List.length_pos_iff.2 hz
        omega

theorem num_le (l : List UInt8) (k : Nat) (h : l.length ≤ k) : num l < 256 ^ k := Nat.lt_of_lt_of_le (num_lt l) (Nat.pow_le_pow_right (by decide) h)
theorem rdText_short (l : List UInt8) : (rdText l).1.length ≤ 255 := by
  have := num_le (l.take 1) 1 (by simp; omega)
  unfold rdText
  simp only [List.length_take]
  omega
theorem rdAtom_short (l : List UInt8) : short (rdAtom l).1 := by
  have h1 := rdText_short (l.drop 1)
  have h2 := rdText_short (((rdText (l.drop 1)).2.drop 1).drop 1)
  unfold rdAtom short
  simp only [bstr_size]
  omega
theorem parse_short (l : List UInt8) : ∀ a ∈ parse l, short a := by
  suffices ∀ n, ∀ l : List UInt8, l.length ≤ n → ∀ a ∈ parse l, short a from this l.length l (Nat.le_refl _)
  intro n
  induction n with
  | zero =>
    intro l h
    obtain rfl := List.length_eq_zero_iff.1 (by omega : l.length = 0)
    simp [parse, rdAll]
  | succ n ih =>
    intro l h
    cases l with
    | nil => simp [parse, rdAll]
    | cons b l =>
      rw [parse_cons _ (by simp)]
      have h1 := rdAtom_less (b :: l)
      intro a ha
      rcases List.mem_cons.1 ha with rfl | ha
      · exact rdAtom_short _
      · exact ih (rdAtom (b :: l)).2 (by simp at h h1; omega) a ha

end Go.Proofs.YtahdlejgjcjeoabGreatDoor

namespace Go.Proofs.YtahdlejgjcjeoabGreatDoor


/-- The bytes are those of the state t. -/
def Good (l : List UInt8) (t : List At) : Prop := IsTold t t ∧ (∀ a ∈ t, mayB a = true) ∧ l = be t.length 8 ++ encL t
theorem Good.parse {l : List UInt8} {t : List At} (h : Good l t) : parse (l.drop 8) = t := by
  rw [h.2.2, drop_app (be_length _ _), parse_encL t h.2.1]
theorem Good.unique {l : List UInt8} {t u : List At} (h : Good l t) (k : Good l u) : t = u := by rw [← h.parse, k.parse]
theorem told_again {l out : List At} (h : IsTold l out) : IsTold out out where
  sorted := h.sorted
  great x hx := ⟨hx, fun y hy hp => (h.great x hx).2 y (h.great y hy).1 hp⟩
  all y hy := ⟨y, hy, plc_tp.refl y⟩
theorem good_of {l : List UInt8} {m out : List At} (hm : ∀ a ∈ m, mayB a = true) (ht : IsTold m out) (h : l = be out.length 8 ++ encL out) : Good l out :=
  ⟨told_again ht, fun a ha => hm a (ht.great a ha).1, h⟩

end Go.Proofs.YtahdlejgjcjeoabGreatDoor

namespace Go.Proofs.YtahdlejgjcjeoabGreatDoor

/-- A list of atoms that may be, told. -/
def ToldMay (d : List At) : Prop := IsTold d d ∧ ∀ a ∈ d, mayB a = true
theorem ToldMay.tell {d : List At} (h : ToldMay d) : tell d = d := (tell_told d).unique h.2 h.1
theorem toldMay_tell {l : List At} (h : ∀ a ∈ l, mayB a = true) : ToldMay (tell l) :=
  ⟨told_again (tell_told l), fun a ha => h a ((tell_told l).great a ha).1⟩
theorem toldMay_one {a : At} (h : mayB a = true) : ToldMay [a] :=
  ⟨⟨by simp, fun x hx => by
      obtain rfl : x = a := by simpa using hx
      exact ⟨by simp, fun y hy _ => by
        obtain rfl : y = x := by simpa using hy
        have := grd_anti (a := y) (b := y) rfl
        omega⟩, fun y hy => ⟨y, hy, plc_tp.refl y⟩⟩, fun x hx => by
      obtain rfl : x = a := by simpa using hx
      exact h⟩
theorem ToldMay.good {d : List At} (h : ToldMay d) : Good (encS d) d := ⟨h.1, h.2, by unfold encS; rw [h.tell]⟩

/-- A record that may stand in a log. -/
structure Rec.ok (r : Rec) : Prop where
  kind : r.kind = 1 ∨ r.kind = 2
  num : r.num < 9223372036854775808
  len : (encS r.d).length < 9223372036854775808
  told : ToldMay r.d

theorem recBytes_eq (r : Rec) : recBytes r = be r.kind 1 ++ (be r.num 8 ++ (be (encS r.d).length 8 ++ (encS r.d ++ be (adler (recHead r)) 4))) := by
  unfold recBytes
  rw [recHead]
  simp only [List.append_assoc]
theorem recBytes_length (r : Rec) : (recBytes r).length = 21 + (encS r.d).length := by
  rw [recBytes_eq]
  simp only [List.length_append, be_length]
  omega

/-- What a log that begins with a record's bytes reads as, field by field. -/
theorem rec_reads {r : Rec} {l : List UInt8} (h : r.ok) (hp : recBytes r <+: l) :
    num (l.take 1) = r.kind ∧ num ((l.drop 1).take 8) = r.num ∧ num ((l.drop 9).take 8) = (encS r.d).length ∧ (l.drop 17).take (encS r.d).length = encS r.d := by
  obtain ⟨s, rfl⟩ := hp
  rw [recBytes_eq]
  simp only [List.append_assoc]
  have e1 : (be r.kind 1).length = 1 := be_length _ _
  have e2 : (be r.num 8).length = 8 := be_length _ _
  have e3 : (be (encS r.d).length 8).length = 8 := be_length _ _
  have n1 : num (be r.kind 1) = r.kind := num_be _ _ (by rcases h.kind with e | e <;> rw [e] <;> decide)
  have n2 : num (be r.num 8) = r.num := num_be _ _ (by have := h.num; omega)
  have n3 : num (be (encS r.d).length 8) = (encS r.d).length := num_be _ _ (by have := h.len; omega)
  generalize be r.kind 1 = A at *
  generalize be r.num 8 = B at *
  generalize be (encS r.d).length 8 = C at *
  refine ⟨by rw [take_app e1, n1], by rw [drop_app e1, take_app e2, n2], ?_, ?_⟩
  · rw [show 9 = 1 + 8 from rfl, ← List.drop_drop, drop_app e1, drop_app e2, take_app e3, n3]
  · rw [show 17 = 1 + (8 + 8) from rfl, ← List.drop_drop, drop_app e1, ← List.drop_drop, drop_app e2, drop_app e3, take_app rfl]

theorem rec_unique {r s : Rec} {l : List UInt8} (hr : r.ok) (hs : s.ok) (h1 : recBytes r <+: l) (h2 : recBytes s <+: l) : r = s := by
  obtain ⟨a1, a2, a3, a4⟩ := rec_reads hr h1
  obtain ⟨b1, b2, b3, b4⟩ := rec_reads hs h2
  have k1 : r.kind = s.kind := a1.symm.trans b1
  have k2 : r.num = s.num := a2.symm.trans b2
  have k3 : (encS r.d).length = (encS s.d).length := a3.symm.trans b3
  have k4 : encS r.d = encS s.d := by rw [← a4, ← b4, k3]
  have g := hr.told.good
  rw [k4] at g
  have k5 : r.d = s.d := g.unique hs.told.good
  cases r; cases s
  simp only at k1 k2 k5
  rw [k1, k2, k5]

/-- No whole record is in a torn one. -/
theorem torn_none {r s : Rec} {k : Nat} (hr : r.ok) (hs : s.ok) (hk : k < (recBytes r).length) : ¬ recBytes s <+: (recBytes r).take k := by
  intro h
  have hp : recBytes s <+: recBytes r := h.trans (List.take_prefix _ _)
  obtain rfl := rec_unique hs hr hp (List.prefix_refl _)
  have := h.length_le
  rw [List.length_take] at this
  omega

end Go.Proofs.YtahdlejgjcjeoabGreatDoor
