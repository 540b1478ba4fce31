/- The card of the law Codes in its second form is proved: for all lists of atoms and texts of bulk at most 1048576 the law answers true and they read as before. Conditions: the bulk; the table ripple/state.rules lies as the program's text lays it (the card ties it, to the pruned copy of the project). -/
import Derived.Test.YtahdlejgjcjeoaaDoorEncRef2
import Derived.Test.YtahdlejgjcjeoaaDoorDecW3
import Derived.Test.YtahdlejgjcjeoaaDoorReg
import Derived.Test.YtahdlejgjcjeoaaDoorJoinsW2
import Derived.Test.YtahdlejgjcjeoaaDoorAnswers3
import Derived.Test.YtahdlejgjcjeoaaDoorRows
import Derived.Test.YtahdlejgjcjeoaaDoorStA
import Derived.OpenShut
import Derived.RowKit
import Derived.LaidLaws
import Derived.Conc.Holds
import Derived.Deep.DeepHandedRow
import Derived.JoinedCond
import Derived.Below
import Derived.SevenTiedAt
import Derived.Test.YtahdlejgjcjeoaaDoorCards
import Derived.Test.YtahdlejgjcjeoaaDoorTie
import Derived.WalkKit
import Derived.ProofKit
import Derived.Carry
import Derived.ChangeMaps5
namespace Go.Proofs.YtahdlejgjcjeoaaDoor
open Go.RowKit

def encCode (l : List At) : Int := if l.all mayB then 0 else 1
def EncSpec (l : List At) (t : ByteArray) : Prop :=
  (l.all mayB = true ∧ ∃ out, IsTold l out ∧ t = bstr (be out.length 8 ++ encL out)) ∨ (l.all mayB = false ∧ t = bstr [])
theorem EncSpec.unique {l : List At} {s t : ByteArray} (h : EncSpec l s) (k : EncSpec l t) : s = t := by
  rcases h with ⟨h0, a, ha, rfl⟩ | ⟨h0, rfl⟩
  · rcases k with ⟨_, b, hb, rfl⟩ | ⟨k0, _⟩
    · rw [ha.unique (List.all_eq_true.1 h0) hb]
    · rw [h0] at k0; cases k0
  · rcases k with ⟨k0, _⟩ | ⟨_, rfl⟩
    · rw [h0] at k0; cases k0
    · rfl
theorem EncSpec.size {l : List At} {t : ByteArray} (h : EncSpec l t) : t.size ≤ 8 + 21 * l.length := by
  rcases h with ⟨h0, a, ha, rfl⟩ | ⟨h0, rfl⟩
  · have h1 := length_le_of_sub (sorted_ne ha.sorted) (fun x hx => (ha.great x hx).1)
    have h2 := encL_length a (fun x hx => fit2_of_may (List.all_eq_true.1 h0 x (ha.great x hx).1))
    rw [bstr_size, List.length_append, be_length]
    omega
  · simp [bstr_size]
theorem encode_any (v : Value) (l : List At) (w : World) (hr : RulesAt w) (h1 : SliceOf w v l) (hs1 : ∀ a ∈ l, short a) (hlen : l.length ≤ 8388608) :
    Calls Tryd.prog 31 #[v] w fun e w' => ∃ t, e = .returned (.tuple #[.string t, .int .i64 (encCode l)]) ∧ Hid (EncSpec l t) ∧ Below w.heap.size w w' := by
  unfold encCode
  cases hl : l.all mayB
  · refine (encode_no v l w hr h1 hs1 hlen hl).mono ?_
    rintro e w' ⟨rfl, hb⟩
    exact ⟨_, rfl, .inr ⟨hl, rfl⟩, hb⟩
  · refine (encode_yes v l w hr h1 hs1 hlen hl).mono ?_
    rintro e w' ⟨out, rfl, ht, hb⟩
    exact ⟨_, rfl, .inl ⟨hl, out, ht.out, rfl⟩, hb⟩

end Go.Proofs.YtahdlejgjcjeoaaDoor

namespace Go.Proofs.YtahdlejgjcjeoaaDoor
open Go.RowKit

set_option maxRecDepth 100000 in
set_option maxHeartbeats 1000000 in
theorem refEncode_yes (v : Value) (l : List At) (w : World) (h1 : SliceOf w v l) (hs1 : ∀ a ∈ l, short a) (hlen : l.length ≤ 8388608) (hl : l.all mayB = true) :
    Calls Tryd.prog 30 #[v] w fun e w' => ∃ out, e = .returned (.tuple #[.string (bstr (be out.length 8 ++ encL out)), .int .i64 0]) ∧ Hid (IsTold l out) ∧ Below w.heap.size w w' := by
  have hc1 := mays_any v l w h1 hs1 (by omega)
  rw [hl] at hc1
  have H1 : Hid (SliceOf w v l) := h1
  have HA : Hid (∀ a ∈ l, mayB a = true) := List.all_eq_true.1 hl
  clear h1 hs1 hl
  go_enter Tryd.func30, Tryd.ntmps30
  go_wp2_with fail
  refine hc1.mono ?_
  rintro e w1 ⟨rfl, hb1⟩
  clear hc1
  go_wp2_with fail
  refine (told_any v l w1 (H1.out.below hb1) (fun a ha => fits_of_may (HA.out a ha)) (by omega)).mono ?_
  rintro e w2 ⟨v2, out, rfl, hown2, ht, hb2⟩
  have hbw2 : Below w.heap.size w w2 := hb1.trans (hb2.mono hb1.size)
  have hlo := length_le_of_sub (sorted_ne ht.out.sorted) (fun x hx => (ht.out.great x hx).1)
  have hcon := bytes_any v2 out w2 (sliceOf_owns rfl hown2) (fun a ha => fit2_of_may (HA.out a (ht.out.great a ha).1)) (by omega)
  clear hown2 hb1 hb2
  go_wp2_with fail
  refine hcon.mono ?_
  rintro e w3 ⟨rfl, hb3⟩
  have hbw3 : Below w.heap.size w w3 := hbw2.trans (hb3.mono hbw2.size)
  clear hcon hb3
  generalize hys : be out.length 8 ++ encL out = ys at *
  have HYS : Hid (be out.length 8 ++ encL out = ys) := hys
  clear hys
  go_wp2
  go_ret2
  exact ⟨out, by rw [HYS.out]; rfl, ht, hbw3⟩

set_option maxRecDepth 100000 in
set_option maxHeartbeats 1000000 in
theorem refEncode_no (v : Value) (l : List At) (w : World) (h1 : SliceOf w v l) (hs1 : ∀ a ∈ l, short a) (hlen : l.length ≤ 8388608) (hl : l.all mayB = false) :
    Calls Tryd.prog 30 #[v] w fun e w' => e = .returned (.tuple #[.string (bstr []), .int .i64 1]) ∧ Below w.heap.size w w' := by
  have hc1 := mays_any v l w h1 hs1 (by omega)
  rw [hl] at hc1
  clear h1 hs1 hl
  go_enter Tryd.func30, Tryd.ntmps30
  go_wp2_with fail
  refine hc1.mono ?_
  rintro e w1 ⟨rfl, hb1⟩
  clear hc1
  go_wp2
  go_ret2
  exact ⟨rfl, hb1⟩

/-- What an Encode answers. -/
theorem refEncode_any (v : Value) (l : List At) (w : World) (h1 : SliceOf w v l) (hs1 : ∀ a ∈ l, short a) (hlen : l.length ≤ 8388608) :
    Calls Tryd.prog 30 #[v] w fun e w' => ∃ t, e = .returned (.tuple #[.string t, .int .i64 (encCode l)]) ∧ Hid (EncSpec l t) ∧ Below w.heap.size w w' := by
  unfold encCode
  cases hl : l.all mayB
  · refine (refEncode_no v l w h1 hs1 hlen hl).mono ?_
    rintro e w' ⟨rfl, hb⟩
    exact ⟨_, rfl, .inr ⟨hl, rfl⟩, hb⟩
  · refine (refEncode_yes v l w h1 hs1 hlen hl).mono ?_
    rintro e w' ⟨out, rfl, ht, hb⟩
    exact ⟨_, rfl, .inl ⟨hl, out, ht.out, rfl⟩, hb⟩
end Go.Proofs.YtahdlejgjcjeoaaDoor

namespace Go.Proofs.YtahdlejgjcjeoaaDoor
open Go.RowKit

/-- The byte number i; 0 where there is none. -/
def atD (l : List UInt8) (i : Nat) : Nat := (l.getD i 0).toNat
theorem atD_lt (l : List UInt8) (i : Nat) : atD l i < 256 := (l.getD i 0).toNat_lt
theorem atD_drop (l : List UInt8) (i j : Nat) : atD (l.drop i) j = atD l (i + j) := by
  unfold atD List.getD
  rw [List.getElem?_drop]

def rfKey (d : List UInt8) : Nat := atD d 1
def rfElem (d : List UInt8) : Nat := atD d (4 + rfKey d)
def rfEnd (d : List UInt8) : Nat := 5 + rfKey d + rfElem d
def rfAtom (d : List UInt8) : At :=
  ⟨atD d 0, bstr ((d.drop 2).take (rfKey d)), atD d (2 + rfKey d), atD d (3 + rfKey d), bstr ((d.drop (5 + rfKey d)).take (rfElem d)),
    ((((atD d (rfEnd d) * 256 + atD d (rfEnd d + 1)) * 256 + atD d (rfEnd d + 2)) * 256 + atD d (rfEnd d + 3) : Nat) : Int)⟩
def rfNext (d : List UInt8) : Nat := rfEnd d + 4

theorem atD_app {l r : List UInt8} {i : Nat} (h : l.length ≤ i) : atD (l ++ r) i = atD r (i - l.length) := by
  unfold atD List.getD
  rw [List.getElem?_append_right h]
theorem atD_be1 (n : Nat) (r : List UInt8) (h : n < 256) : atD (be n 1 ++ r) 0 = n := by
  show (UInt8.ofNat n).toNat = n
  simp
  omega
theorem atD_be4 (n : Nat) (r : List UInt8) (h : n < 4294967296) : ((atD (be n 4 ++ r) 0 * 256 + atD (be n 4 ++ r) 1) * 256 + atD (be n 4 ++ r) 2) * 256 + atD (be n 4 ++ r) 3 = n := by
  have e0 : atD (be n 4 ++ r) 0 = n / 256 / 256 / 256 % 256 := by show (UInt8.ofNat _).toNat = _; simp
  have e1 : atD (be n 4 ++ r) 1 = n / 256 / 256 % 256 := by show (UInt8.ofNat _).toNat = _; simp
  have e2 : atD (be n 4 ++ r) 2 = n / 256 % 256 := by show (UInt8.ofNat _).toNat = _; simp
  have e3 : atD (be n 4 ++ r) 3 = n % 256 := by show (UInt8.ofNat _).toNat = _; simp
  rw [e0, e1, e2, e3]
  omega

theorem rf_encA (a : At) (r : List UInt8) (h : mayB a = true) : rfAtom (encA a ++ r) = a ∧ (encA a ++ r).drop (rfNext (encA a ++ r)) = r := by
  obtain ⟨ty, key, side, who, elem, n⟩ := a
  have hm : 0 ≤ ty ∧ ty < 256 ∧ 0 ≤ side ∧ side < 256 ∧ 0 ≤ who ∧ who < 256 ∧ 0 ≤ n ∧ n < 4294967296 ∧ key.size < 256 ∧ elem.size < 256 := by
    simp only [mayB, decide_eq_true_eq] at h
    omega
  obtain ⟨h1, h2, h3, h4, h5, h6, h7, h8, h9, h10⟩ := hm
  have k1 : key.data.toList.length = key.size := by simp
  have k2 : elem.data.toList.length = elem.size := by simp
  obtain ⟨d, hd⟩ : ∃ d, encA ⟨ty, key, side, who, elem, n⟩ ++ r = d := ⟨_, rfl⟩
  have hd' : d = be ty.toNat 1 ++ (be key.size 1 ++ (key.data.toList ++ (be side.toNat 1 ++ (be who.toNat 1 ++ (be elem.size 1 ++ (elem.data.toList ++ (be n.toNat 4 ++ r))))))) := by
    rw [← hd]
    simp only [encA, List.append_assoc]
  have t0 : atD d 0 = ty.toNat := by rw [hd']; exact atD_be1 _ _ (by omega)
  have t1 : rfKey d = key.size := by
    unfold rfKey
    rw [hd', atD_app (by rw [be_length]; omega), be_length]
    exact atD_be1 _ _ h9
  have s2 : d.drop 2 = key.data.toList ++ (be side.toNat 1 ++ (be who.toNat 1 ++ (be elem.size 1 ++ (elem.data.toList ++ (be n.toNat 4 ++ r))))) := by
    rw [hd', show (2 : Nat) = 1 + 1 from rfl, ← List.drop_drop, drop_app (be_length _ _), drop_app (be_length _ _)]
  have sk : d.drop (2 + key.size) = be side.toNat 1 ++ (be who.toNat 1 ++ (be elem.size 1 ++ (elem.data.toList ++ (be n.toNat 4 ++ r)))) := by
    rw [← List.drop_drop, s2, drop_app k1]
  have t2 : atD d (2 + key.size) = side.toNat := by
    have := atD_drop d (2 + key.size) 0
    rw [sk, Nat.add_zero] at this
    rw [← this]
    exact atD_be1 _ _ (by omega)
  have t3 : atD d (3 + key.size) = who.toNat := by
    have := atD_drop d (2 + key.size) 1
    rw [sk, atD_app (by rw [be_length]; omega), be_length] at this
    rw [show 3 + key.size = 2 + key.size + 1 by omega, ← this]
    exact atD_be1 _ _ (by omega)
  have s4 : d.drop (4 + key.size) = be elem.size 1 ++ (elem.data.toList ++ (be n.toNat 4 ++ r)) := by
    rw [show 4 + key.size = (2 + key.size) + 1 + 1 by omega, ← List.drop_drop, ← List.drop_drop, sk, drop_app (be_length _ _), drop_app (be_length _ _)]
  have t4 : rfElem d = elem.size := by
    unfold rfElem
    rw [t1]
    have := atD_drop d (4 + key.size) 0
    rw [s4, Nat.add_zero] at this
    rw [← this]
    exact atD_be1 _ _ h10
  have s5 : d.drop (5 + key.size) = elem.data.toList ++ (be n.toNat 4 ++ r) := by
    rw [show 5 + key.size = (4 + key.size) + 1 by omega, ← List.drop_drop, s4, drop_app (be_length _ _)]
  have te : rfEnd d = 5 + key.size + elem.size := by unfold rfEnd; rw [t4, t1]
  have se : d.drop (5 + key.size + elem.size) = be n.toNat 4 ++ r := by rw [← List.drop_drop, s5, drop_app k2]
  have tn : ∀ j, atD d (5 + key.size + elem.size + j) = atD (be n.toNat 4 ++ r) j := fun j => by rw [← se, atD_drop]
  rw [hd]
  constructor
  · unfold rfAtom
    rw [te, t0, t1, t2, t3, t4, s2, s5, take_app k1, take_app k2]
    have e0 := tn 0
    rw [Nat.add_zero] at e0
    rw [e0, tn 1, tn 2, tn 3, atD_be4 _ _ (by omega)]
    simp only [bstr_self, At.mk.injEq, true_and]
    omega
  · unfold rfNext
    rw [te, ← List.drop_drop, se, drop_app (be_length _ _)]

/-- Atoms as long as there are bytes. -/
def rfAll : Nat → List UInt8 → List At
  | 0, _ => []
  | f + 1, d => if d.isEmpty then [] else rfAtom d :: rfAll f (d.drop (rfNext d))
theorem rfNext_pos (d : List UInt8) : 9 ≤ rfNext d := by unfold rfNext rfEnd; omega
theorem rf_less (d : List UInt8) : (d.drop (rfNext d)).length ≤ d.length - 9 := by
  have := rfNext_pos d
  rw [List.length_drop]
  omega
theorem rfAll_more (f : Nat) (l : List UInt8) (h : l.length ≤ f) : rfAll (f + 1) l = rfAll f l := by
  induction f generalizing l with
  | zero =>
    obtain rfl := List.length_eq_zero_iff.1 (by omega : l.length = 0)
    rfl
  | succ f ih =>
    cases l with
    | nil => rfl
    | cons b l =>
      have := rf_less (b :: l)
      simp only [List.length_cons] at this h
      have e := ih ((b :: l).drop (rfNext (b :: l))) (by omega)
      show rfAtom (b :: l) :: rfAll (f + 1) _ = rfAtom (b :: l) :: rfAll f _
      rw [e]
theorem rfAll_fuel (f g : Nat) (l : List UInt8) (h : l.length ≤ f) (hg : f ≤ g) : rfAll g l = rfAll f l := by
  induction g with
  | zero => have : f = 0 := by omega
            rw [this]
  | succ g ih =>
    by_cases e : f = g + 1
    · rw [e]
    · rw [rfAll_more g l (by omega), ih (by omega)]
def rfs (l : List UInt8) : List At := rfAll l.length l
theorem rfs_cons (l : List UInt8) (h : l ≠ []) : rfs l = rfAtom l :: rfs (l.drop (rfNext l)) := by
  unfold rfs
  cases l with
  | nil => exact absurd rfl h
  | cons b l =>
    have := rf_less (b :: l)
    simp only [List.length_cons] at this
    show rfAtom (b :: l) :: rfAll l.length _ = _
    rw [rfAll_fuel _ l.length _ (Nat.le_refl _) (by omega)]
theorem rfs_encL : ∀ (out : List At), (∀ a ∈ out, mayB a = true) → rfs (encL out) = out
  | [], _ => rfl
  | a :: out, h => by
    have e : encL (a :: out) = encA a ++ encL out := by simp [encL]
    have hl := (encA_length a (fit2_of_may (h a (by simp)))).2
    have hr := rf_encA a (encL out) (h a (by simp))
    rw [e, rfs_cons _ (fun e0 => by have := congrArg List.length e0; simp at this; rw [this.1] at hl; simp at hl), hr.1, hr.2, rfs_encL out (fun x hx => h x (by simp [hx]))]
theorem rfAtom_short (d : List UInt8) : short (rfAtom d) := by
  have h1 := atD_lt d 1
  have h2 := atD_lt d (4 + rfKey d)
  unfold rfAtom short
  simp only [bstr_size, List.length_take]
  unfold rfElem rfKey at *
  omega
theorem rfs_facts (l : List UInt8) : 9 * (rfs l).length ≤ l.length + 8 ∧ ∀ a ∈ rfs l, short a := by
  suffices ∀ n, ∀ l : List UInt8, l.length ≤ n → 9 * (rfs l).length ≤ l.length + 8 ∧ ∀ a ∈ rfs l, short a from this l.length l (Nat.le_refl _)
  intro n
  induction n with
  | zero =>
    intro l h
    obtain rfl := List.length_eq_zero_iff.1 (by omega : l.length = 0)
    simp [rfs, rfAll]
  | succ n ih =>
    intro l h
    cases l with
    | nil => simp [rfs, rfAll]
    | cons b l =>
      rw [rfs_cons _ (by simp)]
      have h1 := rf_less (b :: l)
      simp only [List.length_cons] at h1 h
      have h2 := ih ((b :: l).drop (rfNext (b :: l))) (by omega)
      refine ⟨?_, fun a ha => ?_⟩
      · simp only [List.length_cons]
        by_cases hz : (b :: l).drop (rfNext (b :: l)) = []
        · rw [hz]
          simp [rfs, rfAll]
        · have := List.length_pos_iff.2 hz
          have := h2.1
          omega
      · rcases List.mem_cons.1 ha with rfl | ha
        · exact rfAtom_short _
        · exact h2.2 a ha
theorem Good.rfs {l : List UInt8} {t : List At} (h : Good l t) : rfs (l.drop 8) = t := by
  rw [h.2.2, drop_app (be_length _ _), rfs_encL t h.2.1]

theorem wrap64_small {x : Int} (h0 : 0 ≤ x) (h1 : x < 9223372036854775808) : wrap64 x = x := by
  unfold wrap64
  omega

set_option maxRecDepth 100000 in
theorem at_any (l : List UInt8) (i : Nat) (w : World) (_hl : l.length ≤ 33554432) (_hi : i ≤ 1099511627776) :
    Calls Tryd.prog 104 #[.string (bstr l), .int .i64 i] w fun e w' => e = .returned (.int .i64 (atD l i)) ∧ w' = w := by
  have hsz := bstr_size l
  by_cases h : i < l.length
  · have he : ((bstr l)[i]'(by rw [hsz]; exact h)).toNat = atD l i := by
      unfold atD
      have : (bstr l)[i]'(by rw [hsz]; exact h) = l.getD i 0 := by
        simp only [List.getD, h, List.getElem?_eq_getElem, Option.getD_some]
        rfl
      rw [this]
    have hlt := atD_lt l i
    go_enter Tryd.func104, Tryd.ntmps104
    go_wp2
    go_ret
    exact ⟨rfl, rfl⟩
  · have he : atD l i = 0 := by
      unfold atD
      rw [List.getD, List.getElem?_eq_none (by omega)]
      rfl
    rw [he]
    go_enter Tryd.func104, Tryd.ntmps104
    go_wp2
    go_ret
    exact ⟨rfl, rfl⟩

set_option maxRecDepth 100000 in
theorem part_any (l : List UInt8) (i n : Nat) (w : World) (hl : l.length ≤ 33554432) (hi : i ≤ 1099511627776) (hn : n ≤ 1099511627776) :
    Calls Tryd.prog 105 #[.string (bstr l), .int .i64 i, .int .i64 n] w fun e w' => e = .returned (.string (bstr ((l.drop i).take n))) ∧ w' = w := by
  have hsz := bstr_size l
  by_cases h : l.length < i
  · have he : (l.drop i).take n = [] := by rw [List.drop_of_length_le (by omega)]; simp
    rw [he]
    by_cases h2 : 0 < n
    · go_enter Tryd.func105, Tryd.ntmps105
      go_wp2
      go_ret
      exact ⟨rfl, rfl⟩
    · obtain rfl : n = 0 := by omega
      go_enter Tryd.func105, Tryd.ntmps105
      go_wp2
      go_ret
      exact ⟨rfl, rfl⟩
  · by_cases h2 : l.length - i < n
    · have he : (bstr l).extract i (i + (l.length - i)) = bstr ((l.drop i).take n) := by
        rw [bstr_extract]
        congr 1
        rw [List.take_of_length_le (by simp), List.take_of_length_le (by simp; omega)]
      go_enter Tryd.func105, Tryd.ntmps105
      go_wp2
      go_ret
      exact ⟨congrArg (fun s => Ending.returned (.string s)) he, rfl⟩
    · have he : (bstr l).extract i (i + n) = bstr ((l.drop i).take n) := by
        rw [bstr_extract]
        congr 2
        omega
      go_enter Tryd.func105, Tryd.ntmps105
      go_wp2
      go_ret
      exact ⟨congrArg (fun s => Ending.returned (.string s)) he, rfl⟩
end Go.Proofs.YtahdlejgjcjeoaaDoor

namespace Go.Proofs.YtahdlejgjcjeoaaDoor
open Go.RowKit

theorem at_int (l : List UInt8) (x : Int) (w : World) (hl : l.length ≤ 33554432) (h0 : 0 ≤ x) (h1 : x ≤ 1099511627776) :
    Calls Tryd.prog 104 #[.string (bstr l), .int .i64 x] w fun e w' => e = .returned (.int .i64 (atD l x.toNat)) ∧ w' = w := by
  have := at_any l x.toNat w hl (by omega)
  rwa [show ((x.toNat : Nat) : Int) = x by omega] at this
theorem part_int (l : List UInt8) (x n : Int) (w : World) (hl : l.length ≤ 33554432) (h0 : 0 ≤ x) (h1 : x ≤ 1099511627776) (h2 : 0 ≤ n) (h3 : n ≤ 1099511627776) :
    Calls Tryd.prog 105 #[.string (bstr l), .int .i64 x, .int .i64 n] w fun e w' => e = .returned (.string (bstr ((l.drop x.toNat).take n.toNat))) ∧ w' = w := by
  have := part_any l x.toNat n.toNat w hl (by omega) (by omega)
  rwa [show ((x.toNat : Nat) : Int) = x by omega, show ((n.toNat : Nat) : Int) = n by omega] at this

theorem rf_at (l : List UInt8) (i K M : Nat) (hK : atD l (i + 1) = K) (hM : atD l (i + 4 + K) = M) :
    rfAtom (l.drop i) = ⟨atD l i, bstr ((l.drop (i + 2)).take K), atD l (i + 2 + K), atD l (i + 3 + K), bstr ((l.drop (i + 5 + K)).take M), (((atD l (i + 5 + K + M) : Int) * 256 + atD l (i + 5 + K + M + 1)) * 256 + atD l (i + 5 + K + M + 2)) * 256 + atD l (i + 5 + K + M + 3)⟩ ∧ rfNext (l.drop i) = 9 + K + M := by
  have e1 : rfKey (l.drop i) = K := by unfold rfKey; rw [atD_drop, hK]
  have e2 : rfElem (l.drop i) = M := by unfold rfElem; rw [e1, atD_drop, ← Nat.add_assoc, hM]
  have e3 : rfEnd (l.drop i) = 5 + K + M := by unfold rfEnd; rw [e1, e2]
  constructor
  · unfold rfAtom
    simp only [e1, e2, e3, atD_drop, List.drop_drop, Nat.add_zero, ← Nat.add_assoc]
    congr 1
  · unfold rfNext
    rw [e3]
    omega

set_option maxRecDepth 100000 in
set_option maxHeartbeats 4000000 in
theorem refDecode_any (l : List UInt8) (w : World) (hl : l.length ≤ 33554432) :
    Calls Tryd.prog 64 #[.string (bstr l)] w fun e w' => ((∃ t v, Good l t ∧ e = .returned (.tuple #[v, .int .i64 0]) ∧ w'.ownsRow w.heap.size 52 6 v t.length (flat t)) ∨ ((∀ t, ¬ Good l t) ∧ e = .returned (.tuple #[.slice none 0 0, .int .i64 3]))) ∧ Below w.heap.size w w' := by
  obtain ⟨i0, hi, hz0, hz1, hz2⟩ := info_parts infoAtom
  have hfa := rfs_facts (l.drop 8)
  have hsz := bstr_size l
  have HAT : Hid (∀ (W : World) (x : Int), 0 ≤ x → x ≤ 1099511627776 → Calls Tryd.prog 104 #[.string (bstr l), .int .i64 x] W fun e w' => e = .returned (.int .i64 (atD l x.toNat)) ∧ w' = W) := fun W x h h' => at_int l x W hl h h'
  have HPT : Hid (∀ (W : World) (x n : Int), 0 ≤ x → x ≤ 1099511627776 → 0 ≤ n → n ≤ 1099511627776 → Calls Tryd.prog 105 #[.string (bstr l), .int .i64 x, .int .i64 n] W fun e w' => e = .returned (.string (bstr ((l.drop x.toNat).take n.toNat))) ∧ w' = W) := fun W x n h h' h'' h3 => part_int l x n W hl h h' h'' h3
  go_enter Tryd.func64, Tryd.ntmps64
  go_wp2
  go_loopw [4, 5] (fun v j wr => ∃ (i : Nat) (done : List At), j = .int .i64 i ∧ i ≤ 33555432 ∧ wr.ownsRow w.heap.size 52 6 v done.length (flat done) ∧ Hid (done ++ rfs (l.drop i) = rfs (l.drop 8)) ∧ Below w.heap.size w wr) (fun _ j _ => l.length - (intOf j).toNat)
  case atStart => exact ⟨8, [], rfl, by omega, by simp [flat, World.ownsRow], rfl, Below.refl _ _⟩
  case round =>
    obtain ⟨i, done, rfl, hib, hown, hE, hbr⟩ := hrel
    by_cases hil : i < l.length
    · have hne : l.drop i ≠ [] := fun e => by have := congrArg List.length e; simp at this; omega
      have hpc := rfs_cons _ hne
      have hdl : done.length ≤ 4194304 := by
        have := congrArg List.length hE.out
        rw [List.length_append] at this
        have := hfa.1
        rw [List.length_drop] at this
        omega
      have k1 := atD_lt l (i + 1)
      obtain ⟨M, hM⟩ : ∃ M, atD l (i + 4 + atD l (i + 1)) = M := ⟨_, rfl⟩
      have k2 := atD_lt l (i + 4 + atD l (i + 1))
      have k3 := atD_lt l (i + 5 + atD l (i + 1) + atD l (i + 4 + atD l (i + 1)))
      have k4 := atD_lt l (i + 5 + atD l (i + 1) + atD l (i + 4 + atD l (i + 1)) + 1)
      have k5 := atD_lt l (i + 5 + atD l (i + 1) + atD l (i + 4 + atD l (i + 1)) + 2)
      have k6 := atD_lt l (i + 5 + atD l (i + 1) + atD l (i + 4 + atD l (i + 1)) + 3)
      rw [hM] at k2 k3 k4 k5 k6
      go_wp2_with fail
      refine calls_of_args (rfl : _ = #[Value.string (bstr l), Value.int IntKind.i64 _]) (HAT.out _ _ (by omega) (by omega)) ?_
      rintro e wN ⟨rfl, hwN⟩
      subst hwN
      rw [show ((i : Int) + 1).toNat = i + 1 by omega]
      have HRF : Hid (rfAtom (l.drop i) = _ ∧ _) := rf_at l i _ M rfl hM
      generalize atD l (i + 1) = K at *
      obtain ⟨hra, hrn⟩ := HRF.out
      obtain ⟨a, ha⟩ : ∃ a : At, a = ⟨atD l i, bstr ((l.drop (i + 2)).take K), atD l (i + 2 + K), atD l (i + 3 + K), bstr ((l.drop (i + 5 + K)).take M), (((atD l (i + 5 + K + M) : Int) * 256 + atD l (i + 5 + K + M + 1)) * 256 + atD l (i + 5 + K + M + 2)) * 256 + atD l (i + 5 + K + M + 3)⟩ := ⟨_, rfl⟩
      have HE2 : Hid ((done ++ [a]) ++ rfs (l.drop (i + 5 + K + M + 4)) = rfs (l.drop 8)) := by
        have := hE.out
        rw [hpc, hra, hrn, ← ha, List.drop_drop, show i + (9 + K + M) = i + 5 + K + M + 4 by omega] at this
        rw [Hid, List.append_assoc]
        exact this
      have HNEWS : Hid (∀ W : World, ∀ j u, (enc a)[j]? = some u → ((W.alloc (.cells #[.int .i64 (atD l i), .string (bstr ((l.drop (i + 2)).take K)), .int .i64 (atD l (i + 2 + K)), .int .i64 (atD l (i + 3 + K)), .string (bstr ((l.drop (i + 5 + K)).take M)), .int .i64 ((((atD l (i + 5 + K + M) : Int) * 256 + atD l (i + 5 + K + M + 1)) * 256 + atD l (i + 5 + K + M + 2)) * 256 + atD l (i + 5 + K + M + 3))] 52)).alloc (.cells #[.int .i64 (atD l i), .string (bstr ((l.drop (i + 2)).take K)), .int .i64 (atD l (i + 2 + K)), .int .i64 (atD l (i + 3 + K)), .string (bstr ((l.drop (i + 5 + K)).take M)), .int .i64 ((((atD l (i + 5 + K + M) : Int) * 256 + atD l (i + 5 + K + M + 1)) * 256 + atD l (i + 5 + K + M + 2)) * 256 + atD l (i + 5 + K + M + 3))] 52)).cell? ((⟨W.heap.size + 1, 0, none⟩ : Addr).add j) = some u) := by
        intro W j u hu
        rw [ha] at hu
        have := World.news_of_block (heap_alloc_new (W.alloc (.cells #[.int .i64 (atD l i), .string (bstr ((l.drop (i + 2)).take K)), .int .i64 (atD l (i + 2 + K)), .int .i64 (atD l (i + 3 + K)), .string (bstr ((l.drop (i + 5 + K)).take M)), .int .i64 ((((atD l (i + 5 + K + M) : Int) * 256 + atD l (i + 5 + K + M + 1)) * 256 + atD l (i + 5 + K + M + 2)) * 256 + atD l (i + 5 + K + M + 3))] 52)) (.cells #[.int .i64 (atD l i), .string (bstr ((l.drop (i + 2)).take K)), .int .i64 (atD l (i + 2 + K)), .int .i64 (atD l (i + 3 + K)), .string (bstr ((l.drop (i + 5 + K)).take M)), .int .i64 ((((atD l (i + 5 + K + M) : Int) * 256 + atD l (i + 5 + K + M + 1)) * 256 + atD l (i + 5 + K + M + 2)) * 256 + atD l (i + 5 + K + M + 3))] 52)) j u hu
        simpa using this
      have hszb := hbr.size
      have HF : Hid (flat (done ++ [a]) = flat done ++ enc a) := flat_snoc done a
      clear ha hpc hra hrn HRF
      go_wp2_with (first | (go_at_call 104; refine calls_of_args (rfl : _ = #[Value.string (bstr l), Value.int IntKind.i64 _]) (HAT.out _ _ ?_ ?_) ?_; omega; omega; rintro e wN ⟨rfl, hwN⟩; subst hwN) | (go_at_call 105; refine calls_of_args (rfl : _ = #[Value.string (bstr l), Value.int IntKind.i64 _, Value.int IntKind.i64 _]) (HPT.out _ _ _ ?_ ?_ ?_ ?_) ?_; omega; omega; omega; omega; rintro e wN ⟨rfl, hwN⟩; subst hwN) | (at_builtin; refine wpList_append_lies _ rfl _ _ 22 rfl w.heap.size 52 i0 _ 6 64 Tryd.underlying22 hi hz0 hz1 hz2 rfl (by decide) _ done.length _ rfl ((hown.alloc _).alloc _) ⟨wN.heap.size + 1, 0, none⟩ 1 1 (enc a) rfl rfl (HNEWS.out wN) (enc_oneCell a) (by decide) (by unfold maxLen; omega) (by omega) (by simp; omega) (wN.heap.size + 1 + 1) (by simp) ?_; intro g capn w3 hown3 hgrow3 hat3 hlt3) | fail)
      go_roundw
      case rel => exact ⟨i + 5 + K + M + 4, done ++ [a], by go_num, by omega, by rw [HF.out, List.length_append]; exact hown3, HE2, (below_alloc (below_alloc hbr _) _).grown hgrow3 (by simp; have := hbr.size; omega) (fun q hq => owns_base hown q hq)⟩
      case measure => simp [intOf]; omega
    · have hrz : rfs (l.drop i) = [] := by rw [List.drop_of_length_le (by omega)]; rfl
      have hEE := hE.out
      rw [hrz, List.append_nil] at hEE
      have HGT : Hid (∀ t, Good l t → t = done) := fun t h => by rw [← h.rfs, hEE]
      have HSH : Hid (∀ a ∈ done, short a) := by rw [Hid, hEE]; exact hfa.2
      have hdl : done.length ≤ 4194304 := by
        have := hfa.1
        rw [← hEE, List.length_drop] at this
        omega
      have HS : Hid (SliceOf wr u4 done) := sliceOf_owns rfl hown
      clear hrz hEE hE hfa HAT HPT hown
      cases hall : done.all mayB
      · have hce := refEncode_no u4 done wr HS.out HSH.out (by omega) hall
        have HNG : Hid (∀ t, ¬ Good l t) := fun t h => by
          obtain rfl := HGT.out t h
          rw [List.all_eq_true.2 h.2.1] at hall
          cases hall
        clear hall
        go_wp2_with fail
        refine hce.mono ?_
        rintro e w2 ⟨rfl, hb2⟩
        have hbw2 : Below w.heap.size w w2 := hbr.trans (hb2.mono hbr.size)
        clear hce hb2
        generalize bstr [] = e0 at *
        generalize bstr l = sl at *
        go_wp2
        all_goals go_ret2
        all_goals exact ⟨.inr ⟨HNG.out, rfl⟩, hbw2⟩
      · have hce := refEncode_yes u4 done wr HS.out HSH.out (by omega) hall
        have HA : Hid (∀ a ∈ done, mayB a = true) := List.all_eq_true.1 hall
        clear hall
        go_wp2_with fail
        refine hce.mono ?_
        rintro e w2 ⟨out, rfl, ht, hb2⟩
        have hbw2 : Below w.heap.size w w2 := hbr.trans (hb2.mono hbr.size)
        by_cases heq : be out.length 8 ++ encL out = l
        · have HG : Hid (Good l out) := good_of HA.out ht.out heq.symm
          have hct := told_any u4 done w2 (HS.out.below hb2) (fun a ha => fits_of_may (HA.out a ha)) (by omega)
          rw [heq]
          clear hce hb2 heq
          generalize bstr l = sl at *
          go_wp2_with fail
          refine hct.mono ?_
          rintro e w3 ⟨v3, out3, rfl, hown3, ht3, hb3⟩
          have e3 : out3 = out := ht3.out.unique HA.out ht.out
          subst e3
          have hbw3 : Below w.heap.size w w3 := hbw2.trans (hb3.mono hbw2.size)
          have hfin := owns_mono hown3 hbw2.size
          clear hct hb3 hown3
          go_wp2
          go_ret2
          exact ⟨.inl ⟨out3, v3, HG.out, rfl, hfin⟩, hbw3⟩
        · have hne2 := str_ne (a := bstr (be out.length 8 ++ encL out)) (b := bstr l) (fun e => heq (by have := congrArg (fun s => s.data.toList) e; exact this))
          have HNG : Hid (∀ t, ¬ Good l t) := fun t h => by
            obtain rfl := HGT.out t h
            have := ht.out.unique HA.out h.1
            subst this
            exact heq h.2.2.symm
          clear hce hb2 heq
          generalize bstr (be out.length 8 ++ encL out) = e0 at *
          generalize bstr l = sl at *
          go_wp2
          go_ret2
          exact ⟨.inr ⟨HNG.out, rfl⟩, hbw2⟩

theorem refDecode_ok (l : List UInt8) (t : List At) (w : World) (hg : Good l t) (hl : l.length ≤ 33554432) :
    Calls Tryd.prog 64 #[.string (bstr l)] w fun e w' => ∃ v, e = .returned (.tuple #[v, .int .i64 0]) ∧ w'.ownsRow w.heap.size 52 6 v t.length (flat t) ∧ Below w.heap.size w w' := by
  refine (refDecode_any l w hl).mono ?_
  rintro e w' ⟨⟨t', v, h, he, ho⟩ | ⟨h, _⟩, hb⟩
  · obtain rfl := h.unique hg
    exact ⟨v, he, ho, hb⟩
  · exact absurd hg (h t)
theorem refDecode_bad (l : List UInt8) (w : World) (hg : ∀ t, ¬ Good l t) (hl : l.length ≤ 33554432) :
    Calls Tryd.prog 64 #[.string (bstr l)] w fun e w' => e = .returned (.tuple #[.slice none 0 0, .int .i64 3]) ∧ Below w.heap.size w w' := by
  refine (refDecode_any l w hl).mono ?_
  rintro e w' ⟨⟨t', v, h, he, ho⟩ | ⟨h, he⟩, hb⟩
  · exact absurd h (hg t')
  · exact ⟨he, hb⟩
end Go.Proofs.YtahdlejgjcjeoaaDoor

namespace Go.Proofs.YtahdlejgjcjeoaaDoor
open Go.RowKit

theorem Good.length {l : List UInt8} {t : List At} (h : Good l t) : 9 * t.length ≤ l.length := by
  have h1 := rfs_facts (l.drop 8)
  rw [h.rfs, List.length_drop] at h1
  have h2 := congrArg List.length h.2.2
  rw [List.length_append, be_length] at h2
  omega

set_option maxRecDepth 100000 in
set_option maxHeartbeats 2000000 in
theorem decodes_any (l : List UInt8) (w : World) (hr : RulesAt w) (hl : l.length ≤ 33554432) :
    Calls Tryd.prog 32 #[.string (bstr l)] w fun e w' => e = .returned (.bool true) ∧ Below w.heap.size w w' := by
  have HR : Hid (RulesAt w) := hr
  clear hr
  by_cases hg : ∃ t, Good l t
  · obtain ⟨t, hg⟩ := hg
    have HG : Hid (Good l t) := hg
    have hlt := hg.length
    have hc := refDecode_ok l t w hg hl
    clear hg
    go_enter Tryd.func32, Tryd.ntmps32
    go_wp2_with fail
    refine hc.mono ?_
    rintro e w1 ⟨v0, rfl, ho0, hb1⟩
    have hc1 := decode_ok l t w1 (HR.out.below hb1 HR.out.1) HG.out hl
    have HO0 : Hid (w1.ownsRow w.heap.size 52 6 v0 t.length (flat t)) := ho0
    clear hc ho0
    go_wp2_with fail
    refine hc1.mono ?_
    rintro e w2 ⟨v1, rfl, ho1, hb2⟩
    have hbw2 : Below w.heap.size w w2 := hb1.trans (hb2.mono hb1.size)
    have hc2 := decode_ok l t w2 (HR.out.below hbw2 HR.out.1) HG.out hl
    have HO1 : Hid (w2.ownsRow w1.heap.size 52 6 v1 t.length (flat t)) := ho1
    clear hc1 ho1
    go_wp2_with fail
    refine hc2.mono ?_
    rintro e w3 ⟨v2, rfl, ho2, hb3⟩
    have hbw3 : Below w.heap.size w w3 := hbw2.trans (hb3.mono hbw2.size)
    have hb13 : Below w1.heap.size w1 w3 := hb2.trans (hb3.mono hb2.size)
    have hcon := answers_any 0 v1 v2 v0 t w1.heap.size w2.heap.size w3 (owns_below HO1.out hb3) ho2 ((sliceOf_owns rfl HO0.out).below hb13) (.inl rfl) (fun q h1 h2 => by
      have := own_lt HO1.out q h1
      have : w2.heap.size ≤ q := owns_base ho2 q h2
      omega) (by omega) hb13.size hb3.size
    have HV1 : Hid (∀ q, v1.ownBlock = some q → w1.heap.size ≤ q) := fun q hq => owns_base HO1.out q hq
    have HV2 : Hid (∀ q, v2.ownBlock = some q → w1.heap.size ≤ q) := fun q hq => Nat.le_trans hb2.size (owns_base ho2 q hq)
    clear hc2 ho2 hbw2 hb2 hb3
    go_wp2_with fail
    refine hcon.mono ?_
    rintro e w4 ⟨rfl, hfr⟩
    have hb4 : Below w1.heap.size w3 w4 := hfr.out.toBelow hb13.size (fun q hq => by
      rcases hq with h | h
      · exact HV1.out q h.symm
      · exact HV2.out q h.symm)
    have hbw4 : Below w.heap.size w w4 := hbw3.trans (hb4.mono hb1.size)
    clear hcon hfr hb4
    go_wp2
    go_ret
    exact ⟨rfl, hbw4⟩
  · have HG : Hid (∀ t, ¬ Good l t) := fun t h => hg ⟨t, h⟩
    have hc := refDecode_bad l w HG.out hl
    clear hg
    go_enter Tryd.func32, Tryd.ntmps32
    go_wp2_with fail
    refine hc.mono ?_
    rintro e w1 ⟨rfl, hb1⟩
    have hc1 := decode_bad l w1 (HR.out.below hb1 HR.out.1) HG.out hl
    clear hc
    go_wp2_with fail
    refine hc1.mono ?_
    rintro e w2 ⟨rfl, hb2⟩
    have hbw2 : Below w.heap.size w w2 := hb1.trans (hb2.mono hb1.size)
    have hc2 := decode_bad l w2 (HR.out.below hbw2 HR.out.1) HG.out hl
    clear hc1 hb1 hb2
    go_wp2_with fail
    refine hc2.mono ?_
    rintro e w3 ⟨rfl, hb3⟩
    have hbw3 : Below w.heap.size w w3 := hbw2.trans (hb3.mono hbw2.size)
    have hcon := answers_three (.slice none 0 0) (.slice none 0 0) [] 0 0 w3 ⟨rfl, .inl ⟨rfl, rfl⟩⟩ ⟨rfl, .inl ⟨rfl, rfl⟩⟩ ⟨none, 0, rfl, by simp, fun h => by simp at h⟩ (by simp) (by omega) (by omega)
    clear hc2 hbw2 hb3
    go_wp2_with fail
    refine hcon.mono ?_
    rintro e w4 ⟨rfl, hfr⟩
    have hb4 : Below w3.heap.size w3 w4 := hfr.out.toBelow (Nat.le_refl _) (fun q hq => by
      rcases hq with h | h
      · simp [Value.ownBlock] at h
      · simp [Value.ownBlock] at h)
    have hbw4 : Below w.heap.size w w4 := hbw3.trans (hb4.mono hbw3.size)
    clear hcon hfr hb4
    go_wp2
    go_ret
    exact ⟨rfl, hbw4⟩

theorem EncSpec.bytes {l : List At} {t : ByteArray} (h : EncSpec l t) : ∃ y, t = bstr y ∧ y.length ≤ 8 + 21 * l.length := by
  have hz := h.size
  rcases h with ⟨_, out, _, rfl⟩ | ⟨_, rfl⟩
  · exact ⟨_, rfl, by rwa [bstr_size] at hz⟩
  · exact ⟨_, rfl, by simp⟩

set_option maxRecDepth 100000 in
set_option maxHeartbeats 4000000 in
theorem codes_walk (v1 : Value) (l : List At) (y : List UInt8) (w : World) (hr : RulesAt w) (h1 : SliceOf w v1 l) (hs1 : ∀ a ∈ l, short a) (hlen : l.length ≤ 1048576) (hy : y.length ≤ 33554432) :
    Calls Tryd.prog 9 #[v1, .string (bstr y)] w fun e w' => e = .returned (.bool true) ∧ Below w.heap.size w w' := by
  have HR : Hid (RulesAt w) := hr
  have H1 : Hid (SliceOf w v1 l) := h1
  have HS1 : Hid (∀ a ∈ l, short a) := hs1
  obtain ⟨ad1, cp1, rfl, _, _⟩ := h1
  clear hr hs1
  go_enter Tryd.func9, Tryd.ntmps9
  go_wp2_with fail
  refine (lent_any _ l w H1.out (by omega)).mono ?_
  rintro e w1 ⟨gx, rfl, hox, hb1⟩
  have nx := own_lt hox gx rfl
  go_wp2_with fail
  refine (refEncode_any _ l w1 (H1.out.below hb1) HS1.out (by omega)).mono ?_
  rintro e w2 ⟨t2, rfl, hj2, hb2⟩
  have hbw2 : Below w.heap.size w w2 := hb1.trans (hb2.mono hb1.size)
  have hox2 := owns_below hox hb2
  have hz2 := hb2.size
  clear hox hb2 hb1
  obtain ⟨y2, rfl, hy2⟩ := hj2.out.bytes
  generalize hnx8 : l.length + 8 = nx8 at *
  have HNX : Hid (nx8 = (l ++ List.replicate 8 bey).length) := by rw [Hid]; simp; omega
  have q1 : (0 : Int) ≤ (l.length : Int) := by omega
  have q2 : (l.length : Int) ≤ (nx8 : Int) := by omega
  have q5 : nx8 ≤ 4194312 := by omega
  have HN8 : Hid (l.length + 8 = nx8) := hnx8
  clear hnx8
  have HX2 : Hid (w2.ownsRow w.heap.size 52 6 (.slice (some ⟨gx, 0, none⟩) nx8 nx8) nx8 (flat (l ++ List.replicate 8 bey))) := hox2
  clear hox2
  generalize hcd : encCode l = c at *
  have HCD : Hid (encCode l = c) := hcd
  clear hcd
  have HLJ : Hid (∀ W, Below w.heap.size w W → Below w2.heap.size w2 W → Calls Tryd.prog 31 #[.slice (some ⟨gx, 0, none⟩) l.length nx8] W fun e w' => ∃ t, e = .returned (.tuple #[.string t, .int .i64 c]) ∧ Hid (EncSpec l t) ∧ Below W.heap.size W w') := fun W hW hW2 => by
    have := encode_any _ l W (HR.out.below hW HR.out.1) (lent_cut (owns_below HX2.out hW2) HNX.out) HS1.out (by omega)
    rw [HCD.out] at this
    exact this
  go_wp2_with fail
  refine (HLJ.out _ hbw2 (Below.refl _ _)).mono ?_
  rintro e w3 ⟨t3, rfl, hj3, hb3⟩
  have hb23 : Below w2.heap.size w2 w3 := hb3
  have hbw3 : Below w.heap.size w w3 := hbw2.trans (hb23.mono hbw2.size)
  have e32 : t3 = bstr y2 := EncSpec.unique hj3.out hj2.out
  subst e32
  have SX : Hid (SliceOf w3 (.slice (some ⟨gx, 0, none⟩) nx8 nx8) (l ++ List.replicate 8 bey)) := sliceOf_owns HNX.out (owns_below HX2.out hb23)
  clear hb3 HLJ hb23 hj2 hj3
  go_wp2_with fail
  refine (lent_any _ l w3 (H1.out.below hbw3) (by omega)).mono ?_
  rintro e w4 ⟨g4, rfl, ho4, hb4⟩
  have hbw4 : Below w.heap.size w w4 := hbw3.trans (hb4.mono hbw3.size)
  have S4 : Hid (SliceOf w4 (.slice (some ⟨g4, 0, none⟩) (l.length + 8) (l.length + 8)) (l ++ List.replicate 8 bey)) := sliceOf_owns (by simp) ho4
  have SX4 : Hid (SliceOf w4 (.slice (some ⟨gx, 0, none⟩) nx8 nx8) (l ++ List.replicate 8 bey)) := SX.out.below hb4
  clear ho4 hb4 SX
  go_wp2_with fail
  refine (sameAtoms_any _ _ _ w4 SX4.out S4.out (by simp; omega)).mono ?_
  rintro e w5 ⟨rfl, hb5⟩
  have hbw5 : Below w.heap.size w w5 := hbw4.trans (hb5.mono hbw4.size)
  clear hb5 SX4 S4
  have hc1 := decodes_any y w5 (HR.out.below hbw5 HR.out.1) hy
  go_wp2_with fail
  refine hc1.mono ?_
  rintro e w6 ⟨rfl, hb6⟩
  have hbw6 : Below w.heap.size w w6 := hbw5.trans (hb6.mono hbw5.size)
  have hc2 := decodes_any y2 w6 (HR.out.below hbw6 HR.out.1) (by omega)
  clear hc1 hb6
  go_wp2_with fail
  refine hc2.mono ?_
  rintro e w7 ⟨rfl, hb7⟩
  have hbw7 : Below w.heap.size w w7 := hbw6.trans (hb7.mono hbw6.size)
  clear hc2 hb7
  go_wp2
  go_ret
  exact ⟨rfl, hbw7⟩
end Go.Proofs.YtahdlejgjcjeoaaDoor

namespace Go.Proofs.YtahdlejgjcjeoaaDoor
open Go.RowKit Go.ChangeShapes Go.WideShapes

/-- A struct of six cells. -/
theorem open_six {H : Type} {en : TypeId × Value → H} {P : Program} {w : World} {base : Nat} {sp : Nat → Bool} {held : Bool} {fuel : Nat} {t : TypeId} {cs : List Value} {x : DataW H × List MemPlace} {f0 f1 f2 f3 f4 f5 : Field}
    (ht : P.underlying t = some (.struct #[f0, f1, f2, f3, f4, f5])) (hC : P.cellsOf t = 6)
    (o0 : f0.offset = 0) (o1 : f1.offset = 1) (o2 : f2.offset = 2) (o3 : f3.offset = 3) (o4 : f4.offset = 4) (o5 : f5.offset = 5)
    (c0 : P.cellsOf f0.type = 1) (c1 : P.cellsOf f1.type = 1) (c2 : P.cellsOf f2.type = 1) (c3 : P.cellsOf f3.type = 1) (c4 : P.cellsOf f4.type = 1) (c5 : P.cellsOf f5.type = 1)
    (h : DataW.trod en P w base sp held fuel t cs = some x) :
    ∃ v0 v1 v2 v3 v4 v5 x0 x1 x2 x3 x4 x5 n, cs = [v0, v1, v2, v3, v4, v5] ∧ x = (.agg [x0.1, x1.1, x2.1, x3.1, x4.1, x5.1], x0.2 ++ (x1.2 ++ (x2.2 ++ (x3.2 ++ (x4.2 ++ x5.2))))) ∧
      DataW.trod en P w base sp held n f0.type [v0] = some x0 ∧ DataW.trod en P w base sp held n f1.type [v1] = some x1 ∧ DataW.trod en P w base sp held n f2.type [v2] = some x2 ∧
      DataW.trod en P w base sp held n f3.type [v3] = some x3 ∧ DataW.trod en P w base sp held n f4.type [v4] = some x4 ∧ DataW.trod en P w base sp held n f5.type [v5] = some x5 := by
  obtain ⟨xs, n, -, rfl, hl, hxl, hf⟩ := DataW.trod_struct ht h
  rw [hC] at hl
  have h0 := hf 0 f0 rfl
  have h1 := hf 1 f1 rfl
  have h2 := hf 2 f2 rfl
  have h3 := hf 3 f3 rfl
  have h4 := hf 4 f4 rfl
  have h5 := hf 5 f5 rfl
  match cs, hl, xs, hxl with
  | [v0, v1, v2, v3, v4, v5], _, [x0, x1, x2, x3, x4, x5], _ =>
    rw [o0, c0] at h0
    rw [o1, c1] at h1
    rw [o2, c2] at h2
    rw [o3, c3] at h3
    rw [o4, c4] at h4
    rw [o5, c5] at h5
    exact ⟨v0, v1, v2, v3, v4, v5, x0, x1, x2, x3, x4, x5, n, rfl, by simp, h0, h1, h2, h3, h4, h5⟩

theorem cellsI : Tryd.prog.cellsOf 3 = 1 := by kernel_rfl
theorem cellsS : Tryd.prog.cellsOf 9 = 1 := by kernel_rfl
theorem cellsB : Tryd.prog.cellsOf 4 = 1 := by kernel_rfl
theorem cellsA : Tryd.prog.cellsOf 52 = 6 := by kernel_rfl
theorem cellsR : Tryd.prog.cellsOf 158 = 6 := by kernel_rfl

/-- An atom as it is read. -/
def atomD {H : Type} (a : At) : DataW H := .agg [.lit (.int .i64 a.ty), .lit (.string a.key.data.toList), .lit (.int .i64 a.side), .lit (.int .i64 a.who), .lit (.string a.elem.data.toList), .lit (.int .i64 a.n)]

theorem wf_range {n : Int} (h : (Lit.int .i64 n).wf = true) : -9223372036854775808 ≤ n ∧ n ≤ 9223372036854775807 := by
  simp only [Lit.wf, Bool.and_eq_true, decide_eq_true_eq] at h
  have e1 : IntKind.i64.min = -9223372036854775808 := by rfl
  have e2 : IntKind.i64.max = 9223372036854775807 := by rfl
  rw [e1, e2] at h
  exact h

theorem open_atom {H : Type} {en : TypeId × Value → H} {w : World} {base : Nat} {sp : Nat → Bool} {held : Bool} {fuel : Nat} {cs : List Value} {x : DataW H × List MemPlace}
    (h : DataW.trod en Tryd.prog w base sp held fuel 52 cs = some x) : ∃ a : At, cs = enc a ∧ x = (atomD a, []) ∧ wide a := by
  obtain ⟨v0, v1, v2, v3, v4, v5, x0, x1, x2, x3, x4, x5, n, rfl, rfl, h0, h1, h2, h3, h4, h5⟩ := open_six Tryd.underlying52 cellsA rfl rfl rfl rfl rfl rfl cellsI cellsS cellsI cellsI cellsS cellsI h
  obtain ⟨n0, e0, rfl, r0⟩ := DataW.trod_int Tryd.underlying3 h0
  obtain ⟨n1, e1, rfl, -⟩ := DataW.trod_string Tryd.underlying9 h1
  obtain ⟨n2, e2, rfl, r2⟩ := DataW.trod_int Tryd.underlying3 h2
  obtain ⟨n3, e3, rfl, r3⟩ := DataW.trod_int Tryd.underlying3 h3
  obtain ⟨n4, e4, rfl, -⟩ := DataW.trod_string Tryd.underlying9 h4
  obtain ⟨n5, e5, rfl, r5⟩ := DataW.trod_int Tryd.underlying3 h5
  simp only [List.cons.injEq, and_true] at e0 e1 e2 e3 e4 e5
  subst e0 e1 e2 e3 e4 e5
  exact ⟨⟨n0, n1, n2, n3, n4, n5⟩, rfl, rfl, wf_range r0, wf_range r2, wf_range r3, wf_range r5⟩

/-- What each place has, a list has. -/
theorem list_of_each {α : Type} {Q : Nat → α → Prop} : ∀ n, (∀ i, i < n → ∃ a, Q i a) → ∃ l : List α, l.length = n ∧ ∀ i (h : i < l.length), Q i l[i]
  | 0, _ => ⟨[], rfl, fun i h => by simp at h⟩
  | n + 1, h => by
    obtain ⟨l, hl, hq⟩ := list_of_each n (fun i hi => h i (by omega))
    obtain ⟨a, ha⟩ := h n (by omega)
    refine ⟨l ++ [a], by simp [hl], fun i hi => ?_⟩
    by_cases hin : i < l.length
    · rw [List.getElem_append_left hin]
      exact hq i hin
    · have : i = l.length := by simp at hi; omega
      subst this
      simp only [List.getElem_append_right (Nat.le_refl _), Nat.sub_self, List.getElem_cons_zero]
      rw [hl]
      exact ha

theorem bulk_part {H : Type} {d : DataW H} : ∀ {l : List (DataW H)}, d ∈ l → Rows.uptoBulk d ≤ Rows.uptoBulkAll l
  | x :: r, h => by
    simp only [Rows.uptoBulkAll]
    rcases List.mem_cons.1 h with e | e
    · subst e; omega
    · have := bulk_part e; omega

theorem bulk_atom {H : Type} (a : At) : a.key.size + a.elem.size ≤ Rows.uptoBulk (atomD (H := H) a) := by
  simp [atomD, Rows.uptoBulk, Rows.uptoBulkAll]
  omega

theorem bulk_atoms {H : Type} : ∀ l : List (DataW H), (∀ d ∈ l, ∃ a, d = atomD a) → l.length ≤ Rows.uptoBulkAll l
  | [], _ => Nat.zero_le _
  | x :: r, h => by
    obtain ⟨a, rfl⟩ := h x (by simp)
    have := bulk_atoms r (fun d hd => h d (by simp [hd]))
    simp only [Rows.uptoBulkAll, List.length_cons]
    have : 1 ≤ Rows.uptoBulk (atomD (H := H) a) := by simp [atomD, Rows.uptoBulk]
    omega

set_option maxRecDepth 100000 in
/-- A LIST OF ATOMS THAT IS HANDED IN. -/
theorem open_atomsR {H : Type} {en : TypeId × Value → H} {w : World} {r : Reach} {b0 : Nat} {v : Value} {d : DataW H} {ps : List MemPlace}
    (hval : Value.okWide Tryd.prog w r b0 22 v) (hd : DataW.Trod en Tryd.prog w 0 (fun _ => true) true 22 v d ps) (hk : Rows.uptoBulk d ≤ 1048576) :
    ∃ l, SliceOf w v l ∧ (∀ a ∈ l, short a) ∧ l.length ≤ 1048576 ∧ (∀ a ∈ l, wide a) := by
  obtain ⟨ad, len, cap, rfl⟩ := okWide_slice Tryd.underlying22 hval
  obtain ⟨fuel, hf⟩ := hd
  rcases DataW.trod_slice Tryd.underlying22 hf with ⟨hc, -⟩ | ⟨a, len', cap', elems, rest, n, -, hc, hx, -, hl, -, hlen, hel, -, -⟩
  · simp [Value.cells] at hc
    obtain ⟨rfl, rfl, rfl⟩ := hc
    exact ⟨[], sliceOf_nil w, by simp, Nat.zero_le _, by simp⟩
  · simp [Value.cells] at hc
    obtain ⟨rfl, rfl, rfl⟩ := hc
    simp only [Prod.mk.injEq] at hx
    obtain ⟨rfl, -⟩ := hx
    have each : ∀ i, i < len → ∃ x : At, w.cells? 0 (a.add (i * 6)) 6 = some (enc x) ∧ elems[i]? = some (atomD x, []) ∧ wide x := by
      intro i hi
      have h1 := hel i hi
      rw [cellsA] at h1
      rw [List.getElem?_eq_getElem (by omega), Option.bind_eq_some_iff] at h1
      obtain ⟨cs, hcs, ht⟩ := h1
      obtain ⟨x, rfl, hx, hwx⟩ := open_atom ht
      exact ⟨x, hcs, by rw [List.getElem?_eq_getElem (by omega), hx], hwx⟩
    obtain ⟨l, hll, hq⟩ := list_of_each len each
    have hall : ∀ y ∈ elems.map (·.1), ∃ x ∈ l, y = atomD x := by
      intro y hy
      obtain ⟨i, hi⟩ := List.getElem?_of_mem hy
      have hi' : i < l.length := by
        have := (List.getElem?_eq_some_iff.1 hi).1
        simp at this
        omega
      have := (hq i hi').2.1
      rw [List.getElem?_map, this] at hi
      simp at hi
      exact ⟨l[i], List.getElem_mem hi', hi.symm⟩
    have hin : ∀ x ∈ l, atomD x ∈ elems.map (·.1) := by
      intro x hx
      obtain ⟨i, hi, rfl⟩ := List.getElem_of_mem hx
      have := (hq i hi).2.1
      exact List.mem_map.2 ⟨_, List.mem_of_getElem? this, rfl⟩
    have hb : Rows.uptoBulkAll (elems.map (·.1)) ≤ 1048576 := by
      simp only [Rows.uptoBulk] at hk
      omega
    have hlen2 : l.length ≤ 1048576 := by
      have := bulk_atoms (elems.map (·.1)) (fun y hy => by obtain ⟨x, _, e⟩ := hall y hy; exact ⟨x, e⟩)
      rw [List.length_map] at this
      omega
    refine ⟨l, ⟨some a, cap, by rw [hll], by omega, fun hp => ?_⟩, fun x hx => ?_, hlen2, fun x hx => ?_⟩
    · have cell : ∀ (k : Nat) (h : k < l.length) (j : Nat), j < 6 → w.cell? ((a.add (k * 6)).add j) = (enc l[k])[j]? := fun k h j hj => (World.cells?_some (hq k h).1).2.2 j hj
      obtain ⟨b, off, spot⟩ := a
      have c0 : w.cell? ⟨b, off, spot⟩ = (enc l[0])[0]? := cell 0 hp 0 (by decide)
      have hspot : spot = none := by
        cases spot with
        | none => rfl
        | some q =>
          unfold World.cell? at c0
          split at c0 <;> simp [enc] at c0
      subst hspot
      refine ⟨b, off, rfl, ?_, ?_⟩
      · have : w.heap[b]? ≠ none := by
          intro hn
          unfold World.cell? at c0
          rw [hn] at c0
          simp [enc] at c0
        have := mt Array.getElem?_eq_none this
        omega
      · intro k h
        have hadd : ∀ j, ((⟨b, off, none⟩ : Addr).add (k * 6)).add j = ⟨b, off + k * 6 + j, none⟩ := by
          intro j
          unfold Addr.add
          repeat' split
          all_goals simp_all
        refine ⟨?_, ?_, ?_, ?_, ?_, ?_⟩
        · have := cell k h 0 (by decide); rw [hadd] at this; exact this
        · have := cell k h 1 (by decide); rw [hadd] at this; exact this
        · have := cell k h 2 (by decide); rw [hadd] at this; exact this
        · have := cell k h 3 (by decide); rw [hadd] at this; exact this
        · have := cell k h 4 (by decide); rw [hadd] at this; exact this
        · have := cell k h 5 (by decide); rw [hadd] at this; exact this
    · have h1 := bulk_part (hin x hx)
      have h2 := bulk_atom (H := H) x
      exact ⟨by omega, by omega⟩
    · obtain ⟨i, hi, rfl⟩ := List.getElem_of_mem hx
      exact (hq i hi).2.2

set_option maxRecDepth 100000 in
theorem open_atoms {H : Type} {en : TypeId × Value → H} {w : World} {r : Reach} {b0 : Nat} {v : Value} {d : DataW H} {ps : List MemPlace}
    (hval : Value.okWide Tryd.prog w r b0 22 v) (hd : DataW.Trod en Tryd.prog w 0 (fun _ => true) true 22 v d ps) (hk : Rows.uptoBulk d ≤ 1048576) :
    ∃ l, SliceOf w v l ∧ (∀ a ∈ l, short a) ∧ l.length ≤ 1048576 := by
  obtain ⟨l, h1, h2, h3, -⟩ := open_atomsR hval hd hk
  exact ⟨l, h1, h2, h3⟩

theorem gRules : Tryd.prog.globalNamed "ripple/state.rules" = some 0 := by kernel_rfl
theorem gRulesType : (Tryd.prog.globals[0]?).map (·.type) = some 159 := by kernel_rfl

/-- One row of the table. -/
theorem open_rule {W : World} {base : Nat} {sp : Nat → Bool} {held : Bool} {fuel : Nat} {cs : List Value} {p : List MemPlace} {a b c d e : Int} {r : Bool}
    (h : DataW.trod (fun _ => ()) Tryd.prog W base sp held fuel 158 cs = some (.agg [.lit (.int .i64 a), .lit (.int .i64 b), .lit (.int .i64 c), .lit (.int .i64 d), .lit (.int .i64 e), .lit (.bool r)], p)) :
    cs = [.int .i64 a, .int .i64 b, .int .i64 c, .int .i64 d, .int .i64 e, .bool r] := by
  obtain ⟨v0, v1, v2, v3, v4, v5, x0, x1, x2, x3, x4, x5, n, rfl, hx, h0, h1, h2, h3, h4, h5⟩ := open_six Tryd.underlying158 cellsR rfl rfl rfl rfl rfl rfl cellsI cellsI cellsI cellsI cellsI cellsB h
  obtain ⟨n0, e0, rfl, -⟩ := DataW.trod_int Tryd.underlying3 h0
  obtain ⟨n1, e1, rfl, -⟩ := DataW.trod_int Tryd.underlying3 h1
  obtain ⟨n2, e2, rfl, -⟩ := DataW.trod_int Tryd.underlying3 h2
  obtain ⟨n3, e3, rfl, -⟩ := DataW.trod_int Tryd.underlying3 h3
  obtain ⟨n4, e4, rfl, -⟩ := DataW.trod_int Tryd.underlying3 h4
  obtain ⟨n5, e5, rfl⟩ := DataW.trod_bool Tryd.underlying4 h5
  simp at hx e0 e1 e2 e3 e4 e5
  obtain ⟨⟨rfl, rfl, rfl, rfl, rfl, rfl⟩, -⟩ := hx
  subst e0 e1 e2 e3 e4 e5
  rfl

theorem take_eq {cs : List Value} {o : Nat} {v0 v1 v2 v3 v4 v5 : Value} (h : (cs.drop o).take 6 = [v0, v1, v2, v3, v4, v5]) :
    cs[o]? = some v0 ∧ cs[o + 1]? = some v1 ∧ cs[o + 2]? = some v2 ∧ cs[o + 3]? = some v3 ∧ cs[o + 4]? = some v4 ∧ cs[o + 5]? = some v5 := by
  have at6 : ∀ j, j < 6 → cs[o + j]? = [v0, v1, v2, v3, v4, v5][j]? := by
    intro j hj
    rw [← h, List.getElem?_take, if_pos hj, List.getElem?_drop]
  exact ⟨at6 0 (by decide), at6 1 (by decide), at6 2 (by decide), at6 3 (by decide), at6 4 (by decide), at6 5 (by decide)⟩

/-- THE TABLE, out of what the row lists. -/
theorem rules_of_laid {W : World} (h : laidMetH Tryd.prog [("ripple/state.rules", Rows.laid_ripple_state_rules)] W) : RulesAt W := by
  have h' : laidMet Tryd.prog [("ripple/state.rules", Rows.laid_ripple_state_rules)] W := h
  obtain ⟨ps, ⟨g, t, cs, fuel, p, q, hg, ht, hvar, hd, -, -⟩, -⟩ := h'
  obtain rfl := Option.some.inj (gRules.symm.trans hg)
  obtain rfl := Option.some.inj (gRulesType.symm.trans ht)
  obtain ⟨xs, m, -, hx, hl, hxl, hf⟩ := DataW.trod_array Tryd.underlying159 hd
  rw [cellsR] at hf
  have hcell : ∀ i, W.cell? ⟨0, i, none⟩ = cs.toList[i]? := fun i => by rw [World.var?_cell gRules hvar i]; simp
  match xs, hxl with
  | [x0, x1, x2, x3, x4], _ =>
    obtain ⟨y0, p0⟩ := x0
    obtain ⟨y1, p1⟩ := x1
    obtain ⟨y2, p2⟩ := x2
    obtain ⟨y3, p3⟩ := x3
    obtain ⟨y4, p4⟩ := x4
    simp only [Rows.laid_ripple_state_rules, Prod.mk.injEq, List.map_cons, List.map_nil, DataW.agg.injEq, List.cons.injEq, and_true] at hx
    obtain ⟨⟨rfl, rfl, rfl, rfl, rfl⟩, -⟩ := hx
    have r0 := take_eq (open_rule (hf 0 (by decide)))
    have r1 := take_eq (open_rule (hf 1 (by decide)))
    have r2 := take_eq (open_rule (hf 2 (by decide)))
    have r3 := take_eq (open_rule (hf 3 (by decide)))
    have r4 := take_eq (open_rule (hf 4 (by decide)))
    simp only [← hcell] at r0 r1 r2 r3 r4
    refine ⟨?_, r0, r1, r2, r3, r4⟩
    have c0 := r0.1
    have : W.heap[0]? ≠ none := by
      intro hn
      unfold World.cell? at c0
      simp [hn] at c0
    have := mt Array.getElem?_eq_none this
    omega

end Go.Proofs.YtahdlejgjcjeoaaDoor

namespace Go.Proofs.YtahdlejgjcjeoaaDoor

/-- WHO IS ALONE HAS ONLY SUCH BESIDE HIM AS ARE GONE. -/
theorem onlyLeaving_of_quiet {P : Program} {m : Machine} (h : m.quiet) : m.OnlyLeaving P := by
  obtain ⟨h1, h2⟩ := h
  refine ⟨fun g hg => ⟨0, ?_⟩, h2⟩
  have := List.all_eq_true.1 h1 g hg
  simpa [Goroutine.LeavesIn] using this

theorem leaving_of_handed {a : Assume} {C : Checked} {os : Os} {f : FuncId} {r : Reach} {Pre : World → Array Value → Prop} {Post : World → Array Value → Value → World → Prop}
    (h : ReturnsInHanded a C os f r Pre Post) : ReturnsInLeavingWide a C os f r Pre Post := fun enter => by
  obtain ⟨h1, h2, h3, h4, h5⟩ := h enter
  refine ⟨h1, h2, h3, h4, fun w tape i hf => ?_⟩
  obtain ⟨n, v, w', r1, r2, r3, r4, ⟨j, last, q1, q2, q3⟩, r6⟩ := h5 w tape i hf
  exact ⟨n, v, w', r1, r2, r3, r4, ⟨j, last, q1, q2, q3.2.1, onlyLeaving_of_quiet q3.1, q3.2.2⟩, r6⟩

/-- THE ROW, where it says 'leaving' and bears a condition. -/
theorem holds_of_cond_leaving {p : Pinned} {s : OpenSpec} {c : OpenClaim} (f : FuncId) (fn : Func)
    (hn : c.program = p.name) (hs : c.sum = p.sum) (hsp : c.spec = s.name)
    (hstart : c.start = .entering) (hout : c.outside = []) (hin : c.inits = []) (hun : c.under = none) (hi4 : c.initsInPlace = [] ∧ c.initsUnfollowed = false ∧ c.initsRecurse = false ∧ c.initsNamed = [] ∧ c.initsPassed = []) (hnb : c.noBlocks = false) (hlv : c.leaving = true) (hfo : c.followed = none) (hnar : c.narrowed = s.cond.isSome) (hstill : c.still = false)
    (hfn : p.checked.prog.funcNamed c.func = some f) (hf : p.checked.prog.funcs[f]? = some fn)
    (closed : joinedFacts p.checked.prog f fn s.bare c = true)
    (hinst : fn.isInstance p.checked.prog c.origin c.targs) (hwrap : fn.isWrapper p.checked.prog c.wrapper c.mainSum)
    (h : ∀ os : Os, os.Started → ∀ (H : Type) (enc : TypeId × Value → H), (∀ a b, enc a = enc b → a = b) → ∀ F : Stop.Interp,
      ReturnsInLeavingWide c.assume p.checked os f .any (c.pre enc p.checked.prog fn s) ((s.at F).post enc p.checked.prog fn c.apart c.fresh c.handsOn c.again)) : c.holds p s := by
  simp only [joinedFacts, Bool.and_eq_true, beq_iff_eq, Array.all_eq_true_iff_forall_mem, List.all_eq_true, decide_eq_true_eq] at closed
  obtain ⟨⟨⟨⟨⟨⟨⟨⟨⟨⟨⟨⟨⟨⟨⟨⟨⟨⟨⟨⟨⟨⟨⟨⟨⟨⟨⟨⟨⟨⟨⟨k1, k2⟩, k3⟩, k4⟩, k5⟩, k6⟩, k7⟩, k8⟩, k9⟩, k10⟩, k11⟩, k12⟩, k13⟩, k14⟩, k15⟩, k16⟩, k17⟩, k17b⟩, k18⟩, k19⟩, k20⟩, k21⟩, k22⟩, k23⟩, k23b⟩, k24⟩, k24b⟩, k24c⟩, k25⟩, k26⟩, k27⟩, k28⟩ := closed
  have hq : ∀ os : Os, Stop.quiet p.checked.prog os := fun os k hk => by rw [k9] at hk; cases hk
  refine ⟨k1, hn, hs, hsp, k2, k3, by unfold OpenClaim.startFits; rw [hstart]; exact k24, by unfold OpenClaim.startTold; rw [hstart]; exact ⟨hin, hun, hi4⟩, f, fn, hfn, hf, ⟨k4, k19⟩, (fun hb => by rw [hnb] at hb; cases hb), by unfold OpenClaim.namedList; rw [hfo]; exact k5, hinst, hwrap,
    k6.trans k7.symm, ⟨k8.trans k9.symm, by unfold Program.envWorded; rw [k9]; rfl, k23b⟩, k10, k11, k12, k13, k14, ⟨k15, k27, k28⟩, ⟨k16, k20⟩, ⟨k17, k21, k25, k26⟩, ⟨k22, k24b, k24c, k17b⟩, (by rw [hout, hnar]; cases hsh : c.shortTexts with | none => simp | some _ => rw [hsh] at k23; cases k23), fun n hn' => varReadable_some (k18 n hn'),
    ⟨_, by unfold OpenClaim.world; rw [hout, hstart]; exact WideRow.started_initial, hq _⟩, [], by unfold OpenClaim.lists; rw [hfo], fun os st _ H enc inj => ?_⟩
  have st' : os.Started := by unfold OpenClaim.world at st; rw [hout, hstart] at st; exact st
  rw [OpenClaim.post_not_still hstill]
  unfold OpenClaim.form
  rw [hstart, k6]
  intro F
  have e1 : c.okInput = Input.okWide := by unfold OpenClaim.okInput; rw [hnb]
  have e2 : c.atReturn p.checked.prog = leavingAtReturn p.checked.prog := by unfold OpenClaim.atReturn; rw [hlv]
  have e3 : c.always p.checked.prog [] = nothingAlways := by unfold OpenClaim.always; rw [hfo]
  have e4 : s.post enc p.checked.prog fn F c.outside c.apart c.fresh c.handsOn c.again = (s.at F).post enc p.checked.prog fn c.apart c.fresh c.handsOn c.again := by rw [hout]; rfl
  rw [e1, e2, e3]
  show ReturnsInOpen _ _ _ _ _ _ _ _ (s.post enc p.checked.prog fn F c.outside c.apart c.fresh c.handsOn c.again) _ _
  rw [e4]
  exact h os st' H enc inj F k24

/-- WHAT A CALL LEAVES THAT WRITES INTO NEW MEMORY ALONE. -/
theorem post_of_below {H : Type} {enc : TypeId × Value → H} {P : Program} {f : Func} {s : ChangeSpec} {apart fresh handsOn again : Bool} {W W' : World} {args : Array Value} {v : Value} {ds gs : List (DataW H)} {before pa pv : List MemPlace}
    (hW : DataW.Whole enc P f.params.toList s.vars apart W args.toList ds gs before)
    (hres : ∀ (b : Nat) (sp : Nat → Bool) (hd : Bool), DataW.TrodAll enc P W' b sp hd f.resultTypes.toList (v.resultList f.resultTypes.size) (s.fn H (ds ++ gs)).results [])
    (hargs : ∀ sp : Nat → Bool, (∀ p ∈ before, sp p.block = true) → DataW.TrodAll enc P W' 0 sp true f.params.toList args.toList (s.fn H (ds ++ gs)).args pa)
    (hvars : ∀ sp : Nat → Bool, (∀ p ∈ before, sp p.block = true) → DataW.TrodVars enc P W' sp s.vars (s.fn H (ds ++ gs)).vars pv)
    (hps : before = pa ++ pv) (hb : RowKit.Below W.heap.size W W')
    (hok : ∀ (j : Nat) (t : TypeId) (r : Value), f.resultTypes[j]? = some t → (v.resultList f.resultTypes.size)[j]? = some r → Value.okWide P W' .any 0 t r) :
    s.post enc P f apart fresh handsOn again W args v W' := by
  have hlt : ∀ p ∈ before, p.block < W.heap.size := fun p hp => hW.lt p hp
  have hold : ∀ p ∈ before, (fun b => decide (b < W.heap.size)) p.block = true := fun p hp => by simpa using hlt p hp
  refine ⟨ds, gs, before, [], pa, pv, hW, hres _ _ _, hargs _ hold, hvars _ hold, hb.frame _, fun _ => ?_⟩
  obtain ⟨_, _, _, _, _, hz, hn⟩ := hW
  refine ⟨hok, _, _, ([] ++ pa) ++ pv, ⟨[] ++ pa, pv, ChangeShapes.trodAll_append (hargs _ (fun _ _ => rfl)) (hres _ _ _), hvars _ (fun _ _ => rfl), rfl, ?_, ?_⟩, ?_⟩
  · intro b off hp
    have hp' : MemPlace.cell b off ∈ before := by rw [hps]; simpa using hp
    rw [hb.frozen (hlt _ hp')]
    exact hz b off hp'
  · intro ha
    have := hn ha
    rw [hps] at this
    simpa using this
  · intro p hp _
    rw [hps]
    simpa using hp

/-- A TIED CARD whose call can start goroutines. -/
theorem holds_tied_goes_at (Lk : Looks) {p : Pinned} {s : OpenSpec} {c : OpenClaim} (kinds : List LaidKind) (tests : Bool) (har : Bool × String) (lk g : Bool)
    (hc : c.holds p s) (hw : c.wfByText s = true) (htie : c.laidByTextAt Lk p kinds tests)
    (hst : c.start = .entering) (hnb : c.noBlocks = false ∧ c.again = false) (hm : p.checked.prog.mainIs = some (har.1, har.2.toList)) (hn : (!har.1 && har.2.isEmpty && !lk) = false)
    (hl : ∀ f fn, p.checked.prog.funcNamed c.func = some f → p.checked.prog.funcs[f]? = some fn → lk = p.checked.prog.looks [] ∧ ∀ (j : Nat) t, fn.params[j]? = some t → p.checked.prog.wantsStandIn t = false)
    (hg : g = c.goesBy p.checked.prog) :
    Claim7.holds p (.plain s) { stood := { row := c, standIns := [], harness := har, looks := lk }, kinds := [], alts := [], goes := g, laidByText := true, laidKinds := kinds, laidTests := tests, laidLooks := Lk } := by
  have h6 : ∀ r : OpenClaim, Claim7.isSixth { stood := { row := r, standIns := [], harness := har, looks := lk }, kinds := [] } = false := fun r => by simpa [Claim7.isSixth] using hn
  exact ⟨Claim7.tied_new_at Lk kinds tests (Claim7.new_of_sixth hc har lk hst hnb hm (h6 c) hl) hw, (fun D hD => by cases hD), htie, (fun h => by cases h), hg⟩

end Go.Proofs.YtahdlejgjcjeoaaDoor

namespace Go.Proofs.YtahdlejgjcjeoaaDoor.codesCard
open Go.ChangeShapes Go.WideShapes Go.ChangeAt Go.RowKit

theorem own : ownKnob Tryd.prog.godebug = none := by kernel_rfl
theorem lays : laidOutB Tryd.prog = true := by kernel_rfl
theorem readA : Tryd.prog.readableRec 22 = true := by kernel_rfl
theorem readS : Tryd.prog.readableRec 9 = true := by kernel_rfl
theorem rowS : 9 < Tryd.prog.types.size := of_decide_eq_true (by kernel_rfl)
theorem rowA : 22 < Tryd.prog.types.size := of_decide_eq_true (by kernel_rfl)

set_option maxRecDepth 100000 in
/-- FOR EVERY INPUT OF THAT BULK AND EVERY WORLD THAT HOLDS THE TABLE. -/
theorem contract (H : Type) (en : TypeId × Value → H) (W : World) (base : Nat) (args : Array Value) (ds gs : List (DataW H)) (before : List MemPlace)
    (hval : ∀ (j : Nat) t v, Tryd.f9.params[j]? = some t → args[j]? = some v → Value.okWide Tryd.prog W .any base t v)
    (hW : DataW.Whole en Tryd.prog Tryd.f9.params.toList Rows.codesSpec.vars false W args.toList ds gs before) (hk : Rows.uptoSmall H (ds ++ gs) = true) (hL : laidMetH Tryd.prog Rows.codesUptoRow.laid W) :
    Calls Tryd.prog 9 args W fun e W' => ∃ v, e = .returned v ∧ Rows.codesSpec.post en Tryd.prog Tryd.f9 false true false false W args v W' := by
  have hW' := hW
  obtain ⟨p, q, hA0, hV, rfl, hfz, hnd⟩ := hW
  have hA : DataW.TrodAll en Tryd.prog W 0 (fun _ => true) true Tryd.f9.params.toList args.toList ds p := hA0
  rw [Tryd.params9] at hA hval
  obtain ⟨v0, v1, d0, d1, p0, p1, rfl, rfl, rfl, h0, h1⟩ := trodAll_two hA
  obtain ⟨rfl, rfl⟩ := trodVars_none hV
  clear hA0
  have hb : Rows.uptoBulk d0 + (Rows.uptoBulk d1 + 0) ≤ 1048576 := by simpa [Rows.uptoSmall, Rows.uptoBulkAll] using hk
  obtain ⟨l, s1, t1, n1⟩ := open_atoms (hval 0 _ v0 rfl rfl) h0 (by omega)
  obtain ⟨y, rfl, rfl, rfl, -⟩ := Go.ChangeMaps.open_string Tryd.underlying9 (hval 1 _ v1 rfl rfl) h1
  have hy : y.data.toList.length ≤ 1048576 := by
    simp only [Rows.uptoBulk] at hb
    omega
  have hr := rules_of_laid hL
  have hw := codes_walk v0 l y.data.toList W hr s1 t1 n1 (by omega)
  rw [bstr_self] at hw
  refine hw.mono fun e W' ⟨he, hbel⟩ => ?_
  subst he
  have hlt : ∀ x ∈ p0 ++ [], x.block < W.heap.size := fun x hx => hW'.lt x (by simpa using hx)
  refine ⟨_, rfl, post_of_below (pa := p0 ++ []) (pv := []) hW' (fun _ _ _ => trodAll_cons_mk (shut_bool Tryd.underlying4 _) trodAll_mk0) (fun sp hsp => ?_) (fun _ _ => rfl) rfl hbel (ok_one (by kernel_rfl) rfl (okWide_bool_mk Tryd.underlying4 _))⟩
  rw [Tryd.params9]
  have k0 : DataW.Trod en Tryd.prog W' 0 sp true 22 v0 d0 p0 := WideElems.Trod_stays lays readA rowA h0 (fun x hx => hbel.same (hlt x (by simp [hx]))) (fun x hx => hsp x (by simp [hx]))
  have k1 : DataW.Trod en Tryd.prog W' 0 sp true 9 (.string y) (.lit (.string y.data.toList)) [] := WideElems.Trod_stays lays readS rowS h1 (fun x hx => by cases hx) (fun x hx => by cases hx)
  exact trodAll_mk2 k0 k1

/-- A WORLD FOR THE WITNESS. -/
def laidWorld (P : Program) (os : Os) : World :=
  { World.holding P os ⟨#[], #[], []⟩ with heap := (World.holding P os ⟨#[], #[], []⟩).heap.modify 0 fun
      | .cells _ t frozen => .cells #[.int .i64 0, .int .i64 5, .int .i64 1, .int .i64 2147483647, .int .i64 0, .bool false, .int .i64 1, .int .i64 5, .int .i64 1, .int .i64 2147483647, .int .i64 0, .bool false, .int .i64 0, .int .i64 0, .int .i64 0, .int .i64 0, .int .i64 8, .bool false, .int .i64 1, .int .i64 0, .int .i64 0, .int .i64 0, .int .i64 8, .bool false, .int .i64 0, .int .i64 5, .int .i64 1, .int .i64 2147483647, .int .i64 8, .bool true] t frozen
      | o => o }
theorem laid_met (os : Os) : laidMet Tryd.prog Rows.codesUptoRow.laid ((laidWorld Tryd.prog os).forCall (fun _ _ => 0) ⟨#[], #[.slice none 0 0, .string ⟨#[]⟩], []⟩).memory :=
  laidMet_of_run' 8 (by kernel_rfl) (by kernel_rfl)
theorem reads (os : Os) {H : Type} (en : TypeId × Value → H) : ∃ places, DataW.whole en Tryd.prog ((laidWorld Tryd.prog os).forCall (fun _ _ => 0) ⟨#[], #[.slice none 0 0, .string ⟨#[]⟩], []⟩).memory Tryd.f9.params.toList Rows.codesSpec.vars false #[Value.slice none 0 0, .string ⟨#[]⟩].toList 8 = some ([.nil, .lit (.string [])], [], places) :=
  ⟨[], by kernel_rfl⟩

set_option maxRecDepth 100000 in
theorem liftedUpto (os : Os) (started : os.Started) (H : Type) (en : TypeId × Value → H) (F : Stop.Interp) :
    ReturnsInHanded {} Tryd.checked os 9 .any ((Rows.OpenSpec.upto Rows.codesSpec).preRow en Tryd.prog Tryd.f9 Rows.codesUptoRow.domain false Rows.codesUptoRow.laid) (((Rows.OpenSpec.upto Rows.codesSpec).at F).post en Tryd.prog Tryd.f9 false true false false) := by
  obtain ⟨places, hx⟩ := reads os en
  refine returnsInHanded_of_row (C := Tryd.checked) (s := Rows.OpenSpec.upto Rows.codesSpec) own started (by kernel_rfl) Tryd.func9
    (witness_row_at (enc := en) (C := Tryd.checked) false (laidWorld Tryd.prog os) #[.slice none 0 0, .string ⟨#[]⟩] rfl (by kernel_rfl) (by kernel_rfl) (by kernel_rfl)
      (OpenSpec.preRow_of_cond 8 hx (by kernel_rfl) (fun k hk => by cases hk; kernel_rfl) (by kernel_rfl) (laid_met os))) ?_
  intro W base args ds gs before hval hW _ hcond _ hL _ _
  exact contract H en W base args ds gs before hval hW (hcond _ rfl) hL

theorem saidUpto : Rows.CodesUptoSaid :=
  holds_of_cond_leaving 9 Tryd.f9 rfl rfl rfl rfl rfl rfl rfl ⟨rfl, rfl, rfl, rfl, rfl⟩ rfl rfl rfl rfl rfl (by kernel_rfl) Tryd.func9 (by kernel_rfl)
    (of_decide_eq_true (by kernel_rfl)) (by unfold Func.isWrapper; first | (rw [if_pos (by decide +kernel)]; kernel_rfl) | (rw [if_neg (by decide +kernel)]; exact ⟨rfl, rfl⟩))
    (fun os started H en _ F => by rw [OpenClaim.pre_eq_preRow]; exact leaving_of_handed (liftedUpto os started H en F))

theorem plain (f : FuncId) (fn : Func) (hf : Tryd.pinned.checked.prog.funcNamed "ripple/ripplelaw.Codes" = some f) (hfn : Tryd.pinned.checked.prog.funcs[f]? = some fn) :
    false = Tryd.pinned.checked.prog.looks [] ∧ ∀ (j : Nat) t, fn.params[j]? = some t → Tryd.pinned.checked.prog.wantsStandIn t = false := by
  obtain rfl : f = 9 := Option.some.inj ((show Tryd.prog.funcNamed "ripple/ripplelaw.Codes" = some 9 by kernel_rfl).symm.trans hf) |>.symm
  obtain rfl : fn = Tryd.f9 := (Option.some.inj (Tryd.func9.symm.trans hfn)).symm
  refine ⟨by kernel_rfl, fun j t ht => ?_⟩
  rw [Tryd.params9] at ht
  have h2 : t = 22 ∨ t = 9 := by simpa using Array.mem_of_getElem? ht
  rcases h2 with rfl | rfl
  · exact (show Tryd.prog.wantsStandIn 22 = false by kernel_rfl)
  · exact (show Tryd.prog.wantsStandIn 9 = false by kernel_rfl)

/-- THE CARD. -/
theorem cardUpto : Rows.CodesUptoCardSaid :=
  holds_tied_goes_at .later _ _ _ _ _ saidUpto (by kernel_rfl) codesUpto_row_tie rfl ⟨rfl, rfl⟩ (by kernel_rfl) rfl plain (by kernel_rfl)

end Go.Proofs.YtahdlejgjcjeoaaDoor.codesCard

namespace Go.Proofs.YtahdlejgjcjeoaaDoor
theorem codesUpto_holds : Rows.CodesUptoCardSaid := codesCard.cardUpto
end Go.Proofs.YtahdlejgjcjeoaaDoor
