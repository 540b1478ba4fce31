/- The document's reading of bytes: the plain side; walks of its at and part. -/
import Derived.Test.YtfddkkkkehbecaaDoorDecW3
import Derived.Test.YtfddkkkkehbecaaDoorEncRef3
namespace Go.Proofs.YtfddkkkkehbecaaDoor
open Go.RowKit

/-- The byte number i; 0 where there is none. -/
def atD (l : List UInt8) (i : Nat) : Nat := (l.getD i 0).toNat
theorem atD_lt (l : List UInt8) (i : Nat) : atD l i < 256 := (l.getD i 0).toNat_lt
theorem atD_drop (l : List UInt8) (i j : Nat) : atD (l.drop i) j = atD l (i + j) := by
  unfold atD List.getD
  rw [List.getElem?_drop]

def rfKey (d : List UInt8) : Nat := atD d 1
def rfElem (d : List UInt8) : Nat := atD d (4 + rfKey d)
def rfEnd (d : List UInt8) : Nat := 5 + rfKey d + rfElem d
def rfAtom (d : List UInt8) : At :=
  ⟨atD d 0, bstr ((d.drop 2).take (rfKey d)), atD d (2 + rfKey d), atD d (3 + rfKey d), bstr ((d.drop (5 + rfKey d)).take (rfElem d)),
    ((((atD d (rfEnd d) * 256 + atD d (rfEnd d + 1)) * 256 + atD d (rfEnd d + 2)) * 256 + atD d (rfEnd d + 3) : Nat) : Int)⟩
def rfNext (d : List UInt8) : Nat := rfEnd d + 4

theorem atD_app {l r : List UInt8} {i : Nat} (h : l.length ≤ i) : atD (l ++ r) i = atD r (i - l.length) := by
  unfold atD List.getD
  rw [List.getElem?_append_right h]
theorem atD_be1 (n : Nat) (r : List UInt8) (h : n < 256) : atD (be n 1 ++ r) 0 = n := by
  show (UInt8.ofNat n).toNat = n
  simp
  omega
theorem atD_be4 (n : Nat) (r : List UInt8) (h : n < 4294967296) : ((atD (be n 4 ++ r) 0 * 256 + atD (be n 4 ++ r) 1) * 256 + atD (be n 4 ++ r) 2) * 256 + atD (be n 4 ++ r) 3 = n := by
  have e0 : atD (be n 4 ++ r) 0 = n / 256 / 256 / 256 % 256 := by show (UInt8.ofNat _).toNat = _; simp
  have e1 : atD (be n 4 ++ r) 1 = n / 256 / 256 % 256 := by show (UInt8.ofNat _).toNat = _; simp
  have e2 : atD (be n 4 ++ r) 2 = n / 256 % 256 := by show (UInt8.ofNat _).toNat = _; simp
  have e3 : atD (be n 4 ++ r) 3 = n % 256 := by show (UInt8.ofNat _).toNat = _; simp
  rw [e0, e1, e2, e3]
  omega

theorem rf_encA (a : At) (r : List UInt8) (h : mayB a = true) : rfAtom (encA a ++ r) = a ∧ (encA a ++ r).drop (rfNext (encA a ++ r)) = r := by
  obtain ⟨ty, key, side, who, elem, n⟩ := a
  have hm : 0 ≤ ty ∧ ty < 256 ∧ 0 ≤ side ∧ side < 256 ∧ 0 ≤ who ∧ who < 256 ∧ 0 ≤ n ∧ n < 4294967296 ∧ key.size < 256 ∧ elem.size < 256 := by
    simp only [mayB, decide_eq_true_eq] at h
    omega
  obtain ⟨h1, h2, h3, h4, h5, h6, h7, h8, h9, h10⟩ := hm
  have k1 : key.data.toList.length = key.size := by simp
  have k2 : elem.data.toList.length = elem.size := by simp
  obtain ⟨d, hd⟩ : ∃ d, encA ⟨ty, key, side, who, elem, n⟩ ++ r = d := ⟨_, rfl⟩
  have hd' : d = be ty.toNat 1 ++ (be key.size 1 ++ (key.data.toList ++ (be side.toNat 1 ++ (be who.toNat 1 ++ (be elem.size 1 ++ (elem.data.toList ++ (be n.toNat 4 ++ r))))))) := by
    rw [← hd]
    simp only [encA, List.append_assoc]
  have t0 : atD d 0 = ty.toNat := by rw [hd']; exact atD_be1 _ _ (by omega)
  have t1 : rfKey d = key.size := by
    unfold rfKey
    rw [hd', atD_app (by rw [be_length]; omega), be_length]
    exact atD_be1 _ _ h9
  have s2 : d.drop 2 = key.data.toList ++ (be side.toNat 1 ++ (be who.toNat 1 ++ (be elem.size 1 ++ (elem.data.toList ++ (be n.toNat 4 ++ r))))) := by
    rw [hd', show (2 : Nat) = 1 + 1 from rfl, ← List.drop_drop, drop_app (be_length _ _), drop_app (be_length _ _)]
  have sk : d.drop (2 + key.size) = be side.toNat 1 ++ (be who.toNat 1 ++ (be elem.size 1 ++ (elem.data.toList ++ (be n.toNat 4 ++ r)))) := by
    rw [← List.drop_drop, s2, drop_app k1]
  have t2 : atD d (2 + key.size) = side.toNat := by
    have := atD_drop d (2 + key.size) 0
    rw [sk, Nat.add_zero] at this
    rw [← this]
    exact atD_be1 _ _ (by omega)
  have t3 : atD d (3 + key.size) = who.toNat := by
    have := atD_drop d (2 + key.size) 1
    rw [sk, atD_app (by rw [be_length]; omega), be_length] at this
    rw [show 3 + key.size = 2 + key.size + 1 by omega, ← this]
    exact atD_be1 _ _ (by omega)
  have s4 : d.drop (4 + key.size) = be elem.size 1 ++ (elem.data.toList ++ (be n.toNat 4 ++ r)) := by
    rw [show 4 + key.size = (2 + key.size) + 1 + 1 by omega, ← List.drop_drop, ← List.drop_drop, sk, drop_app (be_length _ _), drop_app (be_length _ _)]
  have t4 : rfElem d = elem.size := by
    unfold rfElem
    rw [t1]
    have := atD_drop d (4 + key.size) 0
    rw [s4, Nat.add_zero] at this
    rw [← this]
    exact atD_be1 _ _ h10
  have s5 : d.drop (5 + key.size) = elem.data.toList ++ (be n.toNat 4 ++ r) := by
    rw [show 5 + key.size = (4 + key.size) + 1 by omega, ← List.drop_drop, s4, drop_app (be_length _ _)]
  have te : rfEnd d = 5 + key.size + elem.size := by unfold rfEnd; rw [t4, t1]
  have se : d.drop (5 + key.size + elem.size) = be n.toNat 4 ++ r := by rw [← List.drop_drop, s5, drop_app k2]
  have tn : ∀ j, atD d (5 + key.size + elem.size + j) = atD (be n.toNat 4 ++ r) j := fun j => by rw [← se, atD_drop]
  rw [hd]
  constructor
  · unfold rfAtom
    rw [te, t0, t1, t2, t3, t4, s2, s5, take_app k1, take_app k2]
    have e0 := tn 0
    rw [Nat.add_zero] at e0
    rw [e0, tn 1, tn 2, tn 3, atD_be4 _ _ (by omega)]
    simp only [bstr_self, At.mk.injEq, true_and]
    omega
  · unfold rfNext
    rw [te, ← List.drop_drop, se, drop_app (be_length _ _)]

/-- Atoms as long as there are bytes. -/
def rfAll : Nat → List UInt8 → List At
  | 0, _ => []
  | f + 1, d => if d.isEmpty then [] else rfAtom d :: rfAll f (d.drop (rfNext d))
theorem rfNext_pos (d : List UInt8) : 9 ≤ rfNext d := by unfold rfNext rfEnd; omega
theorem rf_less (d : List UInt8) : (d.drop (rfNext d)).length ≤ d.length - 9 := by
  have := rfNext_pos d
  rw [List.length_drop]
  omega
theorem rfAll_more (f : Nat) (l : List UInt8) (h : l.length ≤ f) : rfAll (f + 1) l = rfAll f l := by
  induction f generalizing l with
  | zero =>
    obtain rfl := List.length_eq_zero_iff.1 (by omega : l.length = 0)
    rfl
  | succ f ih =>
    cases l with
    | nil => rfl
    | cons b l =>
      have := rf_less (b :: l)
      simp only [List.length_cons] at this h
      have e := ih ((b :: l).drop (rfNext (b :: l))) (by omega)
      show rfAtom (b :: l) :: rfAll (f + 1) _ = rfAtom (b :: l) :: rfAll f _
      rw [e]
theorem rfAll_fuel (f g : Nat) (l : List UInt8) (h : l.length ≤ f) (hg : f ≤ g) : rfAll g l = rfAll f l := by
  induction g with
  | zero => have : f = 0 := by omega
            rw [this]
  | succ g ih =>
    by_cases e : f = g + 1
    · rw [e]
    · rw [rfAll_more g l (by omega), ih (by omega)]
def rfs (l : List UInt8) : List At := rfAll l.length l
theorem rfs_cons (l : List UInt8) (h : l ≠ []) : rfs l = rfAtom l :: rfs (l.drop (rfNext l)) := by
  unfold rfs
  cases l with
  | nil => exact absurd rfl h
  | cons b l =>
    have := rf_less (b :: l)
    simp only [List.length_cons] at this
    show rfAtom (b :: l) :: rfAll l.length _ = _
    rw [rfAll_fuel _ l.length _ (Nat.le_refl _) (by omega)]
theorem rfs_encL : ∀ (out : List At), (∀ a ∈ out, mayB a = true) → rfs (encL out) = out
  | [], _ => rfl
  | a :: out, h => by
    have e : encL (a :: out) = encA a ++ encL out := by simp [encL]
    have hl := (encA_length a (fit2_of_may (h a (by simp)))).2
    have hr := rf_encA a (encL out) (h a (by simp))
    rw [e, rfs_cons _ (fun e0 => by have := congrArg List.length e0; simp at this; rw [this.1] at hl; simp at hl), hr.1, hr.2, rfs_encL out (fun x hx => h x (by simp [hx]))]
theorem rfAtom_short (d : List UInt8) : short (rfAtom d) := by
  have h1 := atD_lt d 1
  have h2 := atD_lt d (4 + rfKey d)
  unfold rfAtom short
  simp only [bstr_size, List.length_take]
  unfold rfElem rfKey at *
  omega
theorem rfs_facts (l : List UInt8) : 9 * (rfs l).length ≤ l.length + 8 ∧ ∀ a ∈ rfs l, short a := by
  suffices ∀ n, ∀ l : List UInt8, l.length ≤ n → 9 * (rfs l).length ≤ l.length + 8 ∧ ∀ a ∈ rfs l, short a from this l.length l (Nat.le_refl _)
  intro n
  induction n with
  | zero =>
    intro l h
    obtain rfl := List.length_eq_zero_iff.1 (by omega : l.length = 0)
    simp [rfs, rfAll]
  | succ n ih =>
    intro l h
    cases l with
    | nil => simp [rfs, rfAll]
    | cons b l =>
      rw [rfs_cons _ (by simp)]
      have h1 := rf_less (b :: l)
      simp only [List.length_cons] at h1 h
      have h2 := ih ((b :: l).drop (rfNext (b :: l))) (by omega)
      refine ⟨?_, fun a ha => ?_⟩
      · simp only [List.length_cons]
        by_cases hz : (b :: l).drop (rfNext (b :: l)) = []
        · rw [hz]
          simp [rfs, rfAll]
        · have := List.length_pos_iff.2 hz
          have := h2.1
          omega
      · rcases List.mem_cons.1 ha with rfl | ha
        · exact rfAtom_short _
        · exact h2.2 a ha
theorem Good.rfs {l : List UInt8} {t : List At} (h : Good l t) : rfs (l.drop 8) = t := by
  rw [h.2.2, drop_app (be_length _ _), rfs_encL t h.2.1]

theorem wrap64_small {x : Int} (h0 : 0 ≤ x) (h1 : x < 9223372036854775808) : wrap64 x = x := by
  unfold wrap64
  omega

set_option maxRecDepth 100000 in
theorem at_any (l : List UInt8) (i : Nat) (w : World) (_hl : l.length ≤ 33554432) (_hi : i ≤ 1099511627776) :
    Calls Tryd.prog 104 #[.string (bstr l), .int .i64 i] w fun e w' => e = .returned (.int .i64 (atD l i)) ∧ w' = w := by
  have hsz := bstr_size l
  by_cases h : i < l.length
  · have he : ((bstr l)[i]'(by rw [hsz]; exact h)).toNat = atD l i := by
      unfold atD
      have : (bstr l)[i]'(by rw [hsz]; exact h) = l.getD i 0 := by
        simp only [List.getD, h, List.getElem?_eq_getElem, Option.getD_some]
        rfl
      rw [this]
    have hlt := atD_lt l i
    go_enter Tryd.func104, Tryd.ntmps104
    go_wp2
    go_ret
    exact ⟨rfl, rfl⟩
  · have he : atD l i = 0 := by
      unfold atD
      rw [List.getD, List.getElem?_eq_none (by omega)]
      rfl
    rw [he]
    go_enter Tryd.func104, Tryd.ntmps104
    go_wp2
    go_ret
    exact ⟨rfl, rfl⟩

set_option maxRecDepth 100000 in
theorem part_any (l : List UInt8) (i n : Nat) (w : World) (hl : l.length ≤ 33554432) (hi : i ≤ 1099511627776) (hn : n ≤ 1099511627776) :
    Calls Tryd.prog 105 #[.string (bstr l), .int .i64 i, .int .i64 n] w fun e w' => e = .returned (.string (bstr ((l.drop i).take n))) ∧ w' = w := by
  have hsz := bstr_size l
  by_cases h : l.length < i
  · have he : (l.drop i).take n = [] := by rw [List.drop_of_length_le (by omega)]; simp
    rw [he]
    by_cases h2 : 0 < n
    · go_enter Tryd.func105, Tryd.ntmps105
      go_wp2
      go_ret
      exact ⟨rfl, rfl⟩
    · obtain rfl : n = 0 := by omega
      go_enter Tryd.func105, Tryd.ntmps105
      go_wp2
      go_ret
      exact ⟨rfl, rfl⟩
  · by_cases h2 : l.length - i < n
    · have he : (bstr l).extract i (i + (l.length - i)) = bstr ((l.drop i).take n) := by
        rw [bstr_extract]
        congr 1
        rw [List.take_of_length_le (by simp), List.take_of_length_le (by simp; omega)]
      go_enter Tryd.func105, Tryd.ntmps105
      go_wp2
      go_ret
      exact ⟨congrArg (fun s => Ending.returned (.string s)) he, rfl⟩
    · have he : (bstr l).extract i (i + n) = bstr ((l.drop i).take n) := by
        rw [bstr_extract]
        congr 2
        omega
      go_enter Tryd.func105, Tryd.ntmps105
      go_wp2
      go_ret
      exact ⟨congrArg (fun s => Ending.returned (.string s)) he, rfl⟩
end Go.Proofs.YtfddkkkkehbecaaDoor
