/- The plain side of a cluster: what is always so of one, whatever is done. -/
import Derived.Test.YtahdlejgjcjeoaaGreatDoorP03
import Derived.Test.YtahdlejgjcjeoaaGreatDoorP01
namespace Go.Proofs.YtahdlejgjcjeoaaGreatDoor
open Go.RowKit

def num (l : List UInt8) : Nat := l.foldl (fun n b => n * 256 + b.toNat) 0
theorem num_snoc (l : List UInt8) (b : UInt8) : num (l ++ [b]) = num l * 256 + b.toNat := by simp [num]
theorem num_go : ∀ (l : List UInt8) (m : Nat), l.foldl (fun n b => n * 256 + b.toNat) m < (m + 1) * 256 ^ l.length
  | [], m => by simp
  | b :: l, m => by
    have h := num_go l (m * 256 + b.toNat)
    have hb : b.toNat < 256 := b.toNat_lt
    rw [List.foldl_cons, List.length_cons, Nat.pow_succ, Nat.mul_comm (256 ^ l.length) 256, ← Nat.mul_assoc]
    exact Nat.lt_of_lt_of_le h (Nat.mul_le_mul_right _ (by omega))
theorem num_lt (l : List UInt8) : num l < 256 ^ l.length := by
  have := num_go l 0
  simpa [num] using this
theorem num_be (n w : Nat) (h : n < 256 ^ w) : num (be n w) = n := by
  induction w generalizing n with
  | zero => simp at h; subst h; rfl
  | succ w ih =>
    unfold be
    rw [num_snoc, ih (n / 256) (by rw [Nat.pow_succ] at h; exact Nat.div_lt_of_lt_mul (by omega))]
    have : (UInt8.ofNat n).toNat = n % 256 := by simp
    omega

/-- What is read, and what is left. -/
def rdText (l : List UInt8) : List UInt8 × List UInt8 := ((l.drop 1).take (num (l.take 1)), (l.drop 1).drop (num (l.take 1)))
def rdAtom (l : List UInt8) : At × List UInt8 :=
  let k := rdText (l.drop 1)
  let e := rdText ((k.2.drop 1).drop 1)
  (⟨num (l.take 1), bstr k.1, num (k.2.take 1), num ((k.2.drop 1).take 1), bstr e.1, num (e.2.take 4)⟩, e.2.drop 4)

theorem take_app {l r : List UInt8} {n : Nat} (h : l.length = n) : (l ++ r).take n = l := by rw [← h]; exact List.take_left
theorem drop_app {l r : List UInt8} {n : Nat} (h : l.length = n) : (l ++ r).drop n = r := by rw [← h]; exact List.drop_left

theorem rdText_be (s r : List UInt8) (h : s.length < 256) : rdText (be s.length 1 ++ (s ++ r)) = (s, r) := by
  unfold rdText
  rw [take_app (be_length _ _), drop_app (be_length _ _), num_be _ _ (by simpa using h), take_app rfl, drop_app rfl]

theorem rdAtom_encA (a : At) (r : List UInt8) (h : mayB a = true) : rdAtom (encA a ++ r) = (a, r) := by
  obtain ⟨ty, key, side, who, elem, n⟩ := a
  have hm : 0 ≤ ty ∧ ty < 256 ∧ 0 ≤ side ∧ side < 256 ∧ 0 ≤ who ∧ who < 256 ∧ 0 ≤ n ∧ n < 4294967296 ∧ key.size < 256 ∧ elem.size < 256 := by
    simp only [mayB, decide_eq_true_eq] at h
    omega
  obtain ⟨h1, h2, h3, h4, h5, h6, h7, h8, h9, h10⟩ := hm
  have k1 : key.data.toList.length = key.size := by simp
  have k2 : elem.data.toList.length = elem.size := by simp
  unfold encA rdAtom
  simp only [List.append_assoc]
  rw [take_app (be_length _ _), drop_app (be_length _ _), ← k1, rdText_be _ _ (by omega)]
  simp only
  rw [take_app (be_length _ _), drop_app (be_length _ _), take_app (be_length _ _), drop_app (be_length _ _), ← k2, rdText_be _ _ (by omega)]
  simp only
  rw [take_app (be_length _ _), drop_app (be_length _ _), num_be _ 1 (by simp; omega), num_be _ 1 (by simp; omega), num_be _ 1 (by simp; omega), num_be _ 4 (by simp; omega)]
  simp only [bstr_self, Prod.mk.injEq, At.mk.injEq, and_true, true_and]
  omega

theorem rdAtom_less (l : List UInt8) : (rdAtom l).2.length ≤ l.length - 9 := by
  unfold rdAtom rdText
  simp only [List.length_drop]
  omega

/-- Atoms as long as there are bytes. -/
def rdAll : Nat → List UInt8 → List At
  | 0, _ => []
  | f + 1, l => if l.isEmpty then [] else (rdAtom l).1 :: rdAll f (rdAtom l).2
theorem rdAll_more (f : Nat) (l : List UInt8) (h : l.length ≤ f) : rdAll (f + 1) l = rdAll f l := by
  induction f generalizing l with
  | zero =>
    obtain rfl := List.length_eq_zero_iff.1 (by omega : l.length = 0)
    rfl
  | succ f ih =>
    cases l with
    | nil => rfl
    | cons b l =>
      have := rdAtom_less (b :: l)
      simp only [List.length_cons] at this h
      have e := ih (rdAtom (b :: l)).2 (by omega)
      show (rdAtom (b :: l)).1 :: rdAll (f + 1) (rdAtom (b :: l)).2 = (rdAtom (b :: l)).1 :: rdAll f (rdAtom (b :: l)).2
      rw [e]
theorem rdAll_fuel (f g : Nat) (l : List UInt8) (h : l.length ≤ f) (hg : f ≤ g) : rdAll g l = rdAll f l := by
  induction g with
  | zero => have : f = 0 := by omega
            rw [this]
  | succ g ih =>
    by_cases e : f = g + 1
    · rw [e]
    · rw [rdAll_more g l (by omega), ih (by omega)]
def parse (l : List UInt8) : List At := rdAll l.length l
theorem parse_cons (l : List UInt8) (h : l ≠ []) : parse l = (rdAtom l).1 :: parse (rdAtom l).2 := by
  unfold parse
  cases l with
  | nil => exact absurd rfl h
  | cons b l =>
    have := rdAtom_less (b :: l)
    simp only [List.length_cons] at this
    show (rdAtom (b :: l)).1 :: rdAll l.length (rdAtom (b :: l)).2 = _
    rw [rdAll_fuel _ l.length _ (Nat.le_refl _) (by omega)]
theorem parse_encL : ∀ (out : List At), (∀ a ∈ out, mayB a = true) → parse (encL out) = out
  | [], _ => rfl
  | a :: out, h => by
    have e : encL (a :: out) = encA a ++ encL out := by simp [encL]
    have hl := (encA_length a (fit2_of_may (h a (by simp)))).2
    rw [e, parse_cons _ (fun e0 => by have := congrArg List.length e0; simp at this; rw [this.1] at hl; simp at hl), rdAtom_encA a _ (h a (by simp)), parse_encL out (fun x hx => h x (by simp [hx]))]
theorem parse_length (l : List UInt8) : 9 * (parse l).length ≤ l.length + 8 := by
  suffices ∀ n, ∀ l : List UInt8, l.length ≤ n → 9 * (parse l).length ≤ l.length + 8 from this l.length l (Nat.le_refl _)
  intro n
  induction n with
  | zero =>
    intro l h
    obtain rfl := List.length_eq_zero_iff.1 (by omega : l.length = 0)
    simp [parse, rdAll]
  | succ n ih =>
    intro l h
    cases l with
    | nil => simp [parse, rdAll]
    | cons b l =>
      rw [parse_cons _ (by simp)]
      have h1 := rdAtom_less (b :: l)
      have h2 := ih (rdAtom (b :: l)).2 (by simp at h h1; omega)
      simp only [List.length_cons] at h1 ⊢
      by_cases hz : (rdAtom (b :: l)).2 = []
      · rw [hz]
        simp [parse, rdAll]
      · have : 0 < (rdAtom (b :: l)).2.length := List.length_pos_iff.2 hz
        omega

theorem num_le (l : List UInt8) (k : Nat) (h : l.length ≤ k) : num l < 256 ^ k := Nat.lt_of_lt_of_le (num_lt l) (Nat.pow_le_pow_right (by decide) h)
theorem rdText_short (l : List UInt8) : (rdText l).1.length ≤ 255 := by
  have := num_le (l.take 1) 1 (by simp; omega)
  unfold rdText
  simp only [List.length_take]
  omega
theorem rdAtom_short (l : List UInt8) : short (rdAtom l).1 := by
  have h1 := rdText_short (l.drop 1)
  have h2 := rdText_short (((rdText (l.drop 1)).2.drop 1).drop 1)
  unfold rdAtom short
  simp only [bstr_size]
  omega
theorem parse_short (l : List UInt8) : ∀ a ∈ parse l, short a := by
  suffices ∀ n, ∀ l : List UInt8, l.length ≤ n → ∀ a ∈ parse l, short a from this l.length l (Nat.le_refl _)
  intro n
  induction n with
  | zero =>
    intro l h
    obtain rfl := List.length_eq_zero_iff.1 (by omega : l.length = 0)
    simp [parse, rdAll]
  | succ n ih =>
    intro l h
    cases l with
    | nil => simp [parse, rdAll]
    | cons b l =>
      rw [parse_cons _ (by simp)]
      have h1 := rdAtom_less (b :: l)
      intro a ha
      rcases List.mem_cons.1 ha with rfl | ha
      · exact rdAtom_short _
      · exact ih (rdAtom (b :: l)).2 (by simp at h h1; omega) a ha

end Go.Proofs.YtahdlejgjcjeoaaGreatDoor

namespace Go.Proofs.YtahdlejgjcjeoaaGreatDoor


/-- The bytes are those of the state t. -/
def Good (l : List UInt8) (t : List At) : Prop := IsTold t t ∧ (∀ a ∈ t, mayB a = true) ∧ l = be t.length 8 ++ encL t
theorem Good.parse {l : List UInt8} {t : List At} (h : Good l t) : parse (l.drop 8) = t := by
  rw [h.2.2, drop_app (be_length _ _), parse_encL t h.2.1]
theorem Good.unique {l : List UInt8} {t u : List At} (h : Good l t) (k : Good l u) : t = u := by rw [← h.parse, k.parse]
theorem told_again {l out : List At} (h : IsTold l out) : IsTold out out where
  sorted := h.sorted
  great x hx := ⟨hx, fun y hy hp => (h.great x hx).2 y (h.great y hy).1 hp⟩
  all y hy := ⟨y, hy, plc_tp.refl y⟩
theorem good_of {l : List UInt8} {m out : List At} (hm : ∀ a ∈ m, mayB a = true) (ht : IsTold m out) (h : l = be out.length 8 ++ encL out) : Good l out :=
  ⟨told_again ht, fun a ha => hm a (ht.great a ha).1, h⟩

end Go.Proofs.YtahdlejgjcjeoaaGreatDoor

namespace Go.Proofs.YtahdlejgjcjeoaaGreatDoor

/-- A list of atoms that may be, told. -/
def ToldMay (d : List At) : Prop := IsTold d d ∧ ∀ a ∈ d, mayB a = true
theorem ToldMay.tell {d : List At} (h : ToldMay d) : tell d = d := (tell_told d).unique h.2 h.1
theorem toldMay_tell {l : List At} (h : ∀ a ∈ l, mayB a = true) : ToldMay (tell l) :=
  ⟨told_again (tell_told l), fun a ha => h a ((tell_told l).great a ha).1⟩
theorem toldMay_one {a : At} (h : mayB a = true) : ToldMay [a] :=
  ⟨⟨by simp, fun x hx => by
      obtain rfl : x = a := by simpa using hx
      exact ⟨by simp, fun y hy _ => by
        obtain rfl : y = x := by simpa using hy
        have := grd_anti (a := y) (b := y) rfl
        omega⟩, fun y hy => ⟨y, hy, plc_tp.refl y⟩⟩, fun x hx => by
      obtain rfl : x = a := by simpa using hx
      exact h⟩
theorem ToldMay.good {d : List At} (h : ToldMay d) : Good (encS d) d := ⟨h.1, h.2, by unfold encS; rw [h.tell]⟩

/-- A record that may stand in a log. -/
structure Rec.ok (r : Rec) : Prop where
  kind : r.kind = 1 ∨ r.kind = 2
  num : r.num < 9223372036854775808
  len : (encS r.d).length < 9223372036854775808
  told : ToldMay r.d

theorem recBytes_eq (r : Rec) : recBytes r = be r.kind 1 ++ (be r.num 8 ++ (be (encS r.d).length 8 ++ (encS r.d ++ be (adler (recHead r)) 4))) := by
  unfold recBytes
  rw [recHead]
  simp only [List.append_assoc]
theorem recBytes_length (r : Rec) : (recBytes r).length = 21 + (encS r.d).length := by
  rw [recBytes_eq]
  simp only [List.length_append, be_length]
  omega

/-- What a log that begins with a record's bytes reads as, field by field. -/
theorem rec_reads {r : Rec} {l : List UInt8} (h : r.ok) (hp : recBytes r <+: l) :
    num (l.take 1) = r.kind ∧ num ((l.drop 1).take 8) = r.num ∧ num ((l.drop 9).take 8) = (encS r.d).length ∧ (l.drop 17).take (encS r.d).length = encS r.d := by
  obtain ⟨s, rfl⟩ := hp
  rw [recBytes_eq]
  simp only [List.append_assoc]
  have e1 : (be r.kind 1).length = 1 := be_length _ _
  have e2 : (be r.num 8).length = 8 := be_length _ _
  have e3 : (be (encS r.d).length 8).length = 8 := be_length _ _
  have n1 : num (be r.kind 1) = r.kind := num_be _ _ (by rcases h.kind with e | e <;> rw [e] <;> decide)
  have n2 : num (be r.num 8) = r.num := num_be _ _ (by have := h.num; omega)
  have n3 : num (be (encS r.d).length 8) = (encS r.d).length := num_be _ _ (by have := h.len; omega)
  generalize be r.kind 1 = A at *
  generalize be r.num 8 = B at *
  generalize be (encS r.d).length 8 = C at *
  refine ⟨by rw [take_app e1, n1], by rw [drop_app e1, take_app e2, n2], ?_, ?_⟩
  · rw [show 9 = 1 + 8 from rfl, ← List.drop_drop, drop_app e1, drop_app e2, take_app e3, n3]
  · rw [show 17 = 1 + (8 + 8) from rfl, ← List.drop_drop, drop_app e1, ← List.drop_drop, drop_app e2, drop_app e3, take_app rfl]

theorem rec_unique {r s : Rec} {l : List UInt8} (hr : r.ok) (hs : s.ok) (h1 : recBytes r <+: l) (h2 : recBytes s <+: l) : r = s := by
  obtain ⟨a1, a2, a3, a4⟩ := rec_reads hr h1
  obtain ⟨b1, b2, b3, b4⟩ := rec_reads hs h2
  have k1 : r.kind = s.kind := a1.symm.trans b1
  have k2 : r.num = s.num := a2.symm.trans b2
  have k3 : (encS r.d).length = (encS s.d).length := a3.symm.trans b3
  have k4 : encS r.d = encS s.d := by rw [← a4, ← b4, k3]
  have g := hr.told.good
  rw [k4] at g
  have k5 : r.d = s.d := g.unique hs.told.good
  cases r; cases s
  simp only at k1 k2 k5
  rw [k1, k2, k5]

/-- No whole record is in a torn one. -/
theorem torn_none {r s : Rec} {k : Nat} (hr : r.ok) (hs : s.ok) (hk : k < (recBytes r).length) : ¬ recBytes s <+: (recBytes r).take k := by
  intro h
  have hp : recBytes s <+: recBytes r := h.trans (List.take_prefix _ _)
  obtain rfl := rec_unique hs hr hp (List.prefix_refl _)
  have := h.length_le
  rw [List.length_take] at this
  omega

end Go.Proofs.YtahdlejgjcjeoaaGreatDoor

namespace Go.Proofs.YtahdlejgjcjeoaaGreatDoor

theorem told_self {d : List At} (h : d.Pairwise (fun x y => plc x y < 0)) : IsTold d d where
  sorted := h
  great x hx := ⟨hx, fun y hy hp => by
    by_cases e : y = x
    · subst e
      have := grd_anti (a := y) (b := y) rfl
      omega
    · exact absurd hp (by
        obtain ⟨i, hi, rfl⟩ := List.getElem_of_mem hy
        obtain ⟨j, hj, rfl⟩ := List.getElem_of_mem hx
        rw [List.pairwise_iff_getElem] at h
        by_cases hij : i < j
        · have := h i j hi hj hij; omega
        · by_cases hji : j < i
          · have := h j i hj hi hji
            have := plc_tp.anti d[i] d[j]
            omega
          · exact absurd (by congr 1; omega) e)⟩
  all y hy := ⟨y, hy, plc_tp.refl y⟩
theorem ToldMay.filter {d : List At} (h : ToldMay d) (q : At → Bool) : ToldMay (d.filter q) :=
  ⟨told_self (h.1.sorted.filter q), fun a ha => h.2 a (List.mem_filter.1 ha).1⟩
theorem ToldMay.length {d U : List At} (h : ToldMay d) (hs : ∀ a ∈ d, a ∈ U) : d.length ≤ U.length := length_le_of_sub (sorted_ne h.1.sorted) hs
theorem tell_sub {l U : List At} (h : ∀ a ∈ l, a ∈ U) : ∀ a ∈ tell l, a ∈ U := fun a ha => h a ((tell_told l).great a ha).1
theorem fresh_told {d m : List At} (h : ToldMay d) : ToldMay (fresh d m) := by unfold fresh; rw [h.tell]; exact h.filter _
theorem fresh_sub {d m : List At} (h : ToldMay d) : ∀ a ∈ fresh d m, a ∈ d := fun a ha => by unfold fresh at ha; rw [h.tell] at ha; exact (List.mem_filter.1 ha).1

structure Rep.ok (U : List At) (N n room : Nat) (p : Rep) : Prop where
  sub : ∀ a ∈ p.atoms, a ∈ U
  alen : p.atoms.length ≤ (N + 1) * U.length
  num : p.num ≤ N
  base : p.base ≤ p.num
  buf : ∀ e ∈ p.buf, ToldMay e.d ∧ (∀ a ∈ e.d, a ∈ U) ∧ e.num ≤ p.num ∧ p.base < e.num ∧ e.org < n
  bufS : p.buf.Pairwise fun a b => a.num < b.num
  bufL : p.buf.length ≤ room
  ackL : p.acked.length = n
  ack : ∀ k ∈ p.acked, k ≤ p.num
  up : p.down = false → p.num = lastNum p.log
  log : ∀ r ∈ p.log, ToldMay r.d ∧ (∀ a ∈ r.d, a ∈ U) ∧ r.num ≤ N ∧ (r.kind = 1 ∨ r.kind = 2)
  logL : p.log.length ≤ N + 1
  fr : p.frames ≤ N
  wt : p.weight ≤ N * U.length
  torn : p.torn = [] ∨ p.down = true ∧ ∃ r k, ToldMay r.d ∧ (∀ a ∈ r.d, a ∈ U) ∧ r.num ≤ N ∧ (r.kind = 1 ∨ r.kind = 2) ∧ k < (recBytes r).length ∧ p.torn = (recBytes r).take k
  dn : p.down = true → p.atoms = [] ∧ p.num = 0 ∧ p.base = 0 ∧ p.buf = [] ∧ p.acked = List.replicate n 0

structure Frm.ok (U : List At) (N n : Nat) (f : Frm) : Prop where
  told : ToldMay f.d
  sub : ∀ a ∈ f.d, a ∈ U
  upto : f.upto ≤ N
  src : f.src < n
  dst : f.dst < n
  kind : f.kind = 1 ∨ f.kind = 2 ∨ f.kind = 3
/-- Whose Number a frame tells. -/
def Frm.whose (f : Frm) : Nat := if f.kind = 3 then f.dst else f.src

structure Clu.ok (U : List At) (N : Nat) (c : Clu) : Prop where
  n1 : 1 ≤ c.reps.length
  n6 : c.reps.length ≤ 6
  room1 : 1 ≤ c.room
  room8 : c.room ≤ 8
  may : ∀ a ∈ U, mayB a = true
  reps : ∀ p ∈ c.reps, p.ok U N c.reps.length c.room
  net : ∀ f ∈ c.net, f.ok U N c.reps.length
  netT : ∀ f ∈ c.net, f.upto ≤ lastNum (c.rep f.whose).log
  netL : c.net.length ≤ 200

theorem Rep.ok.mono {U U' : List At} {N N' n room : Nat} {p : Rep} (h : p.ok U N n room) (hU : ∀ a ∈ U, a ∈ U') (hL : U.length ≤ U'.length) (hN : N ≤ N') : p.ok U' N' n room where
  sub a ha := hU a (h.sub a ha)
  alen := Nat.le_trans h.alen (Nat.mul_le_mul (by omega) hL)
  num := Nat.le_trans h.num hN
  base := h.base
  buf e he := ⟨(h.buf e he).1, fun a ha => hU a ((h.buf e he).2.1 a ha), (h.buf e he).2.2⟩
  bufS := h.bufS
  bufL := h.bufL
  ackL := h.ackL
  ack := h.ack
  up := h.up
  log r hr := ⟨(h.log r hr).1, fun a ha => hU a ((h.log r hr).2.1 a ha), Nat.le_trans (h.log r hr).2.2.1 hN, (h.log r hr).2.2.2⟩
  logL := Nat.le_trans h.logL (by omega)
  fr := Nat.le_trans h.fr hN
  wt := Nat.le_trans h.wt (Nat.mul_le_mul hN hL)
  torn := by
    rcases h.torn with e | ⟨e, r, k, h1, h2, h3, h4, h5, h6⟩
    · exact .inl e
    · exact .inr ⟨e, r, k, h1, fun a ha => hU a (h2 a ha), Nat.le_trans h3 hN, h4, h5, h6⟩
  dn := h.dn
theorem Frm.ok.mono {U U' : List At} {N N' n : Nat} {f : Frm} (h : f.ok U N n) (hU : ∀ a ∈ U, a ∈ U') (hN : N ≤ N') : f.ok U' N' n :=
  ⟨h.told, fun a ha => hU a (h.sub a ha), Nat.le_trans h.upto hN, h.src, h.dst, h.kind⟩

theorem Rep.ok.tornUp {U : List At} {N n room : Nat} {p : Rep} (h : p.ok U N n room) (hu : p.down = false) : p.torn = [] := by
  rcases h.torn with e | ⟨e, _⟩
  · exact e
  · rw [hu] at e; cases e

theorem mul_succ_le (N u d : Nat) (h : d ≤ u) : (N + 1) * u + d ≤ (N + 1 + 1) * u := by
  rw [Nat.add_mul (N + 1) 1 u]; omega

theorem filter_tail {l : List Ent} (h : l.Pairwise fun a b => a.num < b.num) (e : Ent) (r : List Ent) (hl : l = e :: r) : l.filter (fun x => decide (e.num < x.num)) = r := by
  subst hl
  rw [List.pairwise_cons] at h
  rw [List.filter_cons, if_neg (by simp), List.filter_eq_self]
  intro a ha
  simpa using h.1 a ha

theorem Rep.ok.bufS' {U : List At} {N n room : Nat} {p : Rep} (h : p.ok U N n room) (d : List At) (org : Nat) : (p.buf ++ [(⟨p.num + 1, org, d⟩ : Ent)]).Pairwise fun a b : Ent => a.num < b.num := by
  rw [List.pairwise_append]
  refine ⟨h.bufS, by simp, fun a ha b hb => ?_⟩
  obtain rfl := List.mem_singleton.1 hb
  have := (h.buf a ha).2.2.1
  show a.num < p.num + 1
  omega
/-- Where a delta is taken in and there are too many entries then, just the first one goes. -/
theorem Rep.ok.take_eq {U : List At} {N n room : Nat} {p : Rep} (h : p.ok U N n room) (d : List At) (org : Nat) (hr : 1 ≤ room) :
    p.take room d org = if room < p.buf.length + 1 then { p.take1 d org with buf := (p.buf ++ [(⟨p.num + 1, org, d⟩ : Ent)]).tail, base := (p.buf.head?.map (·.num)).getD 0 } else p.take1 d org := by
  unfold Rep.take
  split
  · rename_i hlt
    match hbf : p.buf with
    | [] => rw [hbf] at hlt; simp at hlt; omega
    | e :: r =>
      have hs := h.bufS' d org
      have ht := filter_tail hs e (r ++ [(⟨p.num + 1, org, d⟩ : Ent)]) (by rw [hbf]; rfl)
      have hbe := (h.buf e (by rw [hbf]; simp)).2.2.2.1
      have hm : (p.buf.head?.map (·.num)).getD (p.num + 1) = e.num := by rw [hbf]; rfl
      have hm0 : ((e :: r).head?.map (·.num)).getD 0 = e.num := rfl
      have e1 : (p.take1 d org).drop e.num = { p.take1 d org with buf := r ++ [(⟨p.num + 1, org, d⟩ : Ent)], base := e.num } := by
        unfold Rep.drop
        have hx : (p.take1 d org).buf = p.buf ++ [(⟨p.num + 1, org, d⟩ : Ent)] := rfl
        have hy : (p.take1 d org).base = p.base := rfl
        rw [hx, ht, hy, Nat.max_eq_right (Nat.le_of_lt hbe)]
      rw [hbf] at hm
      rw [hm, e1, hm0]
      rfl
  · rfl

theorem Rep.ok.take {U : List At} {N n room : Nat} {p : Rep} (h : p.ok U N n room) (hu : p.down = false) {d : List At} {org : Nat} (hd : ToldMay d) (hs : ∀ a ∈ d, a ∈ U) (ho : org < n) (hr : 1 ≤ room) : (p.take room d org).ok U (N + 1) n room := by
  have hB : ∀ e ∈ p.buf ++ [(⟨p.num + 1, org, d⟩ : Ent)], ToldMay e.d ∧ (∀ a ∈ e.d, a ∈ U) ∧ e.num ≤ p.num + 1 ∧ p.base < e.num ∧ e.org < n := by
    intro e he
    rcases List.mem_append.1 he with he | he
    · have := h.buf e he
      exact ⟨this.1, this.2.1, by omega, this.2.2.2⟩
    · obtain rfl := List.mem_singleton.1 he
      have := h.base
      exact ⟨hd, hs, Nat.le_refl _, by show p.base < p.num + 1; omega, ho⟩
  have hS := h.bufS' d org
  have hnum := h.num
  have hbase := h.base
  have key : ∀ (b : List Ent) (m : Nat), m ≤ p.num + 1 → (∀ e ∈ b, e ∈ p.buf ++ [(⟨p.num + 1, org, d⟩ : Ent)] ∧ m < e.num) → b.Pairwise (fun a b : Ent => a.num < b.num) → b.length ≤ room → ({ p.take1 d org with buf := b, base := m } : Rep).ok U (N + 1) n room := by
    intro b m hm hb hbs hbl
    refine ⟨fun a ha => ?_, ?_, ?_, hm, fun e he => ?_, hbs, hbl, h.ackL, fun k hk => ?_, fun _ => ?_, fun r hr => ?_, ?_, ?_, ?_, .inl (h.tornUp hu), fun hd' => ?_⟩
    · rcases List.mem_append.1 ha with ha | ha
      · exact h.sub a ha
      · exact hs a ha
    · show (p.atoms ++ d).length ≤ _
      rw [List.length_append]
      have := mul_succ_le N U.length d.length (hd.length hs)
      have := h.alen
      omega
    · show p.num + 1 ≤ _
      omega
    · have h1 := hB e (hb e he).1
      exact ⟨h1.1, h1.2.1, h1.2.2.1, (hb e he).2, h1.2.2.2.2⟩
    · have := h.ack k hk
      show k ≤ p.num + 1
      omega
    · show p.num + 1 = lastNum (p.log ++ [_])
      simp [lastNum]
    · rcases List.mem_append.1 hr with hr | hr
      · have := h.log r hr
        exact ⟨this.1, this.2.1, by omega, this.2.2.2⟩
      · obtain rfl := List.mem_singleton.1 hr
        exact ⟨hd, hs, by show p.num + 1 ≤ _; omega, .inl rfl⟩
    · show (p.log ++ [_]).length ≤ _
      rw [List.length_append]
      have := h.logL
      simp
      omega
    · have := h.fr
      show p.frames ≤ _
      omega
    · exact Nat.le_trans h.wt (Nat.mul_le_mul (by omega) (Nat.le_refl _))
    · have : p.down = true := hd'
      rw [hu] at this
      cases this
  rw [h.take_eq d org hr]
  have hbl := h.bufL
  split
  · rename_i hlt
    match hbf : p.buf with
    | [] => rw [hbf] at hlt; simp at hlt; omega
    | e :: r =>
      rw [hbf] at hS hbl
      have hee := h.buf e (by rw [hbf]; simp)
      refine key _ _ ?_ (fun x hx => ?_) ?_ ?_
      · simp; omega
      · simp only [List.cons_append, List.tail_cons] at hx
        refine ⟨by rw [hbf]; exact List.mem_cons_of_mem _ hx, ?_⟩
        simp only [List.cons_append, List.pairwise_cons] at hS
        simpa using hS.1 x hx
      · simp only [List.cons_append, List.tail_cons]
        simp only [List.cons_append, List.pairwise_cons] at hS
        exact hS.2
      · simp only [List.cons_append, List.tail_cons, List.length_append]
        simp at hbl ⊢
        omega
  · rename_i hlt
    exact key _ _ (by omega) (fun e he => ⟨he, (hB e he).2.2.2.1⟩) hS (by rw [List.length_append]; simp; omega)

/-- Down. -/
theorem Rep.ok.fall {U : List At} {N n room : Nat} {p : Rep} (h : p.ok U N n room) : p.fall.ok U N n room :=
  { h with
    sub := fun a ha => by cases ha
    alen := by show ([] : List At).length ≤ _; simp
    num := Nat.zero_le _
    base := Nat.le_refl _
    buf := fun e he => by cases he
    bufS := .nil
    bufL := Nat.zero_le _
    ackL := by show (List.replicate _ _).length = n; simp [h.ackL]
    ack := fun k hk => by
      have : k = 0 := List.eq_of_mem_replicate hk
      omega
    up := fun e => by cases e
    torn := by
      rcases h.torn with e | ⟨_, e⟩
      · exact .inl e
      · exact .inr ⟨rfl, e⟩
    dn := fun _ => ⟨rfl, rfl, rfl, rfl, by show List.replicate p.acked.length 0 = _; rw [h.ackL]⟩ }
theorem Rep.ok.tear {U : List At} {N n room : Nat} {p : Rep} (h : p.ok U N n room) (_hu : p.down = false) {d : List At} (hd : ToldMay d) (hs : ∀ a ∈ d, a ∈ U) (keep : Int) : (p.tear d keep).fall.ok U (N + 1) n room := by
  have hnum := h.num
  unfold Rep.tear
  split
  · rename_i hk
    refine { (h.mono (fun _ h => h) (Nat.le_refl _) (Nat.le_succ N)).fall with torn := ?_ }
    refine .inr ⟨rfl, ⟨1, p.num + 1, d⟩, keep.toNat, hd, hs, by show p.num + 1 ≤ _; omega, .inl rfl, ?_, rfl⟩
    have : 0 < (recBytes ⟨1, p.num + 1, d⟩).length := by rw [recBytes_length]; omega
    omega
  · refine { (h.mono (fun _ h => h) (Nat.le_refl _) (Nat.le_succ N)).fall with up := fun e => (by cases e), log := fun r hr => ?_, logL := ?_ }
    · rcases List.mem_append.1 hr with hr | hr
      · have := h.log r hr
        exact ⟨this.1, this.2.1, by omega, this.2.2.2⟩
      · obtain rfl := List.mem_singleton.1 hr
        exact ⟨hd, hs, by show p.num + 1 ≤ _; omega, .inl rfl⟩
    · show (p.log ++ [_]).length ≤ _
      rw [List.length_append]
      have := h.logL
      simp
      omega
theorem lastNum_le {l : List Rec} {N : Nat} (h : ∀ r ∈ l, r.num ≤ N) : lastNum l ≤ N := by
  unfold lastNum
  cases hl : l.getLast? with
  | none => simp
  | some r => simpa using h r (List.mem_of_getLast? hl)
theorem flatten_le {l : List Rec} {u : Nat} (h : ∀ r ∈ l, r.d.length ≤ u) : ((l.map (·.d)).flatten).length ≤ l.length * u := by
  induction l with
  | nil => simp
  | cons r l ih =>
    have h1 := h r (by simp)
    have h2 := ih fun x hx => h x (by simp [hx])
    simp only [List.map_cons, List.flatten_cons, List.length_append, List.length_cons]
    rw [Nat.add_mul]
    omega
theorem Rep.ok.rise {U : List At} {N n room : Nat} {p : Rep} (h : p.ok U N n room) (hu : p.down = true) : p.rise.ok U N n room := by
  obtain ⟨d1, d2, d3, d4, d5⟩ := h.dn hu
  refine { h with sub := fun a ha => ?_, alen := ?_, num := ?_, base := Nat.le_refl _, buf := fun e he => ?_, ack := fun k hk => ?_, up := fun _ => rfl, torn := .inl rfl, dn := fun e => ?_ }
  · rcases List.mem_append.1 ha with ha | ha
    · exact h.sub a ha
    · obtain ⟨l, hl, ha⟩ := List.mem_flatten.1 ha
      obtain ⟨r, hr, rfl⟩ := List.mem_map.1 hl
      exact (h.log r hr).2.1 a ha
  · show (p.atoms ++ _).length ≤ _
    rw [d1, List.nil_append]
    refine Nat.le_trans (flatten_le fun r hr => (h.log r hr).1.length (h.log r hr).2.1) (Nat.mul_le_mul h.logL (Nat.le_refl _))
  · exact lastNum_le fun r hr => (h.log r hr).2.2.1
  · have he' : e ∈ p.buf := he
    rw [d4] at he'
    cases he'
  · have hk' : k ∈ p.acked := hk
    rw [d5] at hk'
    have : k = 0 := List.eq_of_mem_replicate hk'
    omega
  · cases e
theorem Rep.ok.compact {U : List At} {N n room : Nat} {p : Rep} (h : p.ok U N n room) (hU : ∀ a ∈ U, mayB a = true) : p.compact.ok U N n room :=
  { h with
    up := fun _ => rfl
    log := fun r hr => by
      obtain rfl := List.mem_singleton.1 hr
      exact ⟨toldMay_tell fun a ha => hU a (h.sub a ha), tell_sub h.sub, h.num, .inr rfl⟩
    logL := by show ([_] : List Rec).length ≤ _; simp }

theorem rep_mem {c : Clu} {r : Nat} (h : r < c.reps.length) : c.rep r ∈ c.reps := by
  unfold Clu.rep
  rw [List.getD_eq_getElem?_getD, List.getElem?_eq_getElem h]
  exact List.getElem_mem h
theorem there_lt {c : Clu} {r : Int} (h : c.there r = true) : 0 ≤ r ∧ r.toNat < c.reps.length := by
  simp only [Clu.there, decide_eq_true_eq] at h
  omega
theorem Clu.ok.rep {U : List At} {N : Nat} {c : Clu} (h : c.ok U N) {r : Nat} (hr : r < c.reps.length) : (c.rep r).ok U N c.reps.length c.room := h.reps _ (rep_mem hr)
theorem rep_setRep (c : Clu) (i j : Nat) (p : Rep) (hi : i < c.reps.length) : (c.setRep i p).rep j = if j = i then p else c.rep j := by
  unfold Clu.rep Clu.setRep
  simp only [List.getD_eq_getElem?_getD, List.getElem?_set]
  by_cases e : i = j
  · subst e
    simp [hi]
  · rw [if_neg e, if_neg (Ne.symm e)]

/-- One replica turns: its log is no shorter of Number than it was. -/
theorem Clu.ok.setRep {U U' : List At} {N N' : Nat} {c : Clu} (h : c.ok U N) {i : Nat} {p : Rep} (hi : i < c.reps.length) (hp : p.ok U' N' c.reps.length c.room) (hU : ∀ a ∈ U, a ∈ U') (hL : U.length ≤ U'.length) (hN : N ≤ N') (hm : ∀ a ∈ U', mayB a = true) (hl : lastNum (c.rep i).log ≤ lastNum p.log) : (c.setRep i p).ok U' N' where
  n1 := by simpa [Clu.setRep] using h.n1
  n6 := by simpa [Clu.setRep] using h.n6
  room1 := h.room1
  room8 := h.room8
  may := hm
  reps q hq := by
    have hlen : (c.setRep i p).reps.length = c.reps.length := by simp [Clu.setRep]
    rw [hlen]
    rcases List.mem_or_eq_of_mem_set hq with hq | rfl
    · exact (h.reps q hq).mono hU hL hN
    · exact hp
  net f hf := by
    have hlen : (c.setRep i p).reps.length = c.reps.length := by simp [Clu.setRep]
    rw [hlen]
    exact (h.net f hf).mono hU hN
  netT f hf := by
    have := h.netT f hf
    rw [rep_setRep c i _ p hi]
    split
    · rename_i e
      rw [e] at this
      omega
    · exact this
  netL := h.netL
theorem Clu.ok.mono {U U' : List At} {N N' : Nat} {c : Clu} (h : c.ok U N) (hU : ∀ a ∈ U, a ∈ U') (hL : U.length ≤ U'.length) (hN : N ≤ N') (hm : ∀ a ∈ U', mayB a = true) : c.ok U' N' :=
  ⟨h.n1, h.n6, h.room1, h.room8, hm, fun p hp => (h.reps p hp).mono hU hL hN, fun f hf => (h.net f hf).mono hU hN, h.netT, h.netL⟩
theorem Clu.ok.later {U : List At} {N N' : Nat} {c : Clu} (h : c.ok U N) (hN : N ≤ N') : c.ok U N' := h.mono (fun _ h => h) (Nat.le_refl _) hN h.may
theorem Clu.ok.out {U : List At} {N : Nat} {c : Clu} (h : c.ok U N) (k : Nat) : (c.out k).ok U N :=
  ⟨h.n1, h.n6, h.room1, h.room8, h.may, h.reps, fun f hf => h.net f (List.mem_of_mem_eraseIdx hf), fun f hf => h.netT f (List.mem_of_mem_eraseIdx hf), Nat.le_trans (List.length_eraseIdx_le _ _) h.netL⟩
theorem has_lt {c : Clu} {k : Int} (h : c.has k = true) : 0 ≤ k ∧ k.toNat < c.net.length := by
  simp only [Clu.has, decide_eq_true_eq] at h
  omega
/-- The atom of an operation is one that may be. -/
theorem hadN_go (a : At) : ∀ (l : List At) (z : Int), 0 ≤ z → 0 ≤ l.foldl (fun n x => if plc x a = 0 ∧ n < x.n then x.n else n) z
  | [], z, h => h
  | x :: l, z, h => by
    rw [List.foldl_cons]
    refine hadN_go a l _ ?_
    split
    · omega
    · exact h
theorem hadN_nonneg (l : List At) (a : At) : 0 ≤ hadN l a := hadN_go a l 0 (Int.le_refl _)
theorem opAtom_may {l : List At} {r : Nat} {o : OpV} (hr : r < 6) (hf : fineOp o = true) (hn : (opAtom l r o).n ≤ 2147483647) : mayB (opAtom l r o) = true := by
  simp only [fineOp, decide_eq_true_eq] at hf
  obtain ⟨h1, h2, h3, h4, h5, h6⟩ := hf
  unfold opAtom at hn ⊢
  rcases h6 with ⟨e, k1, k2, k3, k4⟩ | ⟨e, k1, k2, k3, k4, k5⟩ | ⟨e, k1, k2⟩ | ⟨e, k1, k2⟩ | ⟨e, k1, k2⟩
  · rw [if_pos e] at hn ⊢
    have := hadN_nonneg l ⟨1, o.key, 0, r, o.elem, 0⟩
    simp only at hn
    exact decide_eq_true ⟨h3, h4, .inl ⟨rfl, Int.natCast_nonneg r, (by show (r : Int) ≤ 5; omega), (by show 1 ≤ hadN l _ + o.n; omega), hn, rfl, k2⟩⟩
  · rw [if_neg (by omega), if_pos e] at hn ⊢
    split at hn
    · rename_i hlt
      rw [if_pos hlt]
      have := hadN_nonneg l ⟨2, o.key, 1, r, o.elem, 0⟩
      simp only at hn
      exact decide_eq_true ⟨h3, h4, .inr (.inl ⟨rfl, Int.natCast_nonneg r, (by show (r : Int) ≤ 5; omega), (by show 1 ≤ hadN l _ + -o.n; omega), hn, .inr rfl, k2⟩)⟩
    · rename_i hlt
      rw [if_neg hlt]
      have := hadN_nonneg l ⟨2, o.key, o.side, r, o.elem, 0⟩
      simp only at hn
      exact decide_eq_true ⟨h3, h4, .inr (.inl ⟨rfl, Int.natCast_nonneg r, (by show (r : Int) ≤ 5; omega), (by show 1 ≤ hadN l _ + o.n; omega), hn, .inl k1, k2⟩)⟩
  · rw [if_neg (by omega), if_neg (by omega), if_neg (by omega)]
    exact decide_eq_true ⟨h3, h4, .inr (.inr (.inl ⟨e, h5, k1, rfl, rfl⟩))⟩
  · rw [if_neg (by omega), if_neg (by omega), if_neg (by omega)]
    exact decide_eq_true ⟨h3, h4, .inr (.inr (.inr (.inl ⟨e, h5, k1, rfl, rfl⟩)))⟩
  · rw [if_neg (by omega), if_neg (by omega), if_pos e] at hn ⊢
    have := hadN_nonneg l ⟨5, o.key, o.side, r, o.elem, 0⟩
    simp only at hn
    exact decide_eq_true ⟨h3, h4, .inr (.inr (.inr (.inr ⟨rfl, Int.natCast_nonneg r, (by show (r : Int) ≤ 5; omega), (by show 1 ≤ hadN l _ + 1; omega), hn, h5, k1⟩)))⟩

theorem works_zero {c : Clu} {r : Int} (h : c.works r = 0) : (0 ≤ r ∧ r.toNat < c.reps.length) ∧ (c.rep r.toNat).down = false := by
  unfold Clu.works at h
  cases ht : c.there r
  · rw [ht] at h; simp at h
  · rw [ht] at h
    cases hd : (c.rep r.toNat).down
    · exact ⟨there_lt ht, rfl⟩
    · rw [hd] at h; simp at h
theorem opErr_zero {c : Clu} {r : Int} {o : OpV} (h : c.opErr r o = 0) : c.works r = 0 ∧ fineOp o = true ∧ (opAtom (c.rep r.toNat).atoms r.toNat o).n ≤ 2147483647 := by
  unfold Clu.opErr at h
  split at h
  · rename_i hw; exact absurd h hw
  · rename_i hw
    split at h
    · cases h
    · rename_i hf
      split at h
      · cases h
      · rename_i hn
        exact ⟨by simpa using hw, by simpa using hf, by omega⟩

/-- At most one atom more was ever made. -/
def Clu.grows (U : List At) (N : Nat) (c : Clu) : Prop := ∃ U', U'.length ≤ U.length + 1 ∧ (∀ a ∈ U, a ∈ U') ∧ c.ok U' (N + 1)
theorem Clu.ok.grows {U : List At} {N : Nat} {c : Clu} (h : c.ok U (N + 1)) : c.grows U N := ⟨U, by omega, fun _ h => h, h⟩

theorem Clu.ok.update {U : List At} {N : Nat} {c : Clu} (h : c.ok U N) (r : Int) (o : OpV) : (c.update r o).grows U N := by
  unfold Clu.update
  split
  · rename_i he
    obtain ⟨hw, hf, hn⟩ := opErr_zero he
    obtain ⟨⟨h0, hr⟩, hd⟩ := works_zero hw
    have ha := opAtom_may (l := (c.rep r.toNat).atoms) (r := r.toNat) (o := o) (by have := h.n6; omega) hf hn
    have hok := (h.rep hr).mono (U' := U ++ [opAtom (c.rep r.toNat).atoms r.toNat o]) (fun a ha => List.mem_append_left _ ha) (by simp) (Nat.le_refl N)
    have hmay : ∀ a ∈ U ++ [opAtom (c.rep r.toNat).atoms r.toNat o], mayB a = true := by
      intro a hm
      rcases List.mem_append.1 hm with hm | hm
      · exact h.may a hm
      · obtain rfl := List.mem_singleton.1 hm
        exact ha
    refine ⟨U ++ [opAtom (c.rep r.toNat).atoms r.toNat o], by simp, fun a ha => List.mem_append_left _ ha, h.setRep hr (hok.take hd (toldMay_one ha) (by simp) hr h.room1) (fun a ha => List.mem_append_left _ ha) (by simp) (by omega) hmay ?_⟩
    rw [← (h.rep hr).up hd, ← (hok.take hd (toldMay_one ha) (by simp) hr h.room1).up (by unfold Rep.take; split <;> exact hd)]
    have : (Rep.take c.room (c.rep r.toNat) [opAtom (c.rep r.toNat).atoms r.toNat o] r.toNat).num = (c.rep r.toNat).num + 1 := by unfold Rep.take; split <;> rfl
    omega
  · exact (h.later (by omega)).grows
theorem Clu.ok.tornOp {U : List At} {N : Nat} {c : Clu} (h : c.ok U N) (r : Int) (o : OpV) (keep : Int) : (c.tornOp r o keep).grows U N := by
  unfold Clu.tornOp
  split
  · rename_i he
    obtain ⟨hw, hf, hn⟩ := opErr_zero he
    obtain ⟨⟨h0, hr⟩, hd⟩ := works_zero hw
    have ha := opAtom_may (l := (c.rep r.toNat).atoms) (r := r.toNat) (o := o) (by have := h.n6; omega) hf hn
    have hok := (h.rep hr).mono (U' := U ++ [opAtom (c.rep r.toNat).atoms r.toNat o]) (fun a ha => List.mem_append_left _ ha) (by simp) (Nat.le_refl N)
    have hmay : ∀ a ∈ U ++ [opAtom (c.rep r.toNat).atoms r.toNat o], mayB a = true := by
      intro a hm
      rcases List.mem_append.1 hm with hm | hm
      · exact h.may a hm
      · obtain rfl := List.mem_singleton.1 hm
        exact ha
    refine ⟨U ++ [opAtom (c.rep r.toNat).atoms r.toNat o], by simp, fun a ha => List.mem_append_left _ ha, h.setRep hr (hok.tear hd (toldMay_one ha) (by simp) keep) (fun a ha => List.mem_append_left _ ha) (by simp) (by omega) hmay ?_⟩
    show _ ≤ lastNum (Rep.tear (c.rep r.toNat) [opAtom (c.rep r.toNat).atoms r.toNat o] keep).log
    unfold Rep.tear
    split
    · exact Nat.le_refl _
    · rw [← (h.rep hr).up hd]
      show _ ≤ lastNum (_ ++ [_])
      simp [lastNum]
  · exact (h.later (by omega)).grows
theorem Clu.ok.crash {U : List At} {N : Nat} {c : Clu} (h : c.ok U N) (r : Int) : (c.crash r).ok U N := by
  unfold Clu.crash
  split
  · rename_i hw
    obtain ⟨⟨h0, hr⟩, hd⟩ := works_zero hw
    exact h.setRep hr (h.rep hr).fall (fun _ h => h) (Nat.le_refl _) (Nat.le_refl _) h.may (Nat.le_refl _)
  · exact h
theorem Clu.ok.compact {U : List At} {N : Nat} {c : Clu} (h : c.ok U N) (r : Int) : (c.compact r).ok U N := by
  unfold Clu.compact
  split
  · rename_i hw
    obtain ⟨⟨h0, hr⟩, hd⟩ := works_zero hw
    refine h.setRep hr ((h.rep hr).compact h.may) (fun _ h => h) (Nat.le_refl _) (Nat.le_refl _) h.may ?_
    rw [← (h.rep hr).up hd]
    exact Nat.le_refl _
  · exact h
theorem startErr_zero {c : Clu} {r : Int} (h : c.startErr r = 0) : (0 ≤ r ∧ r.toNat < c.reps.length) ∧ (c.rep r.toNat).down = true := by
  unfold Clu.startErr at h
  cases ht : c.there r
  · rw [ht] at h; simp at h
  · rw [ht] at h
    cases hd : (c.rep r.toNat).down
    · rw [hd] at h; simp at h
    · exact ⟨there_lt ht, rfl⟩
theorem Clu.ok.start {U : List At} {N : Nat} {c : Clu} (h : c.ok U N) (r : Int) : (c.start r).ok U N := by
  unfold Clu.start
  split
  · rename_i hw
    obtain ⟨⟨h0, hr⟩, hd⟩ := startErr_zero hw
    exact h.setRep hr ((h.rep hr).rise hd) (fun _ h => h) (Nat.le_refl _) (Nat.le_refl _) h.may (Nat.le_refl _)
  · exact h
theorem Clu.ok.dropF {U : List At} {N : Nat} {c : Clu} (h : c.ok U N) (k : Int) : (c.dropF k).ok U N := by
  unfold Clu.dropF
  split
  · exact h.out _
  · exact h
end Go.Proofs.YtahdlejgjcjeoaaGreatDoor
