/- The orders: slots, grades; what it is to be told; that it is one. No program. -/
import Derived.Test.YtahdlejgjcjeoaaGreatDoorP01
import Derived.Test.YtahdlejgjcjeoaaGreatDoorP02
namespace Go.Proofs.YtahdlejgjcjeoaaGreatDoor
open Go.RowKit

theorem rowAt_cells {w : World} {b off : Nat} {l : List At} (h : RowAt w b off l) : ∀ j u, (flat l)[j]? = some u → w.cell? ((⟨b, off, none⟩ : Addr).add j) = some u := by
  intro j u hu
  have hadd : (⟨b, off, none⟩ : Addr).add j = ⟨b, off + j, none⟩ := by unfold Addr.add; split <;> simp_all
  have hj : j < (flat l).length := (List.getElem?_eq_some_iff.1 hu).1
  rw [flat_length] at hj
  have hk : j / 6 < l.length := by omega
  have hg := flat_get l (j / 6) (j % 6) hk (Nat.mod_lt _ (by decide))
  rw [show j / 6 * 6 + j % 6 = j by omega, hu] at hg
  obtain ⟨c0, c1, c2, c3, c4, c5⟩ := h (j / 6) hk
  rw [hadd]
  have hcase : j % 6 = 0 ∨ j % 6 = 1 ∨ j % 6 = 2 ∨ j % 6 = 3 ∨ j % 6 = 4 ∨ j % 6 = 5 := by omega
  rcases hcase with e | e | e | e | e | e
  · rw [show off + j = off + j / 6 * 6 by omega, c0, hg, e]; rfl
  · rw [show off + j = off + j / 6 * 6 + 1 by omega, c1, hg, e]; rfl
  · rw [show off + j = off + j / 6 * 6 + 2 by omega, c2, hg, e]; rfl
  · rw [show off + j = off + j / 6 * 6 + 3 by omega, c3, hg, e]; rfl
  · rw [show off + j = off + j / 6 * 6 + 4 by omega, c4, hg, e]; rfl
  · rw [show off + j = off + j / 6 * 6 + 5 by omega, c5, hg, e]; rfl

theorem flat_oneCell (l : List At) : ∀ u ∈ flat l, u.oneCell' = true := by
  intro u hu
  obtain ⟨a, _, h⟩ := List.mem_flatMap.1 hu
  exact enc_oneCell a u h
theorem flat_append (l m : List At) : flat (l ++ m) = flat l ++ flat m := by simp [flat]
theorem flat_drop (l : List At) (k : Nat) : (flat l).drop (k * 6) = flat (l.drop k) := by
  induction l generalizing k with
  | nil => simp [flat]
  | cons a l ih =>
    cases k with
    | zero => simp
    | succ k =>
      have : flat (a :: l) = enc a ++ flat l := rfl
      rw [this, List.drop_append, show (enc a).length = 6 from rfl, List.drop_of_length_le (by show 6 ≤ _; omega), show (k + 1) * 6 - 6 = k * 6 by omega, ih]
      rfl

theorem wpList_copy_atoms {P : Program} {w : World} {ops : Array Oper} {rest : List Oper} {o : Oper} {a : Act} {Q : Exit → Act → World → Prop} (hgd : o.guard = none) (d s : Operand) (dT sT : TypeId)
    (ho : o.op = .call { callee := .builtin .copy, args := #[d, s], argTypes := #[dT, sT] }) (elem : TypeId) (hu : P.underlying dT = some (.slice elem)) (hsz : (P.info? elem).map (·.size) = some 6)
    (base g n cap : Nat) (xs : List At) (hd : a.eval d = .slice (some ⟨g, 0, none⟩) n cap) (hown : w.ownsRow base elem 6 (.slice (some ⟨g, 0, none⟩) n cap) n (flat xs)) (hn : n = xs.length)
    (v : Value) (hs : a.eval s = v) (l : List At) (hv : SliceOf w v l) (hle : l.length ≤ n)
    (h : ∀ w', w'.ownsRow base elem 6 (.slice (some ⟨g, 0, none⟩) n cap) n (flat (l ++ xs.drop l.length)) → w.grownBy w' (some g) → wpList P ops Q rest (a.put o.dst (goInt l.length)) w') : wpList P ops Q (o :: rest) a w := by
  refine wpList_plain hgd fun K hK => ?_
  subst hn
  obtain ⟨ad, capS, rfl, hcap, H⟩ := hv
  by_cases h0 : 0 < l.length
  · obtain ⟨b, off, rfl, hb, hrow⟩ := H h0
    rcases hown.2 with ⟨h0, _⟩ | ⟨g', cap', cur, hv, hg, hh, h1, h2, h3, h4⟩
    · cases h0
    cases hv
    have hmin : Nat.min l.length xs.length = l.length := Nat.min_eq_left hle
    have hfl := flat_length l
    have hfit : 0 + (flat l).length ≤ cur.size := by rw [hfl, h3]; have := Nat.mul_le_mul_right 6 (Nat.le_trans hle h1); omega
    have hrun := run_copy_row6 (P := P) w dT sT o.type elem g 0 xs.length cap ⟨b, off, none⟩ l.length capS cur elem (flat l) hu hsz hh (by rw [hmin, hfl]) (rowAt_cells hrow) hfit (flat_oneCell l)
    rw [hmin] at hrun
    unfold Oper.wp
    simp only [execOp, ho, resolve, invoke, builtin, Sem.run_bind, Sem.run_pure, Result.andThen_ok, List.map_toArray, List.map_cons, List.map_nil, hd, hs, hrun]
    refine hK _ _ (h _ ?_ ?_)
    · refine ⟨by rw [flat_length]; simp; omega, .inr ⟨g, cap, _, rfl, hg, setRow_heap w g _ _ elem _ hh, h1, h2, ?_, ?_⟩⟩
      · simp; omega
      · simp only [List.take_zero, List.nil_append, Nat.zero_add]
        rw [List.take_append, List.take_of_length_le (by rw [hfl]; have := Nat.mul_le_mul_right 6 hle; omega), hfl, flat_append]
        congr 1
        have e1 : (cur.toList.drop (l.length * 6)).take (xs.length * 6 - l.length * 6) = (cur.toList.take (xs.length * 6)).drop (l.length * 6) := by rw [List.drop_take]
        rw [e1, h4, flat_drop]
    · exact ⟨rfl, rfl, rfl, by simp [World.setRow], fun k _ hne => setRow_other w g k _ (fun e => hne (by rw [e]))⟩
  · obtain rfl := List.length_eq_zero_iff.1 (by omega : l.length = 0)
    have hrun := run_copy_none6 (P := P) w dT sT o.type elem g 0 xs.length cap ad capS hu hsz
    unfold Oper.wp
    simp only [execOp, ho, resolve, invoke, builtin, Sem.run_bind, Sem.run_pure, Result.andThen_ok, List.map_toArray, List.map_cons, List.map_nil, hd, hs, List.length_nil, hrun]
    exact hK _ _ (h w (by simpa using hown) ⟨rfl, rfl, rfl, Nat.le_refl _, fun _ _ _ => rfl⟩)

theorem made_flat (n : Nat) : (madeCells (Value.cells (.agg #[.int .i64 0, .string ⟨#[]⟩, .int .i64 0, .int .i64 0, .string ⟨#[]⟩, .int .i64 0])) (n * 6)).toList = flat (List.replicate n ⟨0, ⟨#[]⟩, 0, 0, ⟨#[]⟩, 0⟩) := by
  apply List.ext_getElem?
  intro t
  by_cases ht : t < n * 6
  · have hk : t / 6 < (List.replicate n (⟨0, ⟨#[]⟩, 0, 0, ⟨#[]⟩, 0⟩ : At)).length := by simp; omega
    have hg := flat_get _ (t / 6) (t % 6) hk (Nat.mod_lt _ (by decide))
    rw [show t / 6 * 6 + t % 6 = t by omega] at hg
    rw [hg]
    simp only [List.getElem_replicate]
    have hcase : t % 6 = 0 ∨ t % 6 = 1 ∨ t % 6 = 2 ∨ t % 6 = 3 ∨ t % 6 = 4 ∨ t % 6 = 5 := by omega
    rcases hcase with e | e | e | e | e | e <;> simp [madeCells, Value.cells, ht, e, enc]
  · have h1 : (flat (List.replicate n (⟨0, ⟨#[]⟩, 0, 0, ⟨#[]⟩, 0⟩ : At))).length ≤ t := by rw [flat_length]; simp; omega
    rw [List.getElem?_eq_none h1, List.getElem?_eq_none (by simp [madeCells]; omega)]

theorem sizeAtom : (Tryz.prog.info? 77).map (·.size) = some 6 := by kernel_rfl

end Go.Proofs.YtahdlejgjcjeoaaGreatDoor

namespace Go.Proofs.YtahdlejgjcjeoaaGreatDoor
open Go.RowKit

/-- A comparison that is a whole order up to equals. -/
structure TP {α : Type} (c : α → α → Int) : Prop where
  anti : ∀ x y, c y x = - c x y
  trans : ∀ x y z, c x y ≤ 0 → c y z ≤ 0 → c x z ≤ 0

theorem TP.lex {α : Type} {c d : α → α → Int} (h : TP c) (k : TP d) : TP (fun x y => if c x y ≠ 0 then c x y else d x y) where
  anti x y := by
    have := h.anti x y
    have := k.anti x y
    split <;> split <;> omega
  trans x y z := by
    have a1 := h.trans x y z
    have a2 := h.trans y z x
    have a3 := h.trans z x y
    have b1 := k.trans x y z
    have e1 := h.anti x y
    have e2 := h.anti y z
    have e3 := h.anti x z
    split <;> split <;> split <;> omega

theorem TP.comap {α β : Type} {c : β → β → Int} (h : TP c) (f : α → β) : TP (fun x y => c (f x) (f y)) where
  anti _ _ := h.anti _ _
  trans _ _ _ := h.trans _ _ _

theorem TP.refl {α : Type} {c : α → α → Int} (h : TP c) (x : α) : c x x = 0 := by have := h.anti x x; omega
theorem TP.lt_le {α : Type} {c : α → α → Int} (h : TP c) {x y z : α} (a : c x y < 0) (b : c y z ≤ 0) : c x z < 0 := by
  have e1 := h.anti x y
  have e2 := h.anti x z
  have := h.trans y z x b
  omega
theorem TP.le_lt {α : Type} {c : α → α → Int} (h : TP c) {x y z : α} (a : c x y ≤ 0) (b : c y z < 0) : c x z < 0 := by
  have e1 := h.anti y z
  have e2 := h.anti x z
  have := h.trans z x y
  omega

def ci (a b : Int) : Int := sgn (a - b)
theorem ci_tp : TP ci where
  anti x y := by simp only [ci, sgn]; split <;> split <;> (try split) <;> (try split) <;> omega
  trans x y z := by
    simp only [ci, sgn]
    intro h1 h2
    have h1' : x ≤ y := by split at h1 <;> (try split at h1) <;> omega
    have h2' : y ≤ z := by split at h2 <;> (try split at h2) <;> omega
    split <;> (try split) <;> omega
theorem ci_zero (a b : Int) : ci a b = 0 ↔ a = b := by
  simp only [ci, sgn]
  split <;> (try split) <;> omega

theorem cb_anti : ∀ l r, Lib.compareBytes r l = - Lib.compareBytes l r
  | [], [] => rfl
  | [], _ :: _ => rfl
  | _ :: _, [] => rfl
  | a :: l, b :: r => by
    have ih := cb_anti l r
    simp only [Lib.compareBytes, UInt8.lt_iff_toNat_lt]
    split <;> split <;> omega
theorem cb_zero : ∀ l r, Lib.compareBytes l r = 0 ↔ l = r
  | [], [] => by simp [Lib.compareBytes]
  | [], _ :: _ => by simp [Lib.compareBytes]
  | _ :: _, [] => by simp [Lib.compareBytes]
  | a :: l, b :: r => by
    have ih := cb_zero l r
    have e : a = b ↔ a.toNat = b.toNat := UInt8.toNat_inj.symm
    simp only [Lib.compareBytes, UInt8.lt_iff_toNat_lt, List.cons.injEq, e]
    split
    · simp; omega
    · split
      · simp; omega
      · rw [ih]; constructor
        · intro h; exact ⟨by omega, h⟩
        · intro h; exact h.2
theorem cb_trans : ∀ l r s, Lib.compareBytes l r ≤ 0 → Lib.compareBytes r s ≤ 0 → Lib.compareBytes l s ≤ 0
  | [], _, [] => by simp [Lib.compareBytes]
  | [], _, _ :: _ => by simp [Lib.compareBytes]
  | _ :: _, [], _ => by simp [Lib.compareBytes]
  | _ :: _, _ :: _, [] => by simp [Lib.compareBytes]
  | a :: l, b :: r, c :: s => by
    have ih := cb_trans l r s
    simp only [Lib.compareBytes, UInt8.lt_iff_toNat_lt]
    split <;> split <;> (try split) <;> (try split) <;> (try split) <;> omega
theorem ordS_tp : TP ordS where
  anti _ _ := cb_anti _ _
  trans _ _ _ := cb_trans _ _ _
theorem ordS_zero (a b : ByteArray) : ordS a b = 0 ↔ a = b := by
  unfold ordS
  rw [cb_zero]
  constructor
  · intro h; exact ByteArray.ext (Array.toList_inj.1 h)
  · intro h; rw [h]

/-- A slot, a grade: the program's own. -/
structure Sl where
  ty : Int
  key : ByteArray
  side : Int
  who : Int
  elem : ByteArray
structure Gr where
  n : Int
  who : Int
  elem : ByteArray

def scmp (s t : Sl) : Int :=
  if ci s.ty t.ty ≠ 0 then ci s.ty t.ty
  else if ordS s.key t.key ≠ 0 then ordS s.key t.key
  else if ci s.side t.side ≠ 0 then ci s.side t.side
  else if ci s.who t.who ≠ 0 then ci s.who t.who
  else ordS s.elem t.elem
def gcmp (g h : Gr) : Int :=
  if ci g.n h.n ≠ 0 then ci g.n h.n
  else if ci g.who h.who ≠ 0 then ci g.who h.who
  else ordS g.elem h.elem
theorem scmp_tp : TP scmp := (ci_tp.comap Sl.ty).lex ((ordS_tp.comap Sl.key).lex ((ci_tp.comap Sl.side).lex ((ci_tp.comap Sl.who).lex (ordS_tp.comap Sl.elem))))
theorem gcmp_tp : TP gcmp := (ci_tp.comap Gr.n).lex ((ci_tp.comap Gr.who).lex (ordS_tp.comap Gr.elem))
theorem scmp_zero (s t : Sl) : scmp s t = 0 ↔ s = t := by
  obtain ⟨a1, a2, a3, a4, a5⟩ := s
  obtain ⟨b1, b2, b3, b4, b5⟩ := t
  simp only [scmp, Sl.mk.injEq]
  rw [← ci_zero a1 b1, ← ordS_zero a2 b2, ← ci_zero a3 b3, ← ci_zero a4 b4, ← ordS_zero a5 b5]
  split
  · omega
  · split
    · omega
    · split
      · omega
      · split
        · omega
        · omega
theorem gcmp_zero (s t : Gr) : gcmp s t = 0 ↔ s = t := by
  obtain ⟨a1, a2, a3⟩ := s
  obtain ⟨b1, b2, b3⟩ := t
  simp only [gcmp, Gr.mk.injEq]
  rw [← ci_zero a1 b1, ← ci_zero a2 b2, ← ordS_zero a3 b3]
  split
  · omega
  · split
    · omega
    · omega

def slot (a : At) : Sl := if a.ty = 5 then ⟨a.ty, a.key, 0, 0, ByteArray.empty⟩ else ⟨a.ty, a.key, a.side, a.who, a.elem⟩
def grade (a : At) : Gr := if a.ty = 5 then ⟨a.n, a.who, a.elem⟩ else ⟨a.n, 0, ByteArray.empty⟩
/-- The atom of a slot and a grade. -/
def unite (s : Sl) (g : Gr) : At := if s.ty = 5 then ⟨s.ty, s.key, 0, g.who, g.elem, g.n⟩ else ⟨s.ty, s.key, s.side, s.who, s.elem, g.n⟩

theorem plc_eq (a b : At) : plc a b = scmp (slot a) (slot b) := by
  have e0 : ∀ x, ci x x = 0 := fun x => (ci_zero x x).2 rfl
  have z0 : ∀ x, ordS x x = 0 := fun x => (ordS_zero x x).2 rfl
  by_cases h : a.ty = b.ty
  · by_cases h5 : a.ty = 5
    · have h5b : b.ty = 5 := by omega
      simp only [plc, slot, scmp, h5, h5b, if_true, ne_eq, not_true_eq_false, if_false, or_true]
      rw [e0 5, e0 0, z0]
      by_cases hk : ordS a.key b.key = 0 <;> simp [hk]
    · have h5b : ¬ b.ty = 5 := by omega
      simp only [plc, slot, scmp, if_neg h5b, h, e0]
      have s1 : (a.side ≠ b.side) ↔ ci a.side b.side ≠ 0 := by rw [Ne, ← ci_zero]
      have s2 : (a.who ≠ b.who) ↔ ci a.who b.who ≠ 0 := by rw [Ne, ← ci_zero]
      simp only [s1, s2, h5b, or_false, ne_eq, not_true_eq_false, if_false]
      rfl
  · have hc : ci a.ty b.ty ≠ 0 := by rw [Ne, ci_zero]; exact h
    have e1 : (slot a).ty = a.ty := by unfold slot; split <;> rfl
    have e2 : (slot b).ty = b.ty := by unfold slot; split <;> rfl
    simp only [plc, scmp, e1, e2, if_pos hc]
    rw [if_pos h]; rfl

theorem grd_eq (a b : At) (h : a.ty = b.ty) : grd a b = gcmp (grade a) (grade b) := by
  have e0 : ∀ x, ci x x = 0 := fun x => (ci_zero x x).2 rfl
  have z0 : ∀ x, ordS x x = 0 := fun x => (ordS_zero x x).2 rfl
  have s1 : (a.n ≠ b.n) ↔ ci a.n b.n ≠ 0 := by rw [Ne, ← ci_zero]
  have s2 : (a.who ≠ b.who) ↔ ci a.who b.who ≠ 0 := by rw [Ne, ← ci_zero]
  by_cases h5 : a.ty = 5
  · have h5b : b.ty = 5 := by omega
    simp only [grd, grade, gcmp, h5, h5b, s1, s2, if_true, ne_eq, not_true_eq_false, if_false]
    rfl
  · have h5b : ¬ b.ty = 5 := by omega
    simp only [grd, grade, gcmp, if_neg h5b, e0, z0, s1, s2, ne_eq, not_true_eq_false, if_false, h5, not_false_eq_true, if_true]
    rfl

theorem slot_ty (a : At) : (slot a).ty = a.ty := by unfold slot; split <;> rfl
theorem unite_eq (a : At) (h : mayB a = true) : unite (slot a) (grade a) = a := by
  obtain ⟨ty, key, side, who, elem, n⟩ := a
  simp only [mayB, decide_eq_true_eq] at h
  unfold unite
  rw [slot_ty]
  by_cases h5 : ty = 5
  · have : side = 0 := by omega
    simp [slot, grade, h5, this]
  · simp [slot, grade, h5]

/-- IT IS TOLD: sorted; each of it the greatest of its slot in the list; of every slot of the list. -/
structure IsTold (l out : List At) : Prop where
  sorted : out.Pairwise (fun x y => plc x y < 0)
  great : ∀ x ∈ out, x ∈ l ∧ ∀ y ∈ l, plc y x = 0 → grd y x ≤ 0
  all : ∀ y ∈ l, ∃ x ∈ out, plc y x = 0

theorem plc_tp : TP plc := by
  have : plc = fun a b => scmp (slot a) (slot b) := by funext a b; exact plc_eq a b
  rw [this]; exact scmp_tp.comap slot
theorem plc_ty {a b : At} (h : plc a b = 0) : a.ty = b.ty := by
  rw [plc_eq, scmp_zero] at h
  rw [← slot_ty a, ← slot_ty b, h]
theorem same_of {a b : At} (ha : mayB a = true) (hb : mayB b = true) (h : plc a b = 0) (hg : grd a b = 0) : a = b := by
  have ht := plc_ty h
  rw [plc_eq, scmp_zero] at h
  rw [grd_eq a b ht, gcmp_zero] at hg
  rw [← unite_eq a ha, ← unite_eq b hb, h, hg]
theorem grd_anti {a b : At} (h : a.ty = b.ty) : grd b a = - grd a b := by
  rw [grd_eq a b h, grd_eq b a h.symm]; exact gcmp_tp.anti _ _

/-- Two sorted lists of the same elements are one. -/
theorem sorted_ext {c : At → At → Int} (hc : TP c) : ∀ {l r : List At}, l.Pairwise (fun x y => c x y < 0) → r.Pairwise (fun x y => c x y < 0) → (∀ x, x ∈ l ↔ x ∈ r) → l = r
  | [], [], _, _, _ => rfl
  | [], y :: r, _, _, h => by have := (h y).2 (by simp); simp at this
  | x :: l, [], _, _, h => by have := (h x).1 (by simp); simp at this
  | x :: l, y :: r, hl, hr, h => by
    rw [List.pairwise_cons] at hl hr
    have hxy : x = y := by
      have h1 : x = y ∨ x ∈ r := by simpa using (h x).1 (by simp)
      have h2 : y = x ∨ y ∈ l := by simpa using (h y).2 (by simp)
      rcases h1 with h1 | h1
      · exact h1
      · rcases h2 with h2 | h2
        · exact h2.symm
        · have a1 := hl.1 y h2
          have a2 := hr.1 x h1
          have := hc.anti x y
          omega
    subst hxy
    congr 1
    refine sorted_ext hc hl.2 hr.2 fun z => ?_
    constructor
    · intro hz
      have h1 : z = x ∨ z ∈ r := by simpa using (h z).1 (by simp [hz])
      rcases h1 with h1 | h1
      · have := hl.1 z hz; rw [h1, hc.refl] at this; omega
      · exact h1
    · intro hz
      have h1 : z = x ∨ z ∈ l := by simpa using (h z).2 (by simp [hz])
      rcases h1 with h1 | h1
      · have := hr.1 z hz; rw [h1, hc.refl] at this; omega
      · exact h1

theorem IsTold.sub {l a b : List At} (hl : ∀ x ∈ l, mayB x = true) (ha : IsTold l a) (hb : IsTold l b) : ∀ x ∈ a, x ∈ b := by
  intro x hx
  obtain ⟨hxl, hxm⟩ := ha.great x hx
  obtain ⟨y, hy, hxy⟩ := hb.all x hxl
  obtain ⟨hyl, hym⟩ := hb.great y hy
  have h1 := hym x hxl hxy
  have hyx : plc y x = 0 := by rw [plc_tp.anti x y, hxy]; rfl
  have h2 := hxm y hyl hyx
  rw [grd_anti (plc_ty hxy)] at h2
  rw [same_of (hl x hxl) (hl y hyl) hxy (by omega)]
  exact hy
/-- A state is told in one way. -/
theorem IsTold.unique {l a b : List At} (hl : ∀ x ∈ l, mayB x = true) (ha : IsTold l a) (hb : IsTold l b) : a = b :=
  sorted_ext plc_tp ha.sorted hb.sorted fun x => ⟨ha.sub hl hb x, hb.sub hl ha x⟩

end Go.Proofs.YtahdlejgjcjeoaaGreatDoor
