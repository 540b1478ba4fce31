/- Walk of the laws' ownAtoms. -/
import Derived.Test.YtahdlejgjcjeoabGreatDoorS06
import Derived.Test.YtahdlejgjcjeoabGreatDoorS01
import Derived.Deep.MidRow
import Derived.Deep.RegionHeld3
import Derived.Test.YtahdlejgjcjeoabGreatDoorS05
import Derived.Test.YtahdlejgjcjeoabGreatDoorS17
import Derived.Test.YtahdlejgjcjeoabGreatDoorS13
import Derived.Shelf.Sort.Plain
import Derived.Shelf.Slices.In.SortNone
import Derived.Test.YtahdlejgjcjeoabGreatDoorProg
import Derived.Test.YtahdlejgjcjeoabGreatDoorS16
import Derived.Test.YtahdlejgjcjeoabGreatDoorS04
import Derived.Test.YtahdlejgjcjeoabGreatDoorS09
namespace Go.Proofs.YtahdlejgjcjeoabGreatDoor
open Go.RowKit Go.MuLone

def rec14 (m : Nat) : List Value := [.bool true, .int .i64 0, .int .i64 0, .map (some m), .slice none 0 0, .int .i64 0, .int .i64 0, .int .i64 0, .int .i64 0, .int .i64 0, .int .i64 0, .slice none 0 0, .int .i64 0, .int .i64 0]
def noMap : Sl → Option Gr := fun _ => none
def zero14 : List Value := [.bool false, .int .i64 0, .int .i64 0, .map none, .slice none 0 0, .int .i64 0, .int .i64 0, .int .i64 0, .int .i64 0, .int .i64 0, .int .i64 0, .slice none 0 0, .int .i64 0, .int .i64 0]
def zeros (n : Nat) : List Value := (List.replicate n zero14).flatten
def clB (bp rr : Bool) (room : Int) (F : Nat → Nat → Bool) (R n : Nat) : List Value := [.int .i32 0, .int .u32 0, .bool bp, .bool rr, .int .i64 room] ++ (linkB F ++ [.slice (some ⟨R, 0, none⟩) n n, .slice none 0 0])
theorem infoRep : (Tryz.prog.info? 126).map (fun i => (i.zero, i.size, i.bytes)) = some (some (.agg zero14.toArray), 14, 144) := by kernel_rfl
theorem made_reps (n : Nat) : madeCells (Value.cells (.agg zero14.toArray)) (n * 14) = (zeros n).toArray := by
  apply Array.ext_getElem?
  intro t
  have hl : (zeros n).length = n * 14 := reps_length n zero14
  by_cases ht : t < n * 14
  · have hm : t % 14 < 14 := Nat.mod_lt _ (by decide)
    have hu : zero14[t % 14]? = some zero14[t % 14]! := by
      rw [getElem!_pos zero14 (t % 14) hm, List.getElem?_eq_getElem hm]
    have h2 := reps_get (n := n) (i := t / 14) (by omega) hu
    rw [show t / 14 * zero14.length + t % 14 = t by show t / 14 * 14 + t % 14 = t; omega] at h2
    have h3 : (zeros n).toArray[t]? = some zero14[t % 14]! := by rw [List.getElem?_toArray]; exact h2
    rw [h3]
    have hz : (Value.cells (.agg zero14.toArray)) = zero14.toArray := rfl
    rw [hz]
    unfold madeCells
    rw [Array.getElem?_map, Array.getElem?_range, if_pos ht]
    show some (zero14.toArray[t % 14]!) = _
    rw [List.getElem!_toArray]
  · rw [Array.getElem?_eq_none (by rw [size_madeCells]; omega), Array.getElem?_eq_none (by simp; omega)]
theorem make_reps (n : Nat) (h6 : n ≤ 6) (W : World) : (Instr.makeSlice 105 (.int .i64 (n : Int)) (.int .i64 (n : Int))).run Tryz.prog W = .ok (.slice (some ⟨W.heap.size, 0, none⟩) n n) (W.alloc (.cells (zeros n).toArray 126)) := by
  obtain ⟨i, hi, hz0, hz1, hz2⟩ := info_parts infoRep
  have hr := run_make (P := Tryz.prog) W 105 126 i _ Tryz.underlying105 hi hz0 .i64 .i64 n n (by omega) (Int.le_refl _) (by rw [hz2]; omega) (by omega)
  simp only [Int.toNat_natCast] at hr
  rw [hr, hz1, made_reps n]
theorem cellKeepA {W : World} {a : Addr} {v : Value} (h : W.cell? a = some v) (o : Obj) : (W.alloc o).cell? a = some v := by
  obtain ⟨b, k, s⟩ := a
  cases s with
  | none =>
    obtain ⟨cs, e, fz, hx, _⟩ := Go.Sort.cells_of_cell? h
    exact (((Below.refl W.heap.size W).alloc (Nat.le_refl _) o).cell (p := ⟨b, k, none⟩) (Array.getElem?_eq_some_iff.1 hx).1).trans h
  | some s =>
    simp only [World.cell?] at h
    split at h <;> cases h
/-- Made, and not filled yet. -/
structure MadeP (w wc : World) (x R n : Nat) (bp rr : Bool) (room : Int) (F : Nat → Nat → Bool) : Prop where
  bel : Below w.heap.size w wc
  bx : wc.heap[x]? = some (.cells (clB bp rr room F R n).toArray 108 (0, 0))
  bR : wc.heap[R]? = some (.cells (zeros n).toArray 126 (0, 0))
  hx : w.heap.size ≤ x
  hR : w.heap.size ≤ R

structure FillP (w wc : World) (x R n r : Nat) (bp rr : Bool) (room : Int) (F : Nat → Nat → Bool) : Prop where
  bel : Below w.heap.size w wc
  bx : wc.heap[x]? = some (.cells (clB bp rr room F R n).toArray 108 (0, 0))
  hx : w.heap.size ≤ x
  hR : w.heap.size ≤ R
  xR : x ≠ R
  ltR : R < wc.heap.size
  th : ∀ i, i < n → wc.there R (i * 14) 14
  row : ∀ i, i < r → ∃ m, wc.rangeAt R (i * 14) (rec14 m) ∧ StMap wc m 0 noMap ∧ m ≠ x ∧ m ≠ R ∧ w.heap.size ≤ m
theorem zeros_length (n : Nat) : (zeros n).length = n * 14 := reps_length n zero14
theorem MadeP.start {w wc : World} {x R n : Nat} {bp rr : Bool} {room : Int} {F : Nat → Nat → Bool} (h : MadeP w wc x R n bp rr room F) : FillP w wc x R n 0 bp rr room F where
  bel := h.bel
  bx := h.bx
  hx := h.hx
  hR := h.hR
  xR e := by
    have := h.bx
    rw [e, h.bR] at this
    simp at this
  ltR := blk_lt h.bR
  th i hi j hj := by
    refine ⟨?_, blk_thaw h.bR _⟩
    have hl : i * 14 + j < (zeros n).length := by rw [zeros_length]; omega
    rw [blk_cell h.bR, List.getElem?_toArray, List.getElem?_eq_getElem hl]
    rfl
  row i hi := by omega
theorem FillP.step {w wc : World} {x R n r : Nat} {bp rr : Bool} {room : Int} {F : Nat → Nat → Bool} (h : FillP w wc x R n r bp rr room F) (hr : r < n) : FillP w ((wc.alloc (.map #[] 0)).setCells R (r * 14) (rec14 wc.heap.size)) x R n (r + 1) bp rr room F where
  bel := ((below_alloc h.bel _).grown (grown_setCells _ _ _) (by have := h.bel.size; simp; omega) (fun k hk => by cases hk; exact h.hR))
  bx := by
    refine ((grown_setCells (g := R) (rec14 wc.heap.size) (r * 14) (wc.alloc (.map #[] 0))).block x (by have := blk_lt h.bx; simp; omega) (fun e => h.xR (Option.some.inj e))).trans ?_
    exact (((Below.refl wc.heap.size wc).alloc (Nat.le_refl _) _).block x (blk_lt h.bx)).trans h.bx
  hx := h.hx
  hR := h.hR
  xR := h.xR
  ltR := Nat.lt_of_lt_of_le h.ltR (Nat.le_trans (by simp) (grown_setCells (g := R) (rec14 wc.heap.size) (r * 14) (wc.alloc (.map #[] 0))).size)
  th i hi := World.there_setCells (World.there_alloc (h.th i hi) _) _ _ _
  row i hi := by
    by_cases e : i = r
    · subst e
      refine ⟨wc.heap.size, World.rangeAt_setCells_same _ _ _ _ (World.there_alloc (h.th i hr) _), ?_, ?_, ?_, h.bel.size⟩
      · exact (stMap_made wc).kept (grown_setCells _ _ _) (fun e => by have := h.ltR; have := Option.some.inj e; omega)
      · have := blk_lt h.bx; omega
      · have := h.ltR; omega
    · obtain ⟨m, h1, h2, h3, h4, h5⟩ := h.row i (by omega)
      refine ⟨m, World.rangeAt_setCells_apart (World.rangeAt_alloc h1 _) _ _ _ (.inr (.inl ?_)), ?_, h3, h4, h5⟩
      · show i * 14 + 14 ≤ r * 14
        omega
      · exact (h2.kept (World.grownBy_alloc wc _ none) (by simp)).kept (grown_setCells _ _ _) (fun e => h4 (Option.some.inj e))
end Go.Proofs.YtahdlejgjcjeoabGreatDoor

namespace Go.Proofs.YtahdlejgjcjeoabGreatDoor
open Go.RowKit Go.Maps

def Sl.one (s : Sl) : Sl := ⟨s.ty, s.key, 1, s.who, s.elem⟩
theorem Sl.one_ok {s : Sl} (h : s.ok) : s.one.ok := ⟨h.1, h.2.1, (by decide : (Lit.int .i64 1).wf = true), h.2.2.2.1, h.2.2.2.2⟩

set_option maxRecDepth 100000 in
set_option maxHeartbeats 1000000 in
theorem isRemoved_any (b n : Nat) (M : Sl → Option Gr) (s : Sl) (w : World) (hm : StMap w b n M) (hs : s.ok) :
    Calls Tryz.prog 192 #[.map (some b), .agg #[.int .i64 s.ty, .string s.key, .int .i64 s.side, .int .i64 s.who, .string s.elem]] w fun e w' => e = .returned (.bool (M s.one).isSome) ∧ Below w.heap.size w w' := by
  have h1 := Sl.one_ok hs
  go_enter Tryz.func192, Tryz.ntmps192
  go_wp2_with (at_lookup; refine wpList_st_look_exp _ rfl _ _ 122 rfl Tryz.underlying122 b n M rfl (hm.alloc _) s.one h1 rfl (got M s.one) (M s.one).isSome rfl rfl ?_)
  go_ret
  exact ⟨rfl, below_alloc (below_alloc (Below.refl _ _) _) _⟩

/-- Kept by elems. -/
def kept (M : Sl → Option Gr) (a : At) : Bool := decide ((slot a).side = 0) && (M (slot a).one).isNone
def elemsOf (M : Sl → Option Gr) (C : List At) : List ByteArray := (C.filter (kept M)).map fun a => (slot a).elem
theorem elemsOf_snoc (M : Sl → Option Gr) (C : List At) (a : At) : elemsOf M (C ++ [a]) = if kept M a then elemsOf M C ++ [(slot a).elem] else elemsOf M C := by
  unfold elemsOf
  rw [List.filter_append]
  by_cases h : kept M a <;> simp [h]
theorem elemsOf_length (M : Sl → Option Gr) (C : List At) : (elemsOf M C).length ≤ C.length := by
  unfold elemsOf
  rw [List.length_map]
  exact List.length_filter_le _ _
theorem infoText : (Tryz.prog.info? 9).map (fun i => (i.zero, i.size, i.bytes)) = some (some (.string ⟨#[]⟩), 1, 16) := by kernel_rfl
end Go.Proofs.YtahdlejgjcjeoabGreatDoor

namespace Go.Proofs.YtahdlejgjcjeoabGreatDoor
open Go.RowKit

theorem told_inM {M : Sl → Option Gr} {l T : List At} (h : Holds2 M l) (hl : ∀ a ∈ l, mayB a = true) (hT : IsTold l T) : ∀ a, a ∈ T ↔ InM M a := by
  have fwd : ∀ a, a ∈ T → InM M a := by
    intro a ha
    obtain ⟨hal, hg⟩ := hT.great a ha
    obtain ⟨g, hMg, hle⟩ := h.top a hal
    obtain ⟨a', ha', h1, h2⟩ := h.only _ _ hMg
    have hp : plc a' a = 0 := by rw [plc_eq, scmp_zero, h1]
    have h3 := hg a' ha' hp
    rw [grd_eq a' a (plc_ty hp), h2] at h3
    have h4 := gcmp_tp.anti (grade a) g
    have : g = grade a := (gcmp_zero _ _).1 (by omega)
    exact ⟨hl a hal, by rw [hMg, this]⟩
  intro a
  refine ⟨fwd a, fun ⟨hm, hM⟩ => ?_⟩
  obtain ⟨a', ha', h1, h2⟩ := h.only _ _ hM
  have haa : a' = a := by rw [← unite_eq a' (hl a' ha'), ← unite_eq a hm, h1, h2]
  subst haa
  obtain ⟨x, hx, hp⟩ := hT.all a' ha'
  obtain ⟨hxm, hxM⟩ := fwd x hx
  have hs := plc_slot hp
  rw [← hs, hM] at hxM
  have : x = a' := by rw [← unite_eq x hxm, ← unite_eq a' hm, hs, Option.some.inj hxM]
  exact this ▸ hx

/-- The atoms of a type and key. -/
def ofKey (T : List At) (kind : Int) (key : ByteArray) : List At := T.filter fun a => decide (a.ty = kind ∧ a.key = key)
theorem slot_key (a : At) : (slot a).key = a.key := by unfold slot; split <;> rfl
theorem narrow_inM (M : Sl → Option Gr) (kind : Int) (key : ByteArray) (a : At) : InM (narrowM M kind key) a ↔ InM M a ∧ a.ty = kind ∧ a.key = key := by
  unfold InM narrowM
  rw [slot_ty, slot_key]
  by_cases h : a.ty = kind ∧ a.key = key
  · rw [if_pos h]; simp [h]
  · rw [if_neg h]; simp [h]
theorem ne_nodup {C : List At} (h : C.Pairwise (fun x y => plc x y ≠ 0)) : C.Nodup := List.Pairwise.imp (fun {x y} hne => fun e : x = y => by subst e; exact hne (plc_tp.refl x)) h
theorem ofKey_sorted {T : List At} (h : T.Pairwise (fun x y => plc x y < 0)) (kind : Int) (key : ByteArray) : (ofKey T kind key).Pairwise (fun x y => plc x y < 0) := h.filter _
theorem coll_perm {M : Sl → Option Gr} {l T C : List At} {kind : Int} {key : ByteArray} (h : Holds2 M l) (hl : ∀ a ∈ l, mayB a = true) (hT : IsTold l T) (hC : Coll (narrowM M kind key) (fun _ => false) C) : C.Perm (ofKey T kind key) := by
  refine (List.perm_ext_iff_of_nodup (ne_nodup hC.apart) (ne_nodup ((ofKey_sorted hT.sorted kind key).imp fun {x y} h => by omega))).2 fun a => ?_
  rw [hC.mem a, narrow_inM]
  unfold ofKey
  rw [List.mem_filter, told_inM h hl hT a]
  simp
theorem svs_perm {a b : List At} (h : a.Perm b) : svs a = svs b := by
  induction h with
  | nil => rfl
  | cons x _ ih => simp only [svs, List.map_cons, List.sum_cons] at *; rw [ih]
  | swap x y l => simp only [svs, List.map_cons, List.sum_cons]; omega
  | trans _ _ h1 h2 => rw [h1, h2]
theorem elemsOf_perm {M : Sl → Option Gr} {a b : List At} (h : a.Perm b) : (elemsOf M a).Perm (elemsOf M b) := (h.filter _).map _
theorem texts_ext {a b : List ByteArray} (h : a.Perm b) (ha : a.Pairwise (fun x y => ordS x y ≤ 0)) (hb : b.Pairwise (fun x y => ordS x y ≤ 0)) : a = b :=
  List.Perm.eq_of_pairwise (le := fun x y => ordS x y ≤ 0) (fun x y _ _ h1 h2 => (ordS_zero x y).1 (by have := ordS_tp.anti x y; omega)) ha hb h

/-- P7, as the document tells it: what is counted; the elements. -/
def isGone (T : List At) (key e : ByteArray) : Bool := T.any fun y => decide (y.ty = 4 ∧ y.key = key ∧ y.side = 1 ∧ y.elem = e)
def valN (kind : Int) (key : ByteArray) (L : List At) : Int :=
  if kind = 1 ∨ kind = 2 then ((ofKey L kind key).map fun a => a.n * (1 - 2 * a.side)).sum
  else if kind = 5 then ((ofKey L kind key).getLast?.map (·.n)).getD 0 else 0
def keepsE (T : List At) (kind : Int) (key : ByteArray) (a : At) : Bool := decide (kind = 3) || decide (kind = 5) || (decide (kind = 4) && decide (a.side ≠ 1) && !isGone T key a.elem)
def valE (T : List At) (kind : Int) (key : ByteArray) (L : List At) : List ByteArray := ((ofKey L kind key).filter (keepsE T kind key)).map (·.elem)
theorem valE_length (T L : List At) (kind : Int) (key : ByteArray) : (valE T kind key L).length ≤ L.length := by
  unfold valE ofKey
  rw [List.length_map]
  exact Nat.le_trans (List.length_filter_le _ _) (List.length_filter_le _ _)
theorem valN_set (L : List At) (kind : Int) (key : ByteArray) (hk : kind = 3 ∨ kind = 4) : valN kind key L = 0 := by
  unfold valN
  rw [if_neg (by omega), if_neg (by omega)]

theorem mem_ofKey {T : List At} {kind : Int} {key : ByteArray} {a : At} : a ∈ ofKey T kind key ↔ a ∈ T ∧ a.ty = kind ∧ a.key = key := by
  unfold ofKey
  rw [List.mem_filter]
  simp
theorem sv_may {a : At} (h : mayB a = true) (ht : a.ty = 1 ∨ a.ty = 2) : sv a = a.n * (1 - 2 * a.side) := by
  unfold sv
  rw [grade_n]
  have hs : (slot a).side = a.side := by unfold slot; rw [if_neg (by omega)]
  have h2 : a.side = 0 ∨ a.side = 1 := by
    simp only [mayB, decide_eq_true_eq] at h
    omega
  rw [hs]
  rcases h2 with h2 | h2 <;> rw [h2] <;> simp
/-- A counter's value. -/
theorem total_val {T : List At} {kind : Int} {key : ByteArray} (hT : ∀ a ∈ T, mayB a = true) (hk : kind = 1 ∨ kind = 2) : svs (ofKey T kind key) = valN kind key T ∧ valE T kind key T = [] := by
  constructor
  · unfold valN svs
    rw [if_pos hk]
    congr 1
    refine List.map_congr_left fun a ha => ?_
    obtain ⟨h1, h2, _⟩ := mem_ofKey.1 ha
    exact sv_may (hT a h1) (by omega)
  · unfold valE
    rw [List.map_eq_nil_iff, List.filter_eq_nil_iff]
    intro a _
    unfold keepsE
    have h1 : ¬ kind = 3 := by omega
    have h2 : ¬ kind = 5 := by omega
    have h3 : ¬ kind = 4 := by omega
    simp [h1, h2, h3]
/-- A set's elements. -/
theorem elems_val {M : Sl → Option Gr} {l T : List At} {kind : Int} {key : ByteArray} (h : Holds2 M l) (hl : ∀ a ∈ l, mayB a = true) (hT : IsTold l T) (hk : kind = 3 ∨ kind = 4) : elemsOf (narrowM M kind key) (ofKey T kind key) = valE T kind key T ∧ (valE T kind key T).Pairwise (fun x y => ordS x y ≤ 0) := by
  have hmt : ∀ a ∈ T, mayB a = true := fun a ha => hl a (hT.great a ha).1
  have hin := told_inM h hl hT
  have hsl : ∀ a ∈ ofKey T kind key, slot a = ⟨kind, key, a.side, 0, a.elem⟩ ∧ a.ty = kind ∧ a.key = key ∧ (a.side = 0 ∨ a.side = 1) ∧ (kind = 3 → a.side = 0) ∧ a.who = 0 := by
    intro a ha
    obtain ⟨h1, h2, h3⟩ := mem_ofKey.1 ha
    have hm := hmt a h1
    have hw : a.who = 0 ∧ (a.side = 0 ∨ a.side = 1) ∧ (kind = 3 → a.side = 0) := by
      simp only [mayB, decide_eq_true_eq] at hm
      omega
    refine ⟨?_, h2, h3, hw.2.1, hw.2.2, hw.1⟩
    unfold slot
    rw [if_neg (by omega), h2, h3, hw.1]
  have hkeep : ∀ a ∈ ofKey T kind key, kept (narrowM M kind key) a = keepsE T kind key a := by
    intro a ha
    obtain ⟨hs, ht, hkey, hside, h3, hw⟩ := hsl a ha
    unfold kept keepsE
    rw [hs]
    have hone : narrowM M kind key (Sl.one ⟨kind, key, a.side, 0, a.elem⟩) = M ⟨kind, key, 1, 0, a.elem⟩ := by unfold narrowM Sl.one; simp
    rw [hone]
    rcases hk with rfl | rfl
    · have hn : M ⟨3, key, 1, 0, a.elem⟩ = none := by
        cases hM : M ⟨3, key, 1, 0, a.elem⟩ with
        | none => rfl
        | some g =>
          obtain ⟨y, hy, e1, e2⟩ := h.only _ _ hM
          have hm := hl y hy
          have ty : y.ty = 3 := by rw [← slot_ty y, e1]
          have sd : y.side = 1 := by
            have : (slot y).side = y.side := by unfold slot; rw [if_neg (by omega)]
            rw [← this, e1]
          simp only [mayB, decide_eq_true_eq] at hm
          omega
      rw [hn, h3 rfl]
      simp
    · have hg : (M ⟨4, key, 1, 0, a.elem⟩).isNone = !isGone T key a.elem := by
        cases hM : M ⟨4, key, 1, 0, a.elem⟩ with
        | none =>
          have : isGone T key a.elem = false := by
            unfold isGone
            rw [List.any_eq_false]
            intro y hy
            simp only [decide_eq_true_eq]
            rintro ⟨y1, y2, y3, y4⟩
            obtain ⟨hym, hyM⟩ := (hin y).1 hy
            have hyw : y.who = 0 := by
              simp only [mayB, decide_eq_true_eq] at hym
              omega
            have : slot y = ⟨4, key, 1, 0, a.elem⟩ := by unfold slot; rw [if_neg (by omega), y1, y2, y3, y4, hyw]
            rw [this, hM] at hyM
            cases hyM
          rw [this]
          rfl
        | some g =>
          have : isGone T key a.elem = true := by
            obtain ⟨y0, hy0, e1, e2⟩ := h.only _ _ hM
            have hyT : y0 ∈ T := (hin y0).2 ⟨hl y0 hy0, by rw [e1, e2]; exact hM⟩
            have ty : y0.ty = 4 := by rw [← slot_ty y0, e1]
            have es : slot y0 = ⟨y0.ty, y0.key, y0.side, y0.who, y0.elem⟩ := by unfold slot; rw [if_neg (by omega)]
            rw [es] at e1
            simp only [Sl.mk.injEq] at e1
            unfold isGone
            rw [List.any_eq_true]
            exact ⟨y0, hyT, by simp [e1.1, e1.2.1, e1.2.2.1, e1.2.2.2.2]⟩
          rw [this]
          rfl
      rw [hg]
      rcases hside with e | e <;> rw [e] <;> simp
  have hE : elemsOf (narrowM M kind key) (ofKey T kind key) = valE T kind key T := by
    unfold elemsOf valE
    rw [List.filter_congr hkeep]
    refine List.map_congr_left fun a ha => ?_
    rw [(hsl a (List.mem_filter.1 ha).1).1]
  refine ⟨hE, ?_⟩
  unfold valE
  rw [List.pairwise_map]
  have hs := (ofKey_sorted hT.sorted kind key).filter (keepsE T kind key)
  refine List.Pairwise.imp_of_mem (fun {x y} hx hy hxy => ?_) hs
  obtain ⟨hx1, hx2⟩ := List.mem_filter.1 hx
  obtain ⟨hy1, hy2⟩ := List.mem_filter.1 hy
  have kx := hkeep x hx1
  have ky := hkeep y hy1
  rw [hx2] at kx
  rw [hy2] at ky
  obtain ⟨sx, _⟩ := hsl x hx1
  obtain ⟨sy, _⟩ := hsl y hy1
  have zx : x.side = 0 := by
    unfold kept at kx
    rw [sx] at kx
    simp at kx
    exact kx.1
  have zy : y.side = 0 := by
    unfold kept at ky
    rw [sy] at ky
    simp at ky
    exact ky.1
  rw [plc_eq, sx, sy, zx, zy] at hxy
  have e0 : ∀ z, ci z z = 0 := fun z => (ci_zero z z).2 rfl
  have z0 : ordS key key = 0 := (ordS_zero key key).2 rfl
  simp only [scmp, e0, z0] at hxy
  simp at hxy
  omega
end Go.Proofs.YtahdlejgjcjeoabGreatDoor

namespace Go.Proofs.YtahdlejgjcjeoabGreatDoor
open Go.Shelf

def sortTexts_ren : Go.Shelf.Ren := ⟨fun | 190 => 193 | 125 => 186 | 258 => 215 | 128 => 210 | 129 => 211 | 302 => 225 | 303 => 226 | 304 => 227 | 305 => 228 | 306 => 229 | 307 => 230 | 308 => 231 | 309 => 232 | 310 => 233 | 333 => 236 | 329 => 221 | 330 => 222 | 334 => 237 | 335 => 238 | 336 => 213 | 344 => 239 | n => n, fun | 31 => 86 | 9 => 9 | 3 => 3 | 46 => 238 | 0 => 0 | 51 => 97 | 53 => 274 | 4 => 4 | 183 => 266 | 182 => 265 | 131 => 270 | 5 => 5 | 218 => 280 | 222 => 284 | 228 => 293 | 229 => 294 | n => n, fun | n => n⟩

theorem sortTexts : Go.Proofs.Lays.n190 Tryz.prog sortTexts_ren := {
  mixed := by kernel_rfl,
  f125 := Tryz.func186.trans (congrArg some (by kernel_rfl)),
  f128 := Tryz.func210.trans (congrArg some (by kernel_rfl)),
  f129 := Tryz.func211.trans (congrArg some (by kernel_rfl)),
  f190 := Tryz.func193.trans (congrArg some (by kernel_rfl)),
  f258 := Tryz.func215.trans (congrArg some (by kernel_rfl)),
  f302 := Tryz.func225.trans (congrArg some (by kernel_rfl)),
  f303 := Tryz.func226.trans (congrArg some (by kernel_rfl)),
  f304 := Tryz.func227.trans (congrArg some (by kernel_rfl)),
  f305 := Tryz.func228.trans (congrArg some (by kernel_rfl)),
  f306 := Tryz.func229.trans (congrArg some (by kernel_rfl)),
  f307 := Tryz.func230.trans (congrArg some (by kernel_rfl)),
  f308 := Tryz.func231.trans (congrArg some (by kernel_rfl)),
  f309 := Tryz.func232.trans (congrArg some (by kernel_rfl)),
  f310 := Tryz.func233.trans (congrArg some (by kernel_rfl)),
  f329 := Tryz.func221.trans (congrArg some (by kernel_rfl)),
  f330 := Tryz.func222.trans (congrArg some (by kernel_rfl)),
  f333 := Tryz.func236.trans (congrArg some (by kernel_rfl)),
  f334 := Tryz.func237.trans (congrArg some (by kernel_rfl)),
  f335 := Tryz.func238.trans (congrArg some (by kernel_rfl)),
  f336 := Tryz.func213.trans (congrArg some (by kernel_rfl)),
  f344 := Tryz.func239.trans (congrArg some (by kernel_rfl)),
  t0 := Tryz.underlying0,
  a0 := Tryz.isAgg0,
  z0 := Tryz.sizeOf0,
  v0 := Tryz.zeroValue0,
  t3 := Tryz.underlying3,
  a3 := Tryz.isAgg3,
  z3 := Tryz.sizeOf3,
  v3 := Tryz.zeroValue3,
  t4 := Tryz.underlying4,
  a4 := Tryz.isAgg4,
  z4 := Tryz.sizeOf4,
  v4 := Tryz.zeroValue4,
  t5 := Tryz.underlying5,
  a5 := Tryz.isAgg5,
  z5 := Tryz.sizeOf5,
  v5 := Tryz.zeroValue5,
  t9 := Tryz.underlying9,
  a9 := Tryz.isAgg9,
  z9 := Tryz.sizeOf9,
  v9 := Tryz.zeroValue9,
  t31 := Tryz.underlying86,
  a31 := Tryz.isAgg86,
  z31 := Tryz.sizeOf86,
  v31 := Tryz.zeroValue86,
  t46 := Tryz.underlying238,
  a46 := Tryz.isAgg238,
  z46 := Tryz.sizeOf238,
  v46 := Tryz.zeroValue238,
  t51 := Tryz.underlying97,
  a51 := Tryz.isAgg97,
  z51 := Tryz.sizeOf97,
  v51 := Tryz.zeroValue97,
  t53 := Tryz.underlying274,
  a53 := Tryz.isAgg274,
  z53 := Tryz.sizeOf274,
  v53 := Tryz.zeroValue274,
  t131 := Tryz.underlying270,
  a131 := Tryz.isAgg270,
  z131 := Tryz.sizeOf270,
  v131 := Tryz.zeroValue270,
  t182 := Tryz.underlying265,
  a182 := Tryz.isAgg265,
  z182 := Tryz.sizeOf265,
  v182 := Tryz.zeroValue265,
  t183 := Tryz.underlying266,
  a183 := Tryz.isAgg266,
  z183 := Tryz.sizeOf266,
  v183 := Tryz.zeroValue266,
  t218 := Tryz.underlying280,
  a218 := Tryz.isAgg280,
  z218 := Tryz.sizeOf280,
  v218 := Tryz.zeroValue280,
  t222 := Tryz.underlying284,
  a222 := Tryz.isAgg284,
  z222 := Tryz.sizeOf284,
  v222 := Tryz.zeroValue284,
  t228 := Tryz.underlying293,
  a228 := Tryz.isAgg293,
  z228 := Tryz.sizeOf293,
  v228 := Tryz.zeroValue293,
  t229 := Tryz.underlying294,
  a229 := Tryz.isAgg294,
  z229 := Tryz.sizeOf294,
  v229 := Tryz.zeroValue294 }

end Go.Proofs.YtahdlejgjcjeoabGreatDoor

namespace Go.Proofs.YtahdlejgjcjeoabGreatDoor
open Go.RowKit Go.Sort

theorem string_cells (xs : List ByteArray) : xs.map Value.string = (xs.map fun x => x.data.toList).map encStr := by
  rw [List.map_map]
  exact List.map_congr_left fun x _ => rfl
theorem ordS_flip (x y : ByteArray) : ordS y x = - ordS x y := by
  have h := plc_tp.anti ⟨5, x, 0, 0, x, 0⟩ ⟨5, y, 0, 0, y, 0⟩
  have e1 : plc ⟨5, x, 0, 0, x, 0⟩ ⟨5, y, 0, 0, y, 0⟩ = ordS x y := by simp [plc]
  have e2 : plc ⟨5, y, 0, 0, y, 0⟩ ⟨5, x, 0, 0, x, 0⟩ = ordS y x := by simp [plc]
  rwa [e1, e2] at h
theorem lt_ordS (x y : ByteArray) : x.data.toList < y.data.toList ↔ ordS x y < 0 := by
  have h1 := Go.Proofs.bytesLess_eq x.data.toList y.data.toList
  have h2 := bytesLess_cb x.data.toList y.data.toList
  rw [h1] at h2
  have := decide_eq_decide.1 h2
  exact this
theorem le_ordS {x y : ByteArray} (h : x.data.toList ≤ y.data.toList) : ordS x y ≤ 0 := by
  have h1 : ¬ ordS y x < 0 := fun e => (List.not_lt.2 h) ((lt_ordS y x).2 e)
  have := ordS_flip x y
  omega

theorem heap_sortedT {w : World} {g n : Nat} {os : Array Obj} {cur : Array Value} {e : TypeId} (F : Array (List UInt8)) (hb : w.heap[g]? = some (.cells cur e (0, 0))) :
    (grow (putRow encStr (Sort.ahead w n) g 0 F) os).heap[g]? = some (.cells (putCells encStr 0 F cur) e (0, 0)) := by
  have hlt := (Array.getElem?_eq_some_iff.1 hb).1
  rw [heap_grow_old _ _ (by simpa using hlt)]
  simp [putRow, mapBlock, Sort.ahead, Array.getElem?_modify, hb, onCells]
theorem grownBy_sortedT {w : World} {g n : Nat} {os : Array Obj} (F : Array (List UInt8)) : w.grownBy (grow (putRow encStr (Sort.ahead w n) g 0 F) os) (some g) := by
  refine ⟨rfl, rfl, rfl, by simp, fun k hk hne => ?_⟩
  rw [heap_grow_old _ _ (by simpa using hk)]
  have : g ≠ k := fun e => hne (by rw [e])
  simp [putRow, mapBlock, Sort.ahead, Array.getElem?_modify, this]
theorem take_putCellsT (cur : Array Value) (F : List (List UInt8)) (h : F.length ≤ cur.size) : (putCells encStr 0 F.toArray cur).toList.take F.length = F.map encStr := by
  apply List.ext_getElem?
  intro j
  by_cases hj : j < F.length
  · rw [List.getElem?_take_of_lt hj, Array.getElem?_toList]
    simp [putCells, hj, show j < cur.size by omega]
  · rw [List.getElem?_take_eq_none (by omega), List.getElem?_eq_none (by simp; omega)]

/-- Sort, on a row of the call's own. -/
theorem sortT_any (base g cap : Nat) (xs : List ByteArray) (w : World) (hown : w.ownsRow base 9 1 (.slice (some ⟨g, 0, none⟩) xs.length cap) xs.length (xs.map Value.string)) (hlen : xs.length < 4611686018427387904) :
    Calls Tryz.prog 193 #[.slice (some ⟨g, 0, none⟩) xs.length cap] w fun e w' =>
      e = .returned (.tuple #[]) ∧ ∃ ys : List ByteArray, ys.Perm xs ∧ ys.Pairwise (fun x y => ordS x y ≤ 0) ∧ w'.ownsRow base 9 1 (.slice (some ⟨g, 0, none⟩) xs.length cap) xs.length (ys.map Value.string) ∧ w.grownBy w' (some g) := by
  rcases hown.2 with ⟨h0, _⟩ | ⟨g', cap', cur, hv, hbase, hb, h1, h2, h3, h4⟩
  · cases h0
  cases hv
  obtain ⟨ss, hss⟩ : ∃ ss : List (List UInt8), ss = xs.map fun x => x.data.toList := ⟨_, rfl⟩
  have hsl : ss.length = xs.length := by rw [hss, List.length_map]
  rw [string_cells, ← hss, Nat.mul_one] at h4
  have hH : Holds encStr w g 0 ss.toArray := by
    intro j hj
    have hj' : j < ss.length := by simpa using hj
    refine ⟨?_, by simp [World.frozen?, hb]⟩
    have e1 : (cur.toList.take xs.length)[j]? = (ss.map encStr)[j]? := by rw [h4]
    rw [List.getElem?_take_of_lt (by omega)] at e1
    simp only [World.cell?, hb, Nat.zero_add]
    simp only [Option.isSome_none, Bool.false_eq_true, if_false]
    rw [← Array.getElem?_toList, e1]
    simp [hj']
  have hcon := Any.slices_Sort_string (P := Tryz.prog) sortTexts g 0 cap ss w hH (Array.getElem?_eq_some_iff.1 hb).1 (by omega)
  rw [hsl] at hcon
  refine Calls.mono (show Calls Tryz.prog 193 _ _ _ from hcon) ?_
  rintro e w' ⟨rfl, n, os, rfl⟩
  have hp : (ss.mergeSort fun x y => decide (x ≤ y)).Perm ss := List.mergeSort_perm _ _
  have hpw := List.pairwise_mergeSort (le := fun x y : List UInt8 => decide (x ≤ y)) (fun a b c h1 h2 => by simp only [decide_eq_true_eq] at *; exact List.le_trans h1 h2) (fun a b => by simp only [Bool.or_eq_true, decide_eq_true_eq]; exact List.le_total a b) ss
  generalize ss.mergeSort (fun x y => decide (x ≤ y)) = F at *
  have hFl : F.length = xs.length := by rw [hp.length_eq, hsl]
  have eF : (F.map fun l => (⟨l.toArray⟩ : ByteArray)).map Value.string = F.map encStr := by rw [List.map_map]; rfl
  refine ⟨rfl, F.map fun l => ⟨l.toArray⟩, ?_, ?_, ?_, grownBy_sortedT _⟩
  · have := hp.map fun l : List UInt8 => (⟨l.toArray⟩ : ByteArray)
    rw [hss, List.map_map] at this
    have e : xs.map ((fun l : List UInt8 => (⟨l.toArray⟩ : ByteArray)) ∘ fun x : ByteArray => x.data.toList) = xs :=
      (List.map_congr_left (g := id) fun x _ => rfl).trans (List.map_id xs)
    rwa [e] at this
  · rw [List.pairwise_map]
    exact hpw.imp fun h => le_ordS (by simpa using h)
  · rw [eF]
    refine ⟨by simp [hFl], .inr ⟨g, cap, _, rfl, hbase, heap_sortedT _ hb, h1, h2, by simp [putCells, h3], ?_⟩⟩
    have := take_putCellsT cur F (by rw [hFl, h3]; omega)
    rw [hFl] at this
    rw [Nat.mul_one]
    exact this
end Go.Proofs.YtahdlejgjcjeoabGreatDoor

namespace Go.Proofs.YtahdlejgjcjeoabGreatDoor
open Go.RowKit

end Go.Proofs.YtahdlejgjcjeoabGreatDoor

namespace Go.Proofs.YtahdlejgjcjeoabGreatDoor
open Go.RowKit

end Go.Proofs.YtahdlejgjcjeoabGreatDoor

namespace Go.Proofs.YtahdlejgjcjeoabGreatDoor
open Go.RowKit

theorem cell_keep {w w' : World} {p : Addr} {u : Value} (h : w.cell? p = some u) (hb : Below w.heap.size w w') : w'.cell? p = some u := by
  have : p.block < w.heap.size := by
    have h0 : w.heap[p.block]? ≠ none := by
      intro hn
      unfold World.cell? at h
      simp [hn] at h
    have := mt Array.getElem?_eq_none h0
    omega
  rw [hb.cell this]
  exact h
end Go.Proofs.YtahdlejgjcjeoabGreatDoor

namespace Go.Proofs.YtahdlejgjcjeoabGreatDoor
open Go.RowKit Go.Maps

theorem ranges_below {P : Program} {k : TypeId} {R : Value → Option (DataW Unit × List MemPlace)} {w w' : World} {b r n : Nat} {D : DataW Unit} {left : Lit → Bool} {cnt : Nat} (h : w.ranges P k R b r n D left cnt) (hb : Below w.heap.size w w') : w'.ranges P k R b r n D left cnt := by
  have h1 := h.owns.lt
  have h2 := h.lt
  obtain ⟨es, clock, since, seen, c0, e1, e2, e3, e4, e5, e6⟩ := h
  exact ⟨es, clock, since, seen, c0, by rw [hb.block b h1]; exact e1, e2, e3, e4, by rw [hb.block r h2]; exact e5, e6⟩

set_option maxRecDepth 100000 in
set_option maxHeartbeats 2000000 in
theorem elems_any (b n : Nat) (M : Sl → Option Gr) (w : World) (hm : StMap w b n M) (hmm : MayMap M) (hn : n ≤ 8388608) :
    Calls Tryz.prog 156 #[.map (some b)] w fun e w' => ∃ (v' : Value) (C : List At) (ys : List ByteArray), e = .returned v' ∧ w'.ownsRow w.heap.size 9 1 v' ys.length (ys.map Value.string) ∧ Hid (Coll M (fun _ => false) C ∧ ys.Perm (elemsOf M C) ∧ ys.Pairwise (fun x y => ordS x y ≤ 0)) ∧ Below w.heap.size w w' := by
  obtain ⟨D, hown, h2, h3⟩ := hm
  have HMM : Hid (MayMap M) := hmm
  have H2 : Hid (∀ s : Sl, s.ok → M s = none → Maps.has D s.lit = false) := h2
  have H3 : Hid (∀ s g, M s = some g → s.ok ∧ Maps.has D s.lit = true ∧ ∀ z, D.atKey s.lit z = g.dat) := h3
  have hsz := hown.size_le
  clear hmm h2 h3
  obtain ⟨i0, hi, hz0, hz1, hz2⟩ := info_parts infoText
  have hbw := hown.lt
  go_enter Tryz.func156, Tryz.ntmps156
  go_wp2_with (at_range; refine wpList_range_own _ rfl _ 122 rfl 211 213 slotKeyed Tryz.underlying122 grElem b n D rfl hown ?_; intro w0 hrg0 hg0 hs0)
  go_frame
  have hb0 : Below w.heap.size w w0 := (Below.refl _ w).grown hg0 (Nat.le_refl _) (fun k hk => by cases hk)
  go_loopw [3, 4] (fun v _ wr => ∃ (left : Lit → Bool) (cnt : Nat) (C : List At), wr.ranges Tryz.prog 211 grElem b w.heap.size n D left cnt ∧ wr.ownsRow (w.heap.size + 1) 9 1 v (elemsOf M C).length ((elemsOf M C).map Value.string) ∧ Hid (Coll M left C) ∧ C.length + cnt ≤ n ∧ Below w.heap.size w wr) (fun _ _ wr => wr.rangeLeft b w.heap.size)
  case atStart =>
    refine ⟨Maps.has D, Maps.size D, [], hrg0, by simp [elemsOf, World.ownsRow], ⟨.nil, fun a => ?_⟩, by simpa using hsz, hb0⟩
    constructor
    · intro h; cases h
    · rintro ⟨h1, h2⟩
      have := (H3.out _ _ h1.2).2.1
      rw [this] at h2; cases h2
  case round =>
    obtain ⟨left, cnt, C, hrg, hrow, hC, hcnt, hbr⟩ := hrel
    have hel := elemsOf_length M C
    go_wp2_with (at_next; refine wpList_next_ranges _ rfl _ rfl 211 slotKeyed grElem (fun s : Sl => .agg #[.int .i64 s.ty, .string s.key, .int .i64 s.side, .int .i64 s.who, .string s.elem]) (fun g : Gr => .agg #[.int .i64 g.n, .int .i64 g.who, .string g.elem]) slot_key_inv (fun v y hv => by obtain ⟨g, rfl, _⟩ := grElem_inv hv; exact ⟨g, rfl⟩) b w.heap.size n D left cnt rfl hrg ?_ ?_)
    · intro _ hl0
      have HC0 : Hid (Coll M (fun _ => false) C) := by
        have e : left = fun _ => false := funext hl0
        rw [e] at hC
        exact hC
      clear hl0 hi hz0 hz1 hz2 hC hrg
      have HX : Hid (elemsOf M C = elemsOf M C) := rfl
      generalize hxs : elemsOf M C = xs at *
      have HXS : Hid (elemsOf M C = xs) := hxs
      clear hxs HX
      rcases hrow.2 with ⟨hv, hC0⟩ | ⟨g, cap, cur, hv, hbase, hblk, h1, h2, h3, h4⟩
      · subst hv
        obtain rfl := List.length_eq_zero_iff.1 hC0
        have hsn := fun W => Any.slices_Sort_string_none (P := Tryz.prog) sortTexts none 0 W
        go_wp2_with fail
        refine Calls.mono (show Calls Tryz.prog 193 _ _ _ from hsn _) ?_
        rintro e w5 ⟨rfl, rfl⟩
        clear hsn
        go_wp2
        go_ret
        exact ⟨_, C, [], rfl, by simp [World.ownsRow], ⟨HC0.out, by rw [HXS.out], .nil⟩, hbr⟩
      · subst hv
        have hso := sortT_any (w.heap.size + 1) g cap xs wr hrow (by omega)
        clear h4
        go_wp2_with fail
        refine hso.mono ?_
        rintro e w5 ⟨rfl, ys, hperm, hsorted, hown5, hg5⟩
        have HTL : Hid (Coll M (fun _ => false) C ∧ ys.Perm (elemsOf M C) ∧ ys.Pairwise (fun x y => ordS x y ≤ 0)) := ⟨HC0.out, by rw [HXS.out]; exact hperm, hsorted⟩
        have hl5 : xs.length = ys.length := hperm.length_eq.symm
        have hfin : w5.ownsRow w.heap.size 9 1 (.slice (some ⟨g, 0, none⟩) xs.length cap) ys.length (ys.map Value.string) := by rw [← hl5]; exact owns_mono hown5 (by omega)
        have hb5 : Below w.heap.size w w5 := hbr.grown hg5 hbr.size (fun k hk => by cases hk; omega)
        clear hso hperm hsorted hown5 hg5 hl5
        go_wp2
        go_ret
        exact ⟨_, C, ys, rfl, hfin, HTL, hb5⟩
    · intro x c kl yd yp w2 cnt2 hkey hlk hv hat hrg2 hlt hg2 hs2 hen
      obtain ⟨hxok, rfl⟩ := slot_ok_of_key x kl hkey
      have hMx : M x = some c := by
        obtain ⟨g', hg', hz'⟩ := grElem_inv hv
        cases hM : M x with
        | none =>
          have hh := H2.out x hxok hM
          rw [Maps.has_true_of_atKey hat] at hh
          cases hh
        | some g0 =>
          have := (H3.out x g0 hM).2.2 .nil
          rw [hat] at this
          have hcc : grElem c.val = some (c.dat, []) := grElem_mk c
          have hv' : grElem c.val = some (yd, yp) := hv
          rw [hcc] at hv'
          simp only [Option.some.injEq, Prod.mk.injEq] at hv'
          rw [Gr.dat_inj (hv'.1.trans this)]
      obtain ⟨a, ha, rfl, rfl⟩ := HMM.out x c hMx
      have HC2 : Hid (Coll M (fun z => left z && !z.sameKey (slot a).lit) (C ++ [a])) := hC.out.step ⟨ha, hMx⟩ hlk (fun s g h => (H3.out s g h).1)
      have HSN : Hid (elemsOf M (C ++ [a]) = if kept M a then elemsOf M C ++ [(slot a).elem] else elemsOf M C) := elemsOf_snoc M C a
      have hsz2 : wr.heap.size ≤ w2.heap.size := by omega
      have hst2 : StMap w2 b n M := ⟨D, hrg2.owns, H2.out, H3.out⟩
      have hir := fun W (h : StMap W b n M) => isRemoved_any b n M (slot a) W h hxok
      clear hkey hat hv hMx hs2 hlk
      have hbr2 : Below w.heap.size w w2 := hbr.grown hg2 hbr.size (fun k hk => by cases hk; exact Nat.le_refl _)
      have hrow2 := owns_grown hrow hg2 (Nat.lt_succ_self _)
      have HL : Hid (wr.rangeLeft b w.heap.size = cnt) := hrg.left_eq
      clear hg2 hrg ha hrow hC
      by_cases hsd : (slot a).side = 0
      · have hi2 := hir (w2.alloc (.cells #[.int .i64 (slot a).ty, .string (slot a).key, .int .i64 (slot a).side, .int .i64 (slot a).who, .string (slot a).elem] 211)) (hst2.alloc _)
        have hrg3 := hrg2.alloc (.cells #[.int .i64 (slot a).ty, .string (slot a).key, .int .i64 (slot a).side, .int .i64 (slot a).who, .string (slot a).elem] 211)
        have hrow3 := hrow2.alloc (.cells #[.int .i64 (slot a).ty, .string (slot a).key, .int .i64 (slot a).side, .int .i64 (slot a).who, .string (slot a).elem] 211)
        have hbr3 := below_alloc hbr2 (.cells #[.int .i64 (slot a).ty, .string (slot a).key, .int .i64 (slot a).side, .int .i64 (slot a).who, .string (slot a).elem] 211)
        have hz3 : w2.heap.size < (w2.alloc (.cells #[.int .i64 (slot a).ty, .string (slot a).key, .int .i64 (slot a).side, .int .i64 (slot a).who, .string (slot a).elem] 211)).heap.size := by simp
        clear hir hst2 hrg2 hrow2 hbr2
        rw [hsd] at hi2 hrg3 hrow3 hbr3 hz3
        cases hR : (M (slot a).one).isSome with
        | true =>
          have hk : kept M a = false := by unfold kept; rw [← Option.not_isSome, hR]; simp
          have HS2 : Hid (elemsOf M (C ++ [a]) = elemsOf M C) := by rw [Hid, HSN.out, hk]; rfl
          rw [hR] at hi2
          clear HSN hk hR
          generalize (slot a).lit = kl at *
          generalize slot a = x at *
          generalize grade a = c at *
          go_wp2_with fail
          generalize hW3 : w2.alloc (.cells #[.int .i64 x.ty, .string x.key, .int .i64 0, .int .i64 x.who, .string x.elem] 211) = w3 at *
          refine hi2.mono ?_
          rintro e w4 ⟨rfl, hb4⟩
          have hrg4 := ranges_below hrg3 hb4
          have hrow4 := owns_below hrow3 hb4
          have hbr4 : Below w.heap.size w w4 := hbr3.trans (hb4.mono hbr3.size)
          clear hi2 hrg3 hrow3 hW3
          go_wp2
          refine ⟨⟨_, cnt2, C ++ [a], hrg4, by rw [HS2.out]; exact hrow4, HC2, by simp; omega, hbr4⟩, ?_⟩
          rw [hrg4.left_eq, HL.out]
          exact hlt
        | false =>
          have hk : kept M a = true := by unfold kept; rw [← Option.not_isSome, hR]; simp [hsd]
          have HS2 : Hid (elemsOf M (C ++ [a]) = elemsOf M C ++ [(slot a).elem]) := by rw [Hid, HSN.out, hk]; rfl
          rw [hR] at hi2
          clear HSN hk hR
          generalize (slot a).lit = kl at *
          generalize slot a = x at *
          generalize grade a = c at *
          have hcx : (w2.alloc (.cells #[.int .i64 x.ty, .string x.key, .int .i64 0, .int .i64 x.who, .string x.elem] 211)).cell? ⟨w2.heap.size, 4, none⟩ = some (.string x.elem) := by simp
          go_wp2_with fail
          generalize hW3 : w2.alloc (.cells #[.int .i64 x.ty, .string x.key, .int .i64 0, .int .i64 x.who, .string x.elem] 211) = w3 at *
          refine hi2.mono ?_
          rintro e w4 ⟨rfl, hb4⟩
          have hrg4 := ranges_below hrg3 hb4
          have hrow4 := owns_below hrow3 hb4
          have hbr4 : Below w.heap.size w w4 := hbr3.trans (hb4.mono hbr3.size)
          have hcx4 := cell_keep hcx hb4
          have hz4 := hbr4.size
          clear hi2 hrg3 hrow3 hW3 hcx
          go_wp2_with (at_builtin; refine wpList_append_lies _ rfl _ _ 86 rfl (w.heap.size + 1) 9 i0 _ 1 16 Tryz.underlying86 hi hz0 hz1 hz2 rfl (by decide) _ (elemsOf M C).length _ rfl (hrow4.alloc _) ⟨w4.heap.size, 0, none⟩ 1 1 [.string x.elem] rfl rfl (World.news_of_block (heap_alloc_new w4 _)) (by simp [Value.oneCell']) (by decide) (by unfold maxLen; omega) (by omega) (by simp; omega) (w4.heap.size + 1) (by simp) ?_; intro g capn w5 hown5 hgrow5 hat5 hlt5)
          have hrg5 := (hrg4.alloc (.cells #[.string x.elem] 9)).kept hgrow5 (ne_own hrow4 _ (by omega)) (ne_own hrow4 _ (Nat.lt_succ_self _))
          have hbr5 : Below w.heap.size w w5 := (below_alloc hbr4 _).grown hgrow5 (by simp; omega) (fun q hq => by have := owns_base hrow4 q hq; omega)
          refine ⟨⟨_, cnt2, C ++ [a], hrg5, by rw [HS2.out, List.map_append, List.length_append]; exact hown5, HC2, by simp; omega, hbr5⟩, ?_⟩
          rw [hrg5.left_eq, HL.out]
          exact hlt
      · have hk : kept M a = false := by unfold kept; simp [hsd]
        have HS2 : Hid (elemsOf M (C ++ [a]) = elemsOf M C) := by rw [Hid, HSN.out, hk]; rfl
        clear HSN hk hir hst2
        generalize (slot a).lit = kl at *
        generalize slot a = x at *
        generalize grade a = c at *
        go_wp2
        refine ⟨⟨_, cnt2, C ++ [a], (hrg2.alloc _), by rw [HS2.out]; exact hrow2.alloc _, HC2, by simp; omega, below_alloc hbr2 _⟩, ?_⟩
        rw [(hrg2.alloc _).left_eq, HL.out]
        exact hlt
end Go.Proofs.YtahdlejgjcjeoabGreatDoor

namespace Go.Proofs.YtahdlejgjcjeoabGreatDoor
open Go.RowKit

end Go.Proofs.YtahdlejgjcjeoabGreatDoor
