/- The card of the law Reads in its second form is proved: for every list of atoms, kind and key of bulk at most 1048576 the law answers true and the arguments read as before. Conditions: the bulk; the table ripple/state.rules lies as the program's text lays it (the card ties it, to the pruned copy of the project). -/
import Derived.Test.YtahdlejgjcjeoaaDoorStThin
import Derived.Test.YtahdlejgjcjeoaaDoorTellM
import Derived.Test.YtahdlejgjcjeoaaDoorSortSLay
import Derived.Test.YtahdlejgjcjeoaaDoorSortM
import Derived.Test.YtahdlejgjcjeoaaDoorBelowL
import Derived.Test.YtahdlejgjcjeoaaDoorOwnW
import Derived.Test.YtahdlejgjcjeoaaDoorTold
import Derived.Deep.RegionLaw
import Derived.Test.YtahdlejgjcjeoaaDoorOwnK
import Derived.Test.YtahdlejgjcjeoaaDoorBstr
import Derived.Test.YtahdlejgjcjeoaaDoorEncRef
import Derived.Test.YtahdlejgjcjeoaaDoorLooks
import Derived.Test.YtahdlejgjcjeoaaDoorLawA
import Derived.Test.YtahdlejgjcjeoaaDoorMem
import Derived.Test.YtahdlejgjcjeoaaDoorJoinsW2
import Derived.Test.YtahdlejgjcjeoaaDoorCards
import Derived.Test.YtahdlejgjcjeoaaDoorTie
import Derived.Test.YtahdlejgjcjeoaaDoorOpen
import Derived.Test.YtahdlejgjcjeoaaDoorLeav
import Derived.WalkKit
import Derived.ProofKit
import Derived.OpenShut
import Derived.Carry
import Derived.Deep.DeepHandedRow
import Derived.LaidLaws
namespace Go.Proofs.YtahdlejgjcjeoaaDoor
open Go.RowKit Go.Maps

def narrowM (M : Sl → Option Gr) (kind : Int) (key : ByteArray) : Sl → Option Gr := fun s => if s.ty = kind ∧ s.key = key then M s else none

/-- The data of a state's map. -/
def StD (D : DataW Unit) (M : Sl → Option Gr) : Prop :=
  (∀ t : Sl, t.ok → M t = none → Maps.has D t.lit = false) ∧ (∀ t g, M t = some g → t.ok ∧ Maps.has D t.lit = true ∧ ∀ z, D.atKey t.lit z = g.dat)

theorem StD.del {D : DataW Unit} {M : Sl → Option Gr} {s : Sl} (h : StD D M) (hs : s.ok) : StD (D.del s.lit) (delM M s) := by
  obtain ⟨h2, h3⟩ := h
  refine ⟨fun t ht hn => ?_, fun t g' hg' => ?_⟩
  · unfold delM at hn
    by_cases he : scmp t s = 0
    · obtain rfl := (scmp_zero t s).1 he
      exact Maps.has_del_same
    · rw [if_neg he] at hn
      have hl : t.lit ≠ s.lit := fun e => he ((scmp_zero t s).2 (Sl.lit_inj ht hs e))
      rw [Maps.has_del_other hl]
      exact h2 t ht hn
  · unfold delM at hg'
    split at hg'
    · cases hg'
    · rename_i hne
      obtain ⟨ht, hh, ha⟩ := h3 t g' hg'
      have hl : t.lit ≠ s.lit := fun e => hne ((scmp_zero t s).2 (Sl.lit_inj ht hs e))
      exact ⟨ht, by rw [Maps.has_del_other hl]; exact hh, fun z => by rw [Maps.atKey_del_other hl]; exact ha z⟩

/-- While the keys 'left' are still to come. -/
def Narrowed (M N : Sl → Option Gr) (kind : Int) (key : ByteArray) (left : Lit → Bool) : Prop := ∀ s, N s = if left s.lit then M s else narrowM M kind key s

theorem Narrowed.done {M N : Sl → Option Gr} {kind : Int} {key : ByteArray} {left : Lit → Bool} (h : Narrowed M N kind key left) (hl : ∀ kl, left kl = false) : N = narrowM M kind key := by
  funext s
  rw [h s, hl, if_neg (by simp)]
theorem Narrowed.start {M : Sl → Option Gr} {kind : Int} {key : ByteArray} {left : Lit → Bool} (h : ∀ s g, M s = some g → left s.lit = true) : Narrowed M M kind key left := by
  intro s
  split
  · rfl
  · rename_i hl
    unfold narrowM
    cases hM : M s with
    | some g => exact absurd (h s g hM) hl
    | none => simp
theorem Narrowed.step {M N N' : Sl → Option Gr} {kind : Int} {key : ByteArray} {left : Lit → Bool} (h : Narrowed M N kind key left) {x : Sl} (hx : x.ok) (hok : ∀ s g, M s = some g → s.ok)
    (h1 : N' x = narrowM M kind key x) (h2 : ∀ s, s ≠ x → N' s = N s) : Narrowed M N' kind key (fun z => left z && !z.sameKey x.lit) := by
  intro s
  by_cases e : s = x
  · subst e
    simp [lit_same, h1]
  · rw [h2 s e, h s]
    by_cases el : s.lit = x.lit
    · have hn : M s = none := by
        cases hM : M s with
        | none => rfl
        | some g => exact absurd (Sl.lit_inj (hok s g hM) hx el) e
      have ht : narrowM M kind key s = none := by unfold narrowM; rw [hn]; simp
      rw [hn, ht]
      simp
    · simp [Maps.sameKey_ne el]

theorem str_ne2 {a b : ByteArray} (h : ¬ a = b) : (a.toList == b.toList) = false := by
  rw [beq_eq_false_iff_ne, Go.Lib.toList_data, Go.Lib.toList_data]
  exact fun e => h (ByteArray.ext (Array.toList_inj.1 e))

set_option maxRecDepth 100000 in
set_option maxHeartbeats 2000000 in
theorem narrow_any (b n : Nat) (M : Sl → Option Gr) (kind : Int) (key : ByteArray) (w : World) (hm : StMap w b n M) :
    Calls Tryd.prog 52 #[.map (some b), .int .i64 kind, .string key] w fun e w' => e = .returned (.tuple #[]) ∧ Hid (StMap w' b n (narrowM M kind key)) ∧ w.grownBy w' (some b) := by
  obtain ⟨D, hown, h2, h3⟩ := hm
  have HSD : Hid (StD D M) := ⟨h2, h3⟩
  have HOK : Hid (∀ s g, M s = some g → s.ok) := fun s g h => (h3 s g h).1
  clear h2 h3
  have hlb := hown.lt
  go_enter Tryd.func52, Tryd.ntmps52
  go_wp2_with (at_range; refine wpList_range_own _ rfl _ 62 rfl 117 119 slotKeyed Tryd.underlying62 grElem b n D rfl hown ?_; intro w0 hrg0 hg0 hs0)
  go_frame
  have hg0' : w.grownBy w0 (some b) := ⟨hg0.os, hg0.tape, hg0.output, hg0.size, fun i hi _ => hg0.block i hi (by simp)⟩
  go_loopw [6] (fun _ wr => ∃ (left : Lit → Bool) (cnt : Nat) (N : Sl → Option Gr) (E : DataW Unit), wr.ranges Tryd.prog 117 grElem b w.heap.size n E left cnt ∧ Hid (StD E N) ∧ Hid (Narrowed M N kind key left) ∧ w.grownBy wr (some b)) (fun _ wr => wr.rangeLeft b w.heap.size)
  case atStart => exact ⟨_, _, M, D, hrg0, HSD, Narrowed.start (fun s g h => (HSD.out.2 s g h).2.1), hg0'⟩
  case round =>
    obtain ⟨left, cnt, N, E, hrg, hsd, hna, hgw⟩ := hrel
    go_wp2_with (at_next; refine wpList_next_ranges _ rfl _ rfl 117 slotKeyed grElem (fun s : Sl => .agg #[.int .i64 s.ty, .string s.key, .int .i64 s.side, .int .i64 s.who, .string s.elem]) (fun g : Gr => .agg #[.int .i64 g.n, .int .i64 g.who, .string g.elem]) slot_key_inv (fun v y hv => by obtain ⟨g, rfl, _⟩ := grElem_inv hv; exact ⟨g, rfl⟩) b w.heap.size n E left cnt rfl hrg ?_ ?_)
    · intro _ hl0
      have HST : Hid (StMap wr b n (narrowM M kind key)) := by rw [← hna.out.done hl0]; exact ⟨E, hrg.owns, hsd.out.1, hsd.out.2⟩
      clear hl0 hna hsd hrg
      go_wp2
      go_end0
      exact ⟨rfl, HST, hgw⟩
    · intro x g kl yd yp w2 cnt2 hkey hlk hv hat hrg2 hlt hg2 hs2 hen
      obtain ⟨hxok, rfl⟩ := slot_ok_of_key x kl hkey
      have hNx : N x = M x := by rw [hna.out x, hlk, if_pos rfl]
      have HSTEP : Hid (∀ N', N' x = narrowM M kind key x → (∀ s, s ≠ x → N' s = N s) → Narrowed M N' kind key (fun z => left z && !z.sameKey x.lit)) := fun N' h1 h2 => hna.out.step hxok HOK.out h1 h2
      have hsz2 : wr.heap.size ≤ w2.heap.size := by omega
      have HL : Hid (wr.rangeLeft b w.heap.size = cnt) := hrg.left_eq
      have hgw2 : w.grownBy w2 (some b) := grown_past hgw hg2 (Nat.le_refl _)
      have hrl := hrg2.lt
      clear hat hv hs2 hlk hg2 hrg hna hgw
      by_cases hkeep : x.ty = kind ∧ x.key = key
      · have HT : Hid (Narrowed M N kind key (fun z => left z && !z.sameKey x.lit)) := HSTEP.out N (by rw [hNx]; unfold narrowM; rw [if_pos hkeep]) (fun _ _ => rfl)
        obtain ⟨rfl, rfl⟩ := hkeep
        clear HSTEP hNx hkey
        generalize x.lit = kl at *
        go_wp2
        have hrg3 := hrg2.alloc (.cells #[.int .i64 x.ty, .string x.key, .int .i64 x.side, .int .i64 x.who, .string x.elem] 117)
        refine ⟨⟨_, cnt2, N, E, hrg3, hsd, HT, grown_alloc hgw2 _⟩, ?_⟩
        rw [hrg3.left_eq, HL.out]
        exact hlt
      · have HT : Hid (Narrowed M (delM N x) kind key (fun z => left z && !z.sameKey x.lit)) := HSTEP.out (delM N x) (by unfold delM narrowM; rw [if_pos ((scmp_zero x x).2 rfl), if_neg hkeep]) (fun s hs => by unfold delM; rw [if_neg (fun e => hs ((scmp_zero s x).1 e))])
        have HSD2 : Hid (StD (E.del x.lit) (delM N x)) := hsd.out.del hxok
        clear HSTEP hNx
        by_cases hty : x.ty = kind
        · have hke : ¬ x.key = key := fun e => hkeep ⟨hty, e⟩
          have hke2 := str_ne2 hke
          subst hty
          go_wp2_with (at_delete; refine wpList_delete_ranges _ rfl _ _ 62 117 rfl 119 slotKeyed Tryd.underlying62 grElem b w.heap.size n E _ cnt2 rfl (hrg2.alloc _) x.val x.lit rfl (keyOf_slot x hxok) ?_; intro w3 cnt3 hrg3 hle3 hmt3)
          have e3 : (fun z : Lit => (left z && !z.sameKey x.lit) && !z.sameKey x.lit) = fun z => left z && !z.sameKey x.lit := by
            funext z
            cases left z <;> cases z.sameKey x.lit <;> rfl
          rw [e3] at hrg3
          have hfin : w.grownBy w3 (some b) := grown_trans (grown_alloc hgw2 _) hmt3.grown
          clear hkey hrg2
          generalize x.lit = kl at *
          go_wp2
          refine ⟨⟨_, cnt3, delM N x, _, hrg3, HSD2, HT, hfin⟩, ?_⟩
          rw [hrg3.left_eq, HL.out]
          omega
        · go_wp2_with (at_delete; refine wpList_delete_ranges _ rfl _ _ 62 117 rfl 119 slotKeyed Tryd.underlying62 grElem b w.heap.size n E _ cnt2 rfl (hrg2.alloc _) x.val x.lit rfl (keyOf_slot x hxok) ?_; intro w3 cnt3 hrg3 hle3 hmt3)
          have e3 : (fun z : Lit => (left z && !z.sameKey x.lit) && !z.sameKey x.lit) = fun z => left z && !z.sameKey x.lit := by
            funext z
            cases left z <;> cases z.sameKey x.lit <;> rfl
          rw [e3] at hrg3
          have hfin : w.grownBy w3 (some b) := grown_trans (grown_alloc hgw2 _) hmt3.grown
          clear hkey hrg2
          generalize x.lit = kl at *
          go_wp2
          refine ⟨⟨_, _, _, _, _, _, _, _, _, _, _, _, _, _, _, _, _, ⟨_, cnt3, delM N x, _, hrg3, HSD2, HT, hfin⟩, rfl⟩, ?_⟩
          rw [hrg3.left_eq, HL.out]
          omega
end Go.Proofs.YtahdlejgjcjeoaaDoor

namespace Go.Proofs.YtahdlejgjcjeoaaDoor
open Go.RowKit Go.Maps

/-- What an atom counts. -/
def sv (a : At) : Int := if (slot a).side = 0 then (grade a).n else - (grade a).n
def svs (l : List At) : Int := (l.map sv).sum
theorem svs_snoc (l : List At) (a : At) : svs (l ++ [a]) = svs l + sv a := by simp [svs]
theorem grade_n (a : At) : (grade a).n = a.n := by unfold grade; split <;> rfl
theorem sv_bound {a : At} (h : mayB a = true) : -2147483648 ≤ sv a ∧ sv a ≤ 2147483648 := by
  have : 0 ≤ a.n ∧ a.n ≤ 2147483647 := by
    simp only [mayB, decide_eq_true_eq] at h
    omega
  unfold sv
  rw [grade_n]
  split <;> omega
theorem svs_bound : ∀ {l : List At}, (∀ a ∈ l, mayB a = true) → -2147483648 * (l.length : Int) ≤ svs l ∧ svs l ≤ 2147483648 * (l.length : Int)
  | [], _ => by simp [svs]
  | a :: l, h => by
    have h1 := svs_bound (l := l) (fun x hx => h x (by simp [hx]))
    have h2 := sv_bound (h a (by simp))
    have e : svs (a :: l) = sv a + svs l := by simp [svs]
    rw [e, List.length_cons]
    push_cast
    omega

set_option maxRecDepth 100000 in
set_option maxHeartbeats 2000000 in
theorem total_any (b n : Nat) (M : Sl → Option Gr) (w : World) (hm : StMap w b n M) (hmm : MayMap M) (hn : n ≤ 8388608) :
    Calls Tryd.prog 53 #[.map (some b)] w fun e w' => ∃ C, e = .returned (.int .i64 (svs C)) ∧ Hid (Coll M (fun _ => false) C) ∧ Below w.heap.size w w' := by
  obtain ⟨D, hown, h2, h3⟩ := hm
  have HMM : Hid (MayMap M) := hmm
  have H2 : Hid (∀ s : Sl, s.ok → M s = none → Maps.has D s.lit = false) := h2
  have H3 : Hid (∀ s g, M s = some g → s.ok ∧ Maps.has D s.lit = true ∧ ∀ z, D.atKey s.lit z = g.dat) := h3
  have hsz := hown.size_le
  clear hmm h2 h3
  have hbw := hown.lt
  go_enter Tryd.func53, Tryd.ntmps53
  go_wp2_with (at_range; refine wpList_range_own _ rfl _ 62 rfl 117 119 slotKeyed Tryd.underlying62 grElem b n D rfl hown ?_; intro w0 hrg0 hg0 hs0)
  go_frame
  have hb0 : Below w.heap.size w w0 := (Below.refl _ w).grown hg0 (Nat.le_refl _) (fun k hk => by cases hk)
  go_loopw [3] (fun v wr => ∃ (left : Lit → Bool) (cnt : Nat) (C : List At), wr.ranges Tryd.prog 117 grElem b w.heap.size n D left cnt ∧ v = .int .i64 (svs C) ∧ Hid (Coll M left C) ∧ C.length + cnt ≤ n ∧ Below w.heap.size w wr) (fun _ wr => wr.rangeLeft b w.heap.size)
  case atStart =>
    refine ⟨Maps.has D, Maps.size D, [], hrg0, rfl, ⟨.nil, fun a => ?_⟩, by simpa using hsz, hb0⟩
    constructor
    · intro h; cases h
    · rintro ⟨h1, h2⟩
      have := (H3.out _ _ h1.2).2.1
      rw [this] at h2; cases h2
  case round =>
    obtain ⟨left, cnt, C, hrg, rfl, hC, hcnt, hbr⟩ := hrel
    go_wp2_with (at_next; refine wpList_next_ranges _ rfl _ rfl 117 slotKeyed grElem (fun s : Sl => .agg #[.int .i64 s.ty, .string s.key, .int .i64 s.side, .int .i64 s.who, .string s.elem]) (fun g : Gr => .agg #[.int .i64 g.n, .int .i64 g.who, .string g.elem]) slot_key_inv (fun v y hv => by obtain ⟨g, rfl, _⟩ := grElem_inv hv; exact ⟨g, rfl⟩) b w.heap.size n D left cnt rfl hrg ?_ ?_)
    · intro _ hl0
      have HC0 : Hid (Coll M (fun _ => false) C) := by
        have e : left = fun _ => false := funext hl0
        rw [e] at hC
        exact hC
      clear hl0 hC hrg
      go_wp2
      go_ret
      exact ⟨C, rfl, HC0, hbr⟩
    · intro x c kl yd yp w2 cnt2 hkey hlk hv hat hrg2 hlt hg2 hs2 hen
      obtain ⟨hxok, rfl⟩ := slot_ok_of_key x kl hkey
      have hMx : M x = some c := by
        obtain ⟨g', hg', hz'⟩ := grElem_inv hv
        cases hM : M x with
        | none =>
          have hh := H2.out x hxok hM
          rw [Maps.has_true_of_atKey hat] at hh
          cases hh
        | some g0 =>
          have := (H3.out x g0 hM).2.2 .nil
          rw [hat] at this
          have hcc : grElem c.val = some (c.dat, []) := grElem_mk c
          have hv' : grElem c.val = some (yd, yp) := hv
          rw [hcc] at hv'
          simp only [Option.some.injEq, Prod.mk.injEq] at hv'
          rw [Gr.dat_inj (hv'.1.trans this)]
      obtain ⟨a, ha, rfl, rfl⟩ := HMM.out x c hMx
      have HC2 : Hid (Coll M (fun z => left z && !z.sameKey (slot a).lit) (C ++ [a])) := hC.out.step ⟨ha, hMx⟩ hlk (fun s g h => (H3.out s g h).1)
      have hbC := svs_bound (l := C) (fun z hz => ((hC.out.mem z).1 hz).1.1)
      have hba := sv_bound ha
      have HSN : Hid (svs (C ++ [a]) = svs C + sv a) := svs_snoc C a
      have hsz2 : wr.heap.size ≤ w2.heap.size := by omega
      clear hkey hat hv hMx hs2 hxok hlk
      have hbr2 : Below w.heap.size w w2 := hbr.grown hg2 hbr.size (fun k hk => by cases hk; exact Nat.le_refl _)
      have HL : Hid (wr.rangeLeft b w.heap.size = cnt) := hrg.left_eq
      clear hg2 hrg ha
      generalize (slot a).lit = kl at *
      by_cases hsd : (slot a).side = 0
      · have hsv : sv a = (grade a).n := by unfold sv; rw [if_pos hsd]
        rw [hsv] at hba
        generalize slot a = x at *
        generalize grade a = c at *
        go_wp2
        refine ⟨⟨_, cnt2, C ++ [a], (hrg2.alloc _).alloc _, by rw [HSN.out, hsv], HC2, by simp; omega, below_alloc (below_alloc hbr2 _) _⟩, ?_⟩
        rw [((hrg2.alloc _).alloc _).left_eq, HL.out]
        exact hlt
      · have hsv : sv a = - (grade a).n := by unfold sv; rw [if_neg hsd]
        rw [hsv] at hba
        generalize slot a = x at *
        generalize grade a = c at *
        go_wp2
        refine ⟨⟨_, cnt2, C ++ [a], (hrg2.alloc _).alloc _, by rw [HSN.out, hsv]; rfl, HC2, by simp; omega, below_alloc (below_alloc hbr2 _) _⟩, ?_⟩
        rw [((hrg2.alloc _).alloc _).left_eq, HL.out]
        exact hlt
end Go.Proofs.YtahdlejgjcjeoaaDoor

namespace Go.Proofs.YtahdlejgjcjeoaaDoor
open Go.RowKit Go.Maps

def Sl.one (s : Sl) : Sl := ⟨s.ty, s.key, 1, s.who, s.elem⟩
theorem Sl.one_ok {s : Sl} (h : s.ok) : s.one.ok := ⟨h.1, h.2.1, (by decide : (Lit.int .i64 1).wf = true), h.2.2.2.1, h.2.2.2.2⟩

set_option maxRecDepth 100000 in
set_option maxHeartbeats 1000000 in
theorem isRemoved_any (b n : Nat) (M : Sl → Option Gr) (s : Sl) (w : World) (hm : StMap w b n M) (hs : s.ok) :
    Calls Tryd.prog 98 #[.map (some b), .agg #[.int .i64 s.ty, .string s.key, .int .i64 s.side, .int .i64 s.who, .string s.elem]] w fun e w' => e = .returned (.bool (M s.one).isSome) ∧ Below w.heap.size w w' := by
  have h1 := Sl.one_ok hs
  go_enter Tryd.func98, Tryd.ntmps98
  go_wp2_with (at_lookup; refine wpList_st_look_exp _ rfl _ _ 62 rfl Tryd.underlying62 b n M rfl (hm.alloc _) s.one h1 rfl (got M s.one) (M s.one).isSome rfl rfl ?_)
  go_ret
  exact ⟨rfl, below_alloc (below_alloc (Below.refl _ _) _) _⟩

/-- Kept by elems. -/
def kept (M : Sl → Option Gr) (a : At) : Bool := decide ((slot a).side = 0) && (M (slot a).one).isNone
def elemsOf (M : Sl → Option Gr) (C : List At) : List ByteArray := (C.filter (kept M)).map fun a => (slot a).elem
theorem elemsOf_snoc (M : Sl → Option Gr) (C : List At) (a : At) : elemsOf M (C ++ [a]) = if kept M a then elemsOf M C ++ [(slot a).elem] else elemsOf M C := by
  unfold elemsOf
  rw [List.filter_append]
  by_cases h : kept M a <;> simp [h]
theorem elemsOf_length (M : Sl → Option Gr) (C : List At) : (elemsOf M C).length ≤ C.length := by
  unfold elemsOf
  rw [List.length_map]
  exact List.length_filter_le _ _
theorem infoText : (Tryd.prog.info? 9).map (fun i => (i.zero, i.size, i.bytes)) = some (some (.string ⟨#[]⟩), 1, 16) := by kernel_rfl
end Go.Proofs.YtahdlejgjcjeoaaDoor

namespace Go.Proofs.YtahdlejgjcjeoaaDoor
open Go.RowKit

theorem told_inM {M : Sl → Option Gr} {l T : List At} (h : Holds2 M l) (hl : ∀ a ∈ l, mayB a = true) (hT : IsTold l T) : ∀ a, a ∈ T ↔ InM M a := by
  have fwd : ∀ a, a ∈ T → InM M a := by
    intro a ha
    obtain ⟨hal, hg⟩ := hT.great a ha
    obtain ⟨g, hMg, hle⟩ := h.top a hal
    obtain ⟨a', ha', h1, h2⟩ := h.only _ _ hMg
    have hp : plc a' a = 0 := by rw [plc_eq, scmp_zero, h1]
    have h3 := hg a' ha' hp
    rw [grd_eq a' a (plc_ty hp), h2] at h3
    have h4 := gcmp_tp.anti (grade a) g
    have : g = grade a := (gcmp_zero _ _).1 (by omega)
    exact ⟨hl a hal, by rw [hMg, this]⟩
  intro a
  refine ⟨fwd a, fun ⟨hm, hM⟩ => ?_⟩
  obtain ⟨a', ha', h1, h2⟩ := h.only _ _ hM
  have haa : a' = a := by rw [← unite_eq a' (hl a' ha'), ← unite_eq a hm, h1, h2]
  subst haa
  obtain ⟨x, hx, hp⟩ := hT.all a' ha'
  obtain ⟨hxm, hxM⟩ := fwd x hx
  have hs := plc_slot hp
  rw [← hs, hM] at hxM
  have : x = a' := by rw [← unite_eq x hxm, ← unite_eq a' hm, hs, Option.some.inj hxM]
  exact this ▸ hx

/-- The atoms of a type and key. -/
def ofKey (T : List At) (kind : Int) (key : ByteArray) : List At := T.filter fun a => decide (a.ty = kind ∧ a.key = key)
theorem slot_key (a : At) : (slot a).key = a.key := by unfold slot; split <;> rfl
theorem narrow_inM (M : Sl → Option Gr) (kind : Int) (key : ByteArray) (a : At) : InM (narrowM M kind key) a ↔ InM M a ∧ a.ty = kind ∧ a.key = key := by
  unfold InM narrowM
  rw [slot_ty, slot_key]
  by_cases h : a.ty = kind ∧ a.key = key
  · rw [if_pos h]; simp [h]
  · rw [if_neg h]; simp [h]
theorem ne_nodup {C : List At} (h : C.Pairwise (fun x y => plc x y ≠ 0)) : C.Nodup := List.Pairwise.imp (fun {x y} hne => fun e : x = y => by subst e; exact hne (plc_tp.refl x)) h
theorem ofKey_sorted {T : List At} (h : T.Pairwise (fun x y => plc x y < 0)) (kind : Int) (key : ByteArray) : (ofKey T kind key).Pairwise (fun x y => plc x y < 0) := h.filter _
theorem coll_perm {M : Sl → Option Gr} {l T C : List At} {kind : Int} {key : ByteArray} (h : Holds2 M l) (hl : ∀ a ∈ l, mayB a = true) (hT : IsTold l T) (hC : Coll (narrowM M kind key) (fun _ => false) C) : C.Perm (ofKey T kind key) := by
  refine (List.perm_ext_iff_of_nodup (ne_nodup hC.apart) (ne_nodup ((ofKey_sorted hT.sorted kind key).imp fun {x y} h => by omega))).2 fun a => ?_
  rw [hC.mem a, narrow_inM]
  unfold ofKey
  rw [List.mem_filter, told_inM h hl hT a]
  simp
theorem svs_perm {a b : List At} (h : a.Perm b) : svs a = svs b := by
  induction h with
  | nil => rfl
  | cons x _ ih => simp only [svs, List.map_cons, List.sum_cons] at *; rw [ih]
  | swap x y l => simp only [svs, List.map_cons, List.sum_cons]; omega
  | trans _ _ h1 h2 => rw [h1, h2]
theorem elemsOf_perm {M : Sl → Option Gr} {a b : List At} (h : a.Perm b) : (elemsOf M a).Perm (elemsOf M b) := (h.filter _).map _
theorem texts_ext {a b : List ByteArray} (h : a.Perm b) (ha : a.Pairwise (fun x y => ordS x y ≤ 0)) (hb : b.Pairwise (fun x y => ordS x y ≤ 0)) : a = b :=
  List.Perm.eq_of_pairwise (le := fun x y => ordS x y ≤ 0) (fun x y _ _ h1 h2 => (ordS_zero x y).1 (by have := ordS_tp.anti x y; omega)) ha hb h

/-- P7, as the document tells it: what is counted; the elements. -/
def isGone (T : List At) (key e : ByteArray) : Bool := T.any fun y => decide (y.ty = 4 ∧ y.key = key ∧ y.side = 1 ∧ y.elem = e)
def valN (kind : Int) (key : ByteArray) (L : List At) : Int :=
  if kind = 1 ∨ kind = 2 then ((ofKey L kind key).map fun a => a.n * (1 - 2 * a.side)).sum
  else if kind = 5 then ((ofKey L kind key).getLast?.map (·.n)).getD 0 else 0
def keepsE (T : List At) (kind : Int) (key : ByteArray) (a : At) : Bool := decide (kind = 3) || decide (kind = 5) || (decide (kind = 4) && decide (a.side ≠ 1) && !isGone T key a.elem)
def valE (T : List At) (kind : Int) (key : ByteArray) (L : List At) : List ByteArray := ((ofKey L kind key).filter (keepsE T kind key)).map (·.elem)
theorem ofKey_snoc (L : List At) (a : At) (kind : Int) (key : ByteArray) : ofKey (L ++ [a]) kind key = if a.ty = kind ∧ a.key = key then ofKey L kind key ++ [a] else ofKey L kind key := by
  unfold ofKey
  rw [List.filter_append]
  by_cases h : a.ty = kind ∧ a.key = key <;> simp [h]
theorem valE_snoc (T L : List At) (a : At) (kind : Int) (key : ByteArray) : valE T kind key (L ++ [a]) = if (a.ty = kind ∧ a.key = key) ∧ keepsE T kind key a = true then valE T kind key L ++ [a.elem] else valE T kind key L := by
  unfold valE
  rw [ofKey_snoc]
  by_cases h : a.ty = kind ∧ a.key = key
  · by_cases k : keepsE T kind key a = true <;> simp [h, k]
  · simp [h]
theorem valE_length (T L : List At) (kind : Int) (key : ByteArray) : (valE T kind key L).length ≤ L.length := by
  unfold valE ofKey
  rw [List.length_map]
  exact Nat.le_trans (List.length_filter_le _ _) (List.length_filter_le _ _)
theorem valN_skip (L : List At) (a : At) (kind : Int) (key : ByteArray) (h : ¬ (a.ty = kind ∧ a.key = key)) : valN kind key (L ++ [a]) = valN kind key L := by
  unfold valN
  rw [ofKey_snoc, if_neg h]
theorem valN_sum (L : List At) (a : At) (kind : Int) (key : ByteArray) (h : a.ty = kind ∧ a.key = key) (hk : kind = 1 ∨ kind = 2) : valN kind key (L ++ [a]) = valN kind key L + a.n * (1 - 2 * a.side) := by
  unfold valN
  rw [ofKey_snoc, if_pos h, if_pos hk, if_pos hk]
  simp
theorem valN_last (L : List At) (a : At) (key : ByteArray) (h : a.ty = 5 ∧ a.key = key) : valN 5 key (L ++ [a]) = a.n := by
  unfold valN
  rw [ofKey_snoc, if_pos h, if_neg (by omega), if_pos rfl]
  simp
theorem valN_set (L : List At) (kind : Int) (key : ByteArray) (hk : kind = 3 ∨ kind = 4) : valN kind key L = 0 := by
  unfold valN
  rw [if_neg (by omega), if_neg (by omega)]

theorem mem_ofKey {T : List At} {kind : Int} {key : ByteArray} {a : At} : a ∈ ofKey T kind key ↔ a ∈ T ∧ a.ty = kind ∧ a.key = key := by
  unfold ofKey
  rw [List.mem_filter]
  simp
theorem sv_may {a : At} (h : mayB a = true) (ht : a.ty = 1 ∨ a.ty = 2) : sv a = a.n * (1 - 2 * a.side) := by
  unfold sv
  rw [grade_n]
  have hs : (slot a).side = a.side := by unfold slot; rw [if_neg (by omega)]
  have h2 : a.side = 0 ∨ a.side = 1 := by
    simp only [mayB, decide_eq_true_eq] at h
    omega
  rw [hs]
  rcases h2 with h2 | h2 <;> rw [h2] <;> simp
/-- A counter's value. -/
theorem total_val {T : List At} {kind : Int} {key : ByteArray} (hT : ∀ a ∈ T, mayB a = true) (hk : kind = 1 ∨ kind = 2) : svs (ofKey T kind key) = valN kind key T ∧ valE T kind key T = [] := by
  constructor
  · unfold valN svs
    rw [if_pos hk]
    congr 1
    refine List.map_congr_left fun a ha => ?_
    obtain ⟨h1, h2, _⟩ := mem_ofKey.1 ha
    exact sv_may (hT a h1) (by omega)
  · unfold valE
    rw [List.map_eq_nil_iff, List.filter_eq_nil_iff]
    intro a _
    unfold keepsE
    have h1 : ¬ kind = 3 := by omega
    have h2 : ¬ kind = 5 := by omega
    have h3 : ¬ kind = 4 := by omega
    simp [h1, h2, h3]
/-- A set's elements. -/
theorem elems_val {M : Sl → Option Gr} {l T : List At} {kind : Int} {key : ByteArray} (h : Holds2 M l) (hl : ∀ a ∈ l, mayB a = true) (hT : IsTold l T) (hk : kind = 3 ∨ kind = 4) : elemsOf (narrowM M kind key) (ofKey T kind key) = valE T kind key T ∧ (valE T kind key T).Pairwise (fun x y => ordS x y ≤ 0) := by
  have hmt : ∀ a ∈ T, mayB a = true := fun a ha => hl a (hT.great a ha).1
  have hin := told_inM h hl hT
  have hsl : ∀ a ∈ ofKey T kind key, slot a = ⟨kind, key, a.side, 0, a.elem⟩ ∧ a.ty = kind ∧ a.key = key ∧ (a.side = 0 ∨ a.side = 1) ∧ (kind = 3 → a.side = 0) ∧ a.who = 0 := by
    intro a ha
    obtain ⟨h1, h2, h3⟩ := mem_ofKey.1 ha
    have hm := hmt a h1
    have hw : a.who = 0 ∧ (a.side = 0 ∨ a.side = 1) ∧ (kind = 3 → a.side = 0) := by
      simp only [mayB, decide_eq_true_eq] at hm
      omega
    refine ⟨?_, h2, h3, hw.2.1, hw.2.2, hw.1⟩
    unfold slot
    rw [if_neg (by omega), h2, h3, hw.1]
  have hkeep : ∀ a ∈ ofKey T kind key, kept (narrowM M kind key) a = keepsE T kind key a := by
    intro a ha
    obtain ⟨hs, ht, hkey, hside, h3, hw⟩ := hsl a ha
    unfold kept keepsE
    rw [hs]
    have hone : narrowM M kind key (Sl.one ⟨kind, key, a.side, 0, a.elem⟩) = M ⟨kind, key, 1, 0, a.elem⟩ := by unfold narrowM Sl.one; simp
    rw [hone]
    rcases hk with rfl | rfl
    · have hn : M ⟨3, key, 1, 0, a.elem⟩ = none := by
        cases hM : M ⟨3, key, 1, 0, a.elem⟩ with
        | none => rfl
        | some g =>
          obtain ⟨y, hy, e1, e2⟩ := h.only _ _ hM
          have hm := hl y hy
          have ty : y.ty = 3 := by rw [← slot_ty y, e1]
          have sd : y.side = 1 := by
            have : (slot y).side = y.side := by unfold slot; rw [if_neg (by omega)]
            rw [← this, e1]
          simp only [mayB, decide_eq_true_eq] at hm
          omega
      rw [hn, h3 rfl]
      simp
    · have hg : (M ⟨4, key, 1, 0, a.elem⟩).isNone = !isGone T key a.elem := by
        cases hM : M ⟨4, key, 1, 0, a.elem⟩ with
        | none =>
          have : isGone T key a.elem = false := by
            unfold isGone
            rw [List.any_eq_false]
            intro y hy
            simp only [decide_eq_true_eq]
            rintro ⟨y1, y2, y3, y4⟩
            obtain ⟨hym, hyM⟩ := (hin y).1 hy
            have hyw : y.who = 0 := by
              simp only [mayB, decide_eq_true_eq] at hym
              omega
            have : slot y = ⟨4, key, 1, 0, a.elem⟩ := by unfold slot; rw [if_neg (by omega), y1, y2, y3, y4, hyw]
            rw [this, hM] at hyM
            cases hyM
          rw [this]
          rfl
        | some g =>
          have : isGone T key a.elem = true := by
            obtain ⟨y0, hy0, e1, e2⟩ := h.only _ _ hM
            have hyT : y0 ∈ T := (hin y0).2 ⟨hl y0 hy0, by rw [e1, e2]; exact hM⟩
            have ty : y0.ty = 4 := by rw [← slot_ty y0, e1]
            have es : slot y0 = ⟨y0.ty, y0.key, y0.side, y0.who, y0.elem⟩ := by unfold slot; rw [if_neg (by omega)]
            rw [es] at e1
            simp only [Sl.mk.injEq] at e1
            unfold isGone
            rw [List.any_eq_true]
            exact ⟨y0, hyT, by simp [e1.1, e1.2.1, e1.2.2.1, e1.2.2.2.2]⟩
          rw [this]
          rfl
      rw [hg]
      rcases hside with e | e <;> rw [e] <;> simp
  have hE : elemsOf (narrowM M kind key) (ofKey T kind key) = valE T kind key T := by
    unfold elemsOf valE
    rw [List.filter_congr hkeep]
    refine List.map_congr_left fun a ha => ?_
    rw [(hsl a (List.mem_filter.1 ha).1).1]
  refine ⟨hE, ?_⟩
  unfold valE
  rw [List.pairwise_map]
  have hs := (ofKey_sorted hT.sorted kind key).filter (keepsE T kind key)
  refine List.Pairwise.imp_of_mem (fun {x y} hx hy hxy => ?_) hs
  obtain ⟨hx1, hx2⟩ := List.mem_filter.1 hx
  obtain ⟨hy1, hy2⟩ := List.mem_filter.1 hy
  have kx := hkeep x hx1
  have ky := hkeep y hy1
  rw [hx2] at kx
  rw [hy2] at ky
  obtain ⟨sx, _⟩ := hsl x hx1
  obtain ⟨sy, _⟩ := hsl y hy1
  have zx : x.side = 0 := by
    unfold kept at kx
    rw [sx] at kx
    simp at kx
    exact kx.1
  have zy : y.side = 0 := by
    unfold kept at ky
    rw [sy] at ky
    simp at ky
    exact ky.1
  rw [plc_eq, sx, sy, zx, zy] at hxy
  have e0 : ∀ z, ci z z = 0 := fun z => (ci_zero z z).2 rfl
  have z0 : ordS key key = 0 := (ordS_zero key key).2 rfl
  simp only [scmp, e0, z0] at hxy
  simp at hxy
  omega
end Go.Proofs.YtahdlejgjcjeoaaDoor

namespace Go.Proofs.YtahdlejgjcjeoaaDoor
open Go.RowKit Go.Sort

theorem string_cells (xs : List ByteArray) : xs.map Value.string = (xs.map fun x => x.data.toList).map encStr := by
  rw [List.map_map]
  exact List.map_congr_left fun x _ => rfl
theorem ordS_flip (x y : ByteArray) : ordS y x = - ordS x y := by
  have h := plc_tp.anti ⟨5, x, 0, 0, x, 0⟩ ⟨5, y, 0, 0, y, 0⟩
  have e1 : plc ⟨5, x, 0, 0, x, 0⟩ ⟨5, y, 0, 0, y, 0⟩ = ordS x y := by simp [plc]
  have e2 : plc ⟨5, y, 0, 0, y, 0⟩ ⟨5, x, 0, 0, x, 0⟩ = ordS y x := by simp [plc]
  rwa [e1, e2] at h
theorem lt_ordS (x y : ByteArray) : x.data.toList < y.data.toList ↔ ordS x y < 0 := by
  have h1 := Go.Proofs.bytesLess_eq x.data.toList y.data.toList
  have h2 := bytesLess_cb x.data.toList y.data.toList
  rw [h1] at h2
  have := decide_eq_decide.1 h2
  exact this
theorem le_ordS {x y : ByteArray} (h : x.data.toList ≤ y.data.toList) : ordS x y ≤ 0 := by
  have h1 : ¬ ordS y x < 0 := fun e => (List.not_lt.2 h) ((lt_ordS y x).2 e)
  have := ordS_flip x y
  omega

theorem heap_sortedT {w : World} {g n : Nat} {os : Array Obj} {cur : Array Value} {e : TypeId} (F : Array (List UInt8)) (hb : w.heap[g]? = some (.cells cur e (0, 0))) :
    (grow (putRow encStr (Sort.ahead w n) g 0 F) os).heap[g]? = some (.cells (putCells encStr 0 F cur) e (0, 0)) := by
  have hlt := (Array.getElem?_eq_some_iff.1 hb).1
  rw [heap_grow_old _ _ (by simpa using hlt)]
  simp [putRow, mapBlock, Sort.ahead, Array.getElem?_modify, hb, onCells]
theorem grownBy_sortedT {w : World} {g n : Nat} {os : Array Obj} (F : Array (List UInt8)) : w.grownBy (grow (putRow encStr (Sort.ahead w n) g 0 F) os) (some g) := by
  refine ⟨rfl, rfl, rfl, by simp, fun k hk hne => ?_⟩
  rw [heap_grow_old _ _ (by simpa using hk)]
  have : g ≠ k := fun e => hne (by rw [e])
  simp [putRow, mapBlock, Sort.ahead, Array.getElem?_modify, this]
theorem take_putCellsT (cur : Array Value) (F : List (List UInt8)) (h : F.length ≤ cur.size) : (putCells encStr 0 F.toArray cur).toList.take F.length = F.map encStr := by
  apply List.ext_getElem?
  intro j
  by_cases hj : j < F.length
  · rw [List.getElem?_take_of_lt hj, Array.getElem?_toList]
    simp [putCells, hj, show j < cur.size by omega]
  · rw [List.getElem?_take_eq_none (by omega), List.getElem?_eq_none (by simp; omega)]

/-- Sort, on a row of the call's own. -/
theorem sortT_any (base g cap : Nat) (xs : List ByteArray) (w : World) (hown : w.ownsRow base 9 1 (.slice (some ⟨g, 0, none⟩) xs.length cap) xs.length (xs.map Value.string)) (hlen : xs.length < 4611686018427387904) :
    Calls Tryd.prog 99 #[.slice (some ⟨g, 0, none⟩) xs.length cap] w fun e w' =>
      e = .returned (.tuple #[]) ∧ ∃ ys : List ByteArray, ys.Perm xs ∧ ys.Pairwise (fun x y => ordS x y ≤ 0) ∧ w'.ownsRow base 9 1 (.slice (some ⟨g, 0, none⟩) xs.length cap) xs.length (ys.map Value.string) ∧ w.grownBy w' (some g) := by
  rcases hown.2 with ⟨h0, _⟩ | ⟨g', cap', cur, hv, hbase, hb, h1, h2, h3, h4⟩
  · cases h0
  cases hv
  obtain ⟨ss, hss⟩ : ∃ ss : List (List UInt8), ss = xs.map fun x => x.data.toList := ⟨_, rfl⟩
  have hsl : ss.length = xs.length := by rw [hss, List.length_map]
  rw [string_cells, ← hss, Nat.mul_one] at h4
  have hH : Holds encStr w g 0 ss.toArray := by
    intro j hj
    have hj' : j < ss.length := by simpa using hj
    refine ⟨?_, by simp [World.frozen?, hb]⟩
    have e1 : (cur.toList.take xs.length)[j]? = (ss.map encStr)[j]? := by rw [h4]
    rw [List.getElem?_take_of_lt (by omega)] at e1
    simp only [World.cell?, hb, Nat.zero_add]
    simp only [Option.isSome_none, Bool.false_eq_true, if_false]
    rw [← Array.getElem?_toList, e1]
    simp [hj']
  have hcon := Any.slices_Sort_string (P := Tryd.prog) sortTexts g 0 cap ss w hH (Array.getElem?_eq_some_iff.1 hb).1 (by omega)
  rw [hsl] at hcon
  refine Calls.mono (show Calls Tryd.prog 99 _ _ _ from hcon) ?_
  rintro e w' ⟨rfl, n, os, rfl⟩
  have hp : (ss.mergeSort fun x y => decide (x ≤ y)).Perm ss := List.mergeSort_perm _ _
  have hpw := List.pairwise_mergeSort (le := fun x y : List UInt8 => decide (x ≤ y)) (fun a b c h1 h2 => by simp only [decide_eq_true_eq] at *; exact List.le_trans h1 h2) (fun a b => by simp only [Bool.or_eq_true, decide_eq_true_eq]; exact List.le_total a b) ss
  generalize ss.mergeSort (fun x y => decide (x ≤ y)) = F at *
  have hFl : F.length = xs.length := by rw [hp.length_eq, hsl]
  have eF : (F.map fun l => (⟨l.toArray⟩ : ByteArray)).map Value.string = F.map encStr := by rw [List.map_map]; rfl
  refine ⟨rfl, F.map fun l => ⟨l.toArray⟩, ?_, ?_, ?_, grownBy_sortedT _⟩
  · have := hp.map fun l : List UInt8 => (⟨l.toArray⟩ : ByteArray)
    rw [hss, List.map_map] at this
    have e : xs.map ((fun l : List UInt8 => (⟨l.toArray⟩ : ByteArray)) ∘ fun x : ByteArray => x.data.toList) = xs :=
      (List.map_congr_left (g := id) fun x _ => rfl).trans (List.map_id xs)
    rwa [e] at this
  · rw [List.pairwise_map]
    exact hpw.imp fun h => le_ordS (by simpa using h)
  · rw [eF]
    refine ⟨by simp [hFl], .inr ⟨g, cap, _, rfl, hbase, heap_sortedT _ hb, h1, h2, by simp [putCells, h3], ?_⟩⟩
    have := take_putCellsT cur F (by rw [hFl, h3]; omega)
    rw [hFl] at this
    rw [Nat.mul_one]
    exact this
end Go.Proofs.YtahdlejgjcjeoaaDoor

namespace Go.Proofs.YtahdlejgjcjeoaaDoor
open Go.RowKit Go.Maps

theorem ranges_below {P : Program} {k : TypeId} {R : Value → Option (DataW Unit × List MemPlace)} {w w' : World} {b r n : Nat} {D : DataW Unit} {left : Lit → Bool} {cnt : Nat} (h : w.ranges P k R b r n D left cnt) (hb : Below w.heap.size w w') : w'.ranges P k R b r n D left cnt := by
  have h1 := h.owns.lt
  have h2 := h.lt
  obtain ⟨es, clock, since, seen, c0, e1, e2, e3, e4, e5, e6⟩ := h
  exact ⟨es, clock, since, seen, c0, by rw [hb.block b h1]; exact e1, e2, e3, e4, by rw [hb.block r h2]; exact e5, e6⟩

set_option maxRecDepth 100000 in
set_option maxHeartbeats 2000000 in
theorem elems_any (b n : Nat) (M : Sl → Option Gr) (w : World) (hm : StMap w b n M) (hmm : MayMap M) (hn : n ≤ 8388608) :
    Calls Tryd.prog 54 #[.map (some b)] w fun e w' => ∃ (v' : Value) (C : List At) (ys : List ByteArray), e = .returned v' ∧ w'.ownsRow w.heap.size 9 1 v' ys.length (ys.map Value.string) ∧ Hid (Coll M (fun _ => false) C ∧ ys.Perm (elemsOf M C) ∧ ys.Pairwise (fun x y => ordS x y ≤ 0)) ∧ Below w.heap.size w w' := by
  obtain ⟨D, hown, h2, h3⟩ := hm
  have HMM : Hid (MayMap M) := hmm
  have H2 : Hid (∀ s : Sl, s.ok → M s = none → Maps.has D s.lit = false) := h2
  have H3 : Hid (∀ s g, M s = some g → s.ok ∧ Maps.has D s.lit = true ∧ ∀ z, D.atKey s.lit z = g.dat) := h3
  have hsz := hown.size_le
  clear hmm h2 h3
  obtain ⟨i0, hi, hz0, hz1, hz2⟩ := info_parts infoText
  have hbw := hown.lt
  go_enter Tryd.func54, Tryd.ntmps54
  go_wp2_with (at_range; refine wpList_range_own _ rfl _ 62 rfl 117 119 slotKeyed Tryd.underlying62 grElem b n D rfl hown ?_; intro w0 hrg0 hg0 hs0)
  go_frame
  have hb0 : Below w.heap.size w w0 := (Below.refl _ w).grown hg0 (Nat.le_refl _) (fun k hk => by cases hk)
  go_loopw [3, 4] (fun v _ wr => ∃ (left : Lit → Bool) (cnt : Nat) (C : List At), wr.ranges Tryd.prog 117 grElem b w.heap.size n D left cnt ∧ wr.ownsRow (w.heap.size + 1) 9 1 v (elemsOf M C).length ((elemsOf M C).map Value.string) ∧ Hid (Coll M left C) ∧ C.length + cnt ≤ n ∧ Below w.heap.size w wr) (fun _ _ wr => wr.rangeLeft b w.heap.size)
  case atStart =>
    refine ⟨Maps.has D, Maps.size D, [], hrg0, by simp [elemsOf, World.ownsRow], ⟨.nil, fun a => ?_⟩, by simpa using hsz, hb0⟩
    constructor
    · intro h; cases h
    · rintro ⟨h1, h2⟩
      have := (H3.out _ _ h1.2).2.1
      rw [this] at h2; cases h2
  case round =>
    obtain ⟨left, cnt, C, hrg, hrow, hC, hcnt, hbr⟩ := hrel
    have hel := elemsOf_length M C
    go_wp2_with (at_next; refine wpList_next_ranges _ rfl _ rfl 117 slotKeyed grElem (fun s : Sl => .agg #[.int .i64 s.ty, .string s.key, .int .i64 s.side, .int .i64 s.who, .string s.elem]) (fun g : Gr => .agg #[.int .i64 g.n, .int .i64 g.who, .string g.elem]) slot_key_inv (fun v y hv => by obtain ⟨g, rfl, _⟩ := grElem_inv hv; exact ⟨g, rfl⟩) b w.heap.size n D left cnt rfl hrg ?_ ?_)
    · intro _ hl0
      have HC0 : Hid (Coll M (fun _ => false) C) := by
        have e : left = fun _ => false := funext hl0
        rw [e] at hC
        exact hC
      clear hl0 hi hz0 hz1 hz2 hC hrg
      have HX : Hid (elemsOf M C = elemsOf M C) := rfl
      generalize hxs : elemsOf M C = xs at *
      have HXS : Hid (elemsOf M C = xs) := hxs
      clear hxs HX
      rcases hrow.2 with ⟨hv, hC0⟩ | ⟨g, cap, cur, hv, hbase, hblk, h1, h2, h3, h4⟩
      · subst hv
        obtain rfl := List.length_eq_zero_iff.1 hC0
        have hsn := fun W => Any.slices_Sort_string_none (P := Tryd.prog) sortTexts none 0 W
        go_wp2_with fail
        refine Calls.mono (show Calls Tryd.prog 99 _ _ _ from hsn _) ?_
        rintro e w5 ⟨rfl, rfl⟩
        clear hsn
        go_wp2
        go_ret
        exact ⟨_, C, [], rfl, by simp [World.ownsRow], ⟨HC0.out, by rw [HXS.out], .nil⟩, hbr⟩
      · subst hv
        have hso := sortT_any (w.heap.size + 1) g cap xs wr hrow (by omega)
        clear h4
        go_wp2_with fail
        refine hso.mono ?_
        rintro e w5 ⟨rfl, ys, hperm, hsorted, hown5, hg5⟩
        have HTL : Hid (Coll M (fun _ => false) C ∧ ys.Perm (elemsOf M C) ∧ ys.Pairwise (fun x y => ordS x y ≤ 0)) := ⟨HC0.out, by rw [HXS.out]; exact hperm, hsorted⟩
        have hl5 : xs.length = ys.length := hperm.length_eq.symm
        have hfin : w5.ownsRow w.heap.size 9 1 (.slice (some ⟨g, 0, none⟩) xs.length cap) ys.length (ys.map Value.string) := by rw [← hl5]; exact owns_mono hown5 (by omega)
        have hb5 : Below w.heap.size w w5 := hbr.grown hg5 hbr.size (fun k hk => by cases hk; omega)
        clear hso hperm hsorted hown5 hg5 hl5
        go_wp2
        go_ret
        exact ⟨_, C, ys, rfl, hfin, HTL, hb5⟩
    · intro x c kl yd yp w2 cnt2 hkey hlk hv hat hrg2 hlt hg2 hs2 hen
      obtain ⟨hxok, rfl⟩ := slot_ok_of_key x kl hkey
      have hMx : M x = some c := by
        obtain ⟨g', hg', hz'⟩ := grElem_inv hv
        cases hM : M x with
        | none =>
          have hh := H2.out x hxok hM
          rw [Maps.has_true_of_atKey hat] at hh
          cases hh
        | some g0 =>
          have := (H3.out x g0 hM).2.2 .nil
          rw [hat] at this
          have hcc : grElem c.val = some (c.dat, []) := grElem_mk c
          have hv' : grElem c.val = some (yd, yp) := hv
          rw [hcc] at hv'
          simp only [Option.some.injEq, Prod.mk.injEq] at hv'
          rw [Gr.dat_inj (hv'.1.trans this)]
      obtain ⟨a, ha, rfl, rfl⟩ := HMM.out x c hMx
      have HC2 : Hid (Coll M (fun z => left z && !z.sameKey (slot a).lit) (C ++ [a])) := hC.out.step ⟨ha, hMx⟩ hlk (fun s g h => (H3.out s g h).1)
      have HSN : Hid (elemsOf M (C ++ [a]) = if kept M a then elemsOf M C ++ [(slot a).elem] else elemsOf M C) := elemsOf_snoc M C a
      have hsz2 : wr.heap.size ≤ w2.heap.size := by omega
      have hst2 : StMap w2 b n M := ⟨D, hrg2.owns, H2.out, H3.out⟩
      have hir := fun W (h : StMap W b n M) => isRemoved_any b n M (slot a) W h hxok
      clear hkey hat hv hMx hs2 hlk
      have hbr2 : Below w.heap.size w w2 := hbr.grown hg2 hbr.size (fun k hk => by cases hk; exact Nat.le_refl _)
      have hrow2 := owns_grown hrow hg2 (Nat.lt_succ_self _)
      have HL : Hid (wr.rangeLeft b w.heap.size = cnt) := hrg.left_eq
      clear hg2 hrg ha hrow hC
      by_cases hsd : (slot a).side = 0
      · have hi2 := hir (w2.alloc (.cells #[.int .i64 (slot a).ty, .string (slot a).key, .int .i64 (slot a).side, .int .i64 (slot a).who, .string (slot a).elem] 117)) (hst2.alloc _)
        have hrg3 := hrg2.alloc (.cells #[.int .i64 (slot a).ty, .string (slot a).key, .int .i64 (slot a).side, .int .i64 (slot a).who, .string (slot a).elem] 117)
        have hrow3 := hrow2.alloc (.cells #[.int .i64 (slot a).ty, .string (slot a).key, .int .i64 (slot a).side, .int .i64 (slot a).who, .string (slot a).elem] 117)
        have hbr3 := below_alloc hbr2 (.cells #[.int .i64 (slot a).ty, .string (slot a).key, .int .i64 (slot a).side, .int .i64 (slot a).who, .string (slot a).elem] 117)
        have hz3 : w2.heap.size < (w2.alloc (.cells #[.int .i64 (slot a).ty, .string (slot a).key, .int .i64 (slot a).side, .int .i64 (slot a).who, .string (slot a).elem] 117)).heap.size := by simp
        clear hir hst2 hrg2 hrow2 hbr2
        rw [hsd] at hi2 hrg3 hrow3 hbr3 hz3
        cases hR : (M (slot a).one).isSome with
        | true =>
          have hk : kept M a = false := by unfold kept; rw [← Option.not_isSome, hR]; simp
          have HS2 : Hid (elemsOf M (C ++ [a]) = elemsOf M C) := by rw [Hid, HSN.out, hk]; rfl
          rw [hR] at hi2
          clear HSN hk hR
          generalize (slot a).lit = kl at *
          generalize slot a = x at *
          generalize grade a = c at *
          go_wp2_with fail
          generalize hW3 : w2.alloc (.cells #[.int .i64 x.ty, .string x.key, .int .i64 0, .int .i64 x.who, .string x.elem] 117) = w3 at *
          refine hi2.mono ?_
          rintro e w4 ⟨rfl, hb4⟩
          have hrg4 := ranges_below hrg3 hb4
          have hrow4 := owns_below hrow3 hb4
          have hbr4 : Below w.heap.size w w4 := hbr3.trans (hb4.mono hbr3.size)
          clear hi2 hrg3 hrow3 hW3
          go_wp2
          refine ⟨⟨_, cnt2, C ++ [a], hrg4, by rw [HS2.out]; exact hrow4, HC2, by simp; omega, hbr4⟩, ?_⟩
          rw [hrg4.left_eq, HL.out]
          exact hlt
        | false =>
          have hk : kept M a = true := by unfold kept; rw [← Option.not_isSome, hR]; simp [hsd]
          have HS2 : Hid (elemsOf M (C ++ [a]) = elemsOf M C ++ [(slot a).elem]) := by rw [Hid, HSN.out, hk]; rfl
          rw [hR] at hi2
          clear HSN hk hR
          generalize (slot a).lit = kl at *
          generalize slot a = x at *
          generalize grade a = c at *
          have hcx : (w2.alloc (.cells #[.int .i64 x.ty, .string x.key, .int .i64 0, .int .i64 x.who, .string x.elem] 117)).cell? ⟨w2.heap.size, 4, none⟩ = some (.string x.elem) := by simp
          go_wp2_with fail
          generalize hW3 : w2.alloc (.cells #[.int .i64 x.ty, .string x.key, .int .i64 0, .int .i64 x.who, .string x.elem] 117) = w3 at *
          refine hi2.mono ?_
          rintro e w4 ⟨rfl, hb4⟩
          have hrg4 := ranges_below hrg3 hb4
          have hrow4 := owns_below hrow3 hb4
          have hbr4 : Below w.heap.size w w4 := hbr3.trans (hb4.mono hbr3.size)
          have hcx4 := cell_keep hcx hb4
          have hz4 := hbr4.size
          clear hi2 hrg3 hrow3 hW3 hcx
          go_wp2_with (at_builtin; refine wpList_append_lies _ rfl _ _ 32 rfl (w.heap.size + 1) 9 i0 _ 1 16 Tryd.underlying32 hi hz0 hz1 hz2 rfl (by decide) _ (elemsOf M C).length _ rfl (hrow4.alloc _) ⟨w4.heap.size, 0, none⟩ 1 1 [.string x.elem] rfl rfl (World.news_of_block (heap_alloc_new w4 _)) (by simp [Value.oneCell']) (by decide) (by unfold maxLen; omega) (by omega) (by simp; omega) (w4.heap.size + 1) (by simp) ?_; intro g capn w5 hown5 hgrow5 hat5 hlt5)
          have hrg5 := (hrg4.alloc (.cells #[.string x.elem] 9)).kept hgrow5 (ne_own hrow4 _ (by omega)) (ne_own hrow4 _ (Nat.lt_succ_self _))
          have hbr5 : Below w.heap.size w w5 := (below_alloc hbr4 _).grown hgrow5 (by simp; omega) (fun q hq => by have := owns_base hrow4 q hq; omega)
          refine ⟨⟨_, cnt2, C ++ [a], hrg5, by rw [HS2.out, List.map_append, List.length_append]; exact hown5, HC2, by simp; omega, hbr5⟩, ?_⟩
          rw [hrg5.left_eq, HL.out]
          exact hlt
      · have hk : kept M a = false := by unfold kept; simp [hsd]
        have HS2 : Hid (elemsOf M (C ++ [a]) = elemsOf M C) := by rw [Hid, HSN.out, hk]; rfl
        clear HSN hk hir hst2
        generalize (slot a).lit = kl at *
        generalize slot a = x at *
        generalize grade a = c at *
        go_wp2
        refine ⟨⟨_, cnt2, C ++ [a], (hrg2.alloc _), by rw [HS2.out]; exact hrow2.alloc _, HC2, by simp; omega, below_alloc hbr2 _⟩, ?_⟩
        rw [(hrg2.alloc _).left_eq, HL.out]
        exact hlt
end Go.Proofs.YtahdlejgjcjeoaaDoor

namespace Go.Proofs.YtahdlejgjcjeoaaDoor
open Go.RowKit Go.Maps

def regSlot (key : ByteArray) : Sl := ⟨5, key, 0, 0, ByteArray.empty⟩
theorem register_none {M : Sl → Option Gr} {l T : List At} {key : ByteArray} (h : Holds2 M l) (hl : ∀ a ∈ l, mayB a = true) (hT : IsTold l T) (hM : M (regSlot key) = none) : valN 5 key T = 0 ∧ valE T 5 key T = [] := by
  have he : ofKey T 5 key = [] := by
    rw [List.eq_nil_iff_forall_not_mem]
    intro a ha
    obtain ⟨h1, h2, h3⟩ := mem_ofKey.1 ha
    have hm := ((told_inM h hl hT a).1 h1).2
    have : slot a = regSlot key := by unfold slot regSlot; rw [if_pos h2, h2, h3]
    rw [this, hM] at hm
    cases hm
  unfold valN valE
  rw [he]
  simp
theorem register_some {M : Sl → Option Gr} {l T : List At} {key : ByteArray} {g : Gr} (h : Holds2 M l) (hl : ∀ a ∈ l, mayB a = true) (hT : IsTold l T) (hM : M (regSlot key) = some g) : valN 5 key T = g.n ∧ valE T 5 key T = [g.elem] := by
  obtain ⟨a, ha, h1, h2⟩ := h.only _ _ hM
  have haT : a ∈ T := (told_inM h hl hT a).2 ⟨hl a ha, by rw [h1, h2]; exact hM⟩
  have hty : a.ty = 5 := by rw [← slot_ty a, h1]; rfl
  have hke : a.key = key := by rw [← slot_key a, h1]; rfl
  have hg : g = ⟨a.n, a.who, a.elem⟩ := by rw [← h2]; unfold grade; rw [if_pos hty]
  have he : ofKey T 5 key = [a] := by
    refine sorted_ext plc_tp (ofKey_sorted hT.sorted 5 key) (List.pairwise_singleton _ _) fun x => ?_
    rw [mem_ofKey, List.mem_singleton]
    constructor
    · rintro ⟨x1, x2, x3⟩
      have hs : slot x = slot a := by rw [h1]; unfold slot regSlot; rw [if_pos x2, x2, x3]
      have hxm := (told_inM h hl hT x).1 x1
      have ham := (told_inM h hl hT a).1 haT
      have hgr : grade x = grade a := by
        have := hxm.2
        rw [hs, ham.2] at this
        exact (Option.some.inj this).symm
      rw [← unite_eq x hxm.1, ← unite_eq a ham.1, hs, hgr]
    · rintro rfl
      exact ⟨haT, hty, hke⟩
  unfold valN valE keepsE
  rw [he, hg]
  simp

set_option maxRecDepth 100000 in
set_option maxHeartbeats 1000000 in
theorem register_any (b n : Nat) (M : Sl → Option Gr) (key : ByteArray) (w : World) (hm : StMap w b n M) (hk : key.size ≤ 1099511627776) :
    Calls Tryd.prog 55 #[.map (some b), .string key] w fun e w' => ∃ v, e = .returned (.agg #[.int .i64 (match M (regSlot key) with | some g => g.n | none => 0), v]) ∧ Hid (w'.ownsRow w.heap.size 9 1 v (match M (regSlot key) with | some _ => 1 | none => 0) (match M (regSlot key) with | some g => [.string g.elem] | none => [])) ∧ Below w.heap.size w w' := by
  have hok : (regSlot key).ok := ⟨(by decide : (Lit.int .i64 5).wf = true), (by show key.size ≤ maxLen; unfold maxLen; omega), (by decide : (Lit.int .i64 0).wf = true), (by decide : (Lit.int .i64 0).wf = true), (by decide : ByteArray.empty.size ≤ maxLen)⟩
  have hem : (ByteArray.empty : ByteArray) = ⟨#[]⟩ := rfl
  cases hM : M (regSlot key) with
  | none =>
    have hgot : got M (regSlot key) = ⟨0, 0, ByteArray.empty⟩ := by unfold got; rw [hM]; rfl
    have hsome : (M (regSlot key)).isSome = false := by rw [hM]; rfl
    clear hM
    go_enter Tryd.func55, Tryd.ntmps55
    go_wp2_with (at_lookup; refine wpList_st_look_exp _ rfl _ _ 62 rfl Tryd.underlying62 b n M rfl (by first | exact hm | exact hm.alloc _ | exact (hm.alloc _).alloc _) (regSlot key) hok rfl ⟨0, 0, ByteArray.empty⟩ false hgot hsome ?_)
    refine bodyPost_ret (v := .agg #[.int .i64 0, .slice none 0 0]) ?_ rfl ⟨_, rfl, ⟨rfl, .inl ⟨rfl, rfl⟩⟩, below_alloc (below_alloc (Below.refl _ _) _) _⟩
    simp [results, Tryd.results55, go_sem]
  | some g =>
    have hgot : got M (regSlot key) = g := by unfold got; rw [hM]; rfl
    have hsome : (M (regSlot key)).isSome = true := by rw [hM]; rfl
    clear hM
    go_enter Tryd.func55, Tryd.ntmps55
    go_wp2_with (at_lookup; refine wpList_st_look_exp _ rfl _ _ 62 rfl Tryd.underlying62 b n M rfl (by first | exact hm | exact hm.alloc _ | exact (hm.alloc _).alloc _) (regSlot key) hok rfl g true hgot hsome ?_)
    refine bodyPost_ret (v := .agg #[.int .i64 g.n, .slice (some ⟨w.heap.size + 1 + 1, 0, none⟩) 1 1]) ?_ rfl ⟨_, rfl, ⟨rfl, .inr ⟨w.heap.size + 1 + 1, 1, #[.string g.elem], rfl, by omega, ?_, Nat.le_refl _, by unfold maxLen; omega, rfl, rfl⟩⟩, below_alloc (below_alloc (below_alloc (Below.refl _ _) _) _) _⟩
    · simp [results, Tryd.results55, go_sem]
    · have := heap_alloc_new ((w.alloc (.cells #[.int .i64 g.n, .slice (some ⟨w.heap.size + 1 + 1, 0, none⟩) 1 1] 34)).alloc (.cells #[.int .i64 g.n, .int .i64 g.who, .string g.elem] 119)) (.cells #[.string g.elem] 9)
      simpa using this

/-- What a Read answers. -/
def readCode (l : List At) (kind : Int) : Int := if l.all mayB then (if 1 ≤ kind ∧ kind ≤ 5 then 0 else 6) else 1
def ReadSpec (l : List At) (kind : Int) (key : ByteArray) (n : Int) (es : List ByteArray) : Prop :=
  (readCode l kind = 0 ∧ (∀ a ∈ l, mayB a = true) ∧ ∃ T, IsTold l T ∧ n = valN kind key T ∧ es = valE T kind key T) ∨ (readCode l kind ≠ 0 ∧ n = 0 ∧ es = [])
theorem ReadSpec.unique {l : List At} {kind : Int} {key : ByteArray} {n m : Int} {es fs : List ByteArray} (h : ReadSpec l kind key n es) (k : ReadSpec l kind key m fs) : n = m ∧ es = fs := by
  rcases h with ⟨h0, hm, T, hT, rfl, rfl⟩ | ⟨h0, rfl, rfl⟩
  · rcases k with ⟨_, _, T', hT', rfl, rfl⟩ | ⟨k0, _⟩
    · obtain rfl := hT.unique hm hT'
      exact ⟨rfl, rfl⟩
    · exact absurd h0 k0
  · rcases k with ⟨k0, _⟩ | ⟨_, rfl, rfl⟩
    · exact absurd k0 h0
    · exact ⟨rfl, rfl⟩

/-- The answer's own cells, not yet written. -/
def ResAt (w : World) (q : Nat) : Prop := w.heap[q]? = some (.cells #[.int .i64 0, .slice none 0 0] 34 (0, 0))
theorem ResAt.cells {w : World} {q : Nat} (h : ResAt w q) : w.cell? ⟨q, 0, none⟩ = some (.int .i64 0) ∧ w.cell? ⟨q, 1, none⟩ = some (.slice none 0 0) ∧ w.frozen? ⟨q, 0, none⟩ = false ∧ w.frozen? ⟨q, 1, none⟩ = false := by
  unfold ResAt at h
  refine ⟨?_, ?_, ?_, ?_⟩ <;> simp [World.cell?, World.frozen?, h]
theorem ResAt.below {w w' : World} {q B : Nat} (h : ResAt w q) (hb : Below B w w') (hq : q < B) : ResAt w' q := by
  unfold ResAt at *
  rw [hb.block q hq]
  exact h
theorem owns_set {w : World} {base q o : Nat} {e : TypeId} {s n : Nat} {v u : Value} {xs : List Value} (h : w.ownsRow base e s v n xs) (hq : q < base) : (w.setCell ⟨q, o, none⟩ u).ownsRow base e s v n xs :=
  owns_grown (r := q) h ⟨rfl, rfl, rfl, by simp, fun i _ hne => Below.heap_setCell _ _ _ i (fun e => hne (by rw [e]))⟩ hq

set_option maxRecDepth 100000 in
set_option maxHeartbeats 2000000 in
theorem read_yes (v : Value) (l T : List At) (kind : Int) (key : ByteArray) (w : World) (hr : RulesAt w) (h1 : SliceOf w v l) (hs1 : ∀ a ∈ l, short a) (hlen : l.length ≤ 4194304) (hk : key.size ≤ 1099511627776) (hl : l.all mayB = true) (hT : IsTold l T) (hki : 1 ≤ kind ∧ kind ≤ 5) :
    Calls Tryd.prog 21 #[v, .int .i64 kind, .string key] w fun e w' => ∃ v', e = .returned (.tuple #[.agg #[.int .i64 (valN kind key T), v'], .int .i64 0]) ∧ Hid (w'.ownsRow w.heap.size 9 1 v' (valE T kind key T).length ((valE T kind key T).map Value.string)) ∧ Below w.heap.size w w' := by
  have hmay : ∀ a ∈ l, mayB a = true := List.all_eq_true.1 hl
  have HML : Hid (∀ a ∈ l, mayB a = true) := hmay
  have HT : Hid (IsTold l T) := hT
  have HC1 : Hid (∀ W, Below w.heap.size w W → Calls Tryd.prog 38 #[v] W fun e w' => ∃ b, e = .returned (.tuple #[.map (some b), .int .i64 0]) ∧ W.heap.size ≤ b ∧ StMap w' b l.length (addTo (fun _ => none) l) ∧ Below W.heap.size W w') := fun W hW => of_yes v l W (hr.below hW hr.1) (h1.below hW) hs1 (by omega) hl
  have HH : Hid (Holds2 (addTo (fun _ => none) l) l) := holds_list l
  generalize addTo (fun _ => none) l = M at *
  have hwi : wi kind 1 5 = true := by unfold wi; simp; omega
  clear hr h1 hs1 hl hT hmay
  go_enter Tryd.func21, Tryd.ntmps21
  go_wp2_with fail
  have hb0 := below_alloc (Below.refl _ w) (.cells #[.int .i64 0, .slice none 0 0] 34)
  have hz0 : (w.alloc (.cells #[.int .i64 0, .slice none 0 0] 34)).heap.size = w.heap.size + 1 := by simp
  have hr0 : ResAt (w.alloc (.cells #[.int .i64 0, .slice none 0 0] 34)) w.heap.size := heap_alloc_new w _
  generalize w.alloc (.cells #[.int .i64 0, .slice none 0 0] 34) = w0 at *
  refine (HC1.out w0 hb0).mono ?_
  rintro e w1 ⟨b, rfl, hbb, hst1, hb1⟩
  have hbw1 : Below w.heap.size w w1 := hb0.trans (hb1.mono hb0.size)
  have hr1 := hr0.below hb1 (by omega)
  have hz1 := hb1.size
  clear HC1
  go_wp2_with fail
  refine (isType_any kind w1).mono ?_
  rintro e w2 ⟨rfl, rfl⟩
  rw [hwi]
  have hc2 := narrow_any b l.length M kind key w2 hst1
  go_wp2_with fail
  refine hc2.mono ?_
  rintro e w3 ⟨rfl, hst3, hg3⟩
  have hbw3 : Below w.heap.size w w3 := hbw1.grown hg3 hbw1.size (fun k hk => by cases hk; omega)
  have hz3 := hg3.size
  have hr3 : ResAt w3 w.heap.size := by
    unfold ResAt at *
    rw [hg3.block w.heap.size (by omega) (by simp; omega)]
    exact hr1
  have HMM : Hid (MayMap (narrowM M kind key)) := by
    intro s g hs
    unfold narrowM at hs
    split at hs
    · exact HH.out.mayMap HML.out s g hs
    · cases hs
  clear hc2 hst1 hg3 hb1 hbw1 hr1 hr0 hb0
  have hcase : (kind = 1 ∨ kind = 2) ∨ (kind = 3 ∨ kind = 4) ∨ kind = 5 := by omega
  rcases hcase with h12 | h34 | rfl
  · have hct := total_any b l.length (narrowM M kind key) w3 hst3.out HMM.out (by omega)
    have HV : Hid (∀ C, Coll (narrowM M kind key) (fun _ => false) C → svs C = valN kind key T) := fun C hC => (svs_perm (coll_perm HH.out HML.out HT.out hC)).trans (total_val (kind := kind) (key := key) (fun a ha => HML.out a (HT.out.great a ha).1) h12).1
    have HE : Hid (valE T kind key T = []) := (total_val (kind := kind) (key := key) (fun a ha => HML.out a (HT.out.great a ha).1) h12).2
    have hfin : ∀ W : World, Hid (W.ownsRow w.heap.size 9 1 (.slice none 0 0) (valE T kind key T).length ((valE T kind key T).map Value.string)) := fun W => by rw [HE.out]; exact ⟨rfl, .inl ⟨rfl, rfl⟩⟩
    rcases h12 with rfl | rfl
    · go_wp2_with fail
      refine hct.mono ?_
      rintro e w4 ⟨C, rfl, hC, hb4⟩
      obtain ⟨c0, c1, f0, f1⟩ := (hr3.below hb4 (by omega)).cells
      have hbw4 : Below w.heap.size w w4 := hbw3.trans (hb4.mono hbw3.size)
      rw [HV.out C hC.out]
      clear hct hC hr3
      go_wp2
      refine bodyPost_ret (v := .tuple #[.agg #[.int .i64 (valN 1 key T), .slice none 0 0], .int .i64 0]) ?_ rfl ⟨_, rfl, hfin _, (hbw4.setCell (Nat.le_refl _) _).setCell (Nat.le_refl _) _⟩
      simp [results, Tryd.results21, go_sem, c0, c1]
    · go_wp2_with fail
      refine hct.mono ?_
      rintro e w4 ⟨C, rfl, hC, hb4⟩
      obtain ⟨c0, c1, f0, f1⟩ := (hr3.below hb4 (by omega)).cells
      have hbw4 : Below w.heap.size w w4 := hbw3.trans (hb4.mono hbw3.size)
      rw [HV.out C hC.out]
      clear hct hC hr3
      go_wp2
      refine bodyPost_ret (v := .tuple #[.agg #[.int .i64 (valN 2 key T), .slice none 0 0], .int .i64 0]) ?_ rfl ⟨_, rfl, hfin _, (hbw4.setCell (Nat.le_refl _) _).setCell (Nat.le_refl _) _⟩
      simp [results, Tryd.results21, go_sem, c0, c1]
  · have hct := elems_any b l.length (narrowM M kind key) w3 hst3.out HMM.out (by omega)
    have HV : Hid (∀ C (ys : List ByteArray), Coll (narrowM M kind key) (fun _ => false) C ∧ ys.Perm (elemsOf (narrowM M kind key) C) ∧ ys.Pairwise (fun x y => ordS x y ≤ 0) → ys = valE T kind key T) := fun C ys ⟨hC, hp, hs⟩ => by
      have he := elems_val (kind := kind) (key := key) HH.out HML.out HT.out h34
      refine texts_ext (hp.trans ?_) hs he.2
      rw [← he.1]
      exact elemsOf_perm (coll_perm HH.out HML.out HT.out hC)
    have HN : Hid (valN kind key T = 0) := valN_set T kind key h34
    rcases h34 with rfl | rfl
    · go_wp2_with fail
      refine hct.mono ?_
      rintro e w4 ⟨v4, C, ys, rfl, hown4, hC, hb4⟩
      obtain ⟨c0, c1, f0, f1⟩ := (hr3.below hb4 (by omega)).cells
      have hbw4 : Below w.heap.size w w4 := hbw3.trans (hb4.mono hbw3.size)
      obtain rfl := HV.out C ys hC.out
      have HO : Hid (w4.ownsRow w3.heap.size 9 1 v4 (valE T 3 key T).length ((valE T 3 key T).map Value.string)) := hown4
      obtain ⟨ad, cp, rfl⟩ := own_form hown4
      clear hct hC hr3 hown4
      go_wp2
      refine bodyPost_ret (v := .tuple #[.agg #[.int .i64 0, .slice ad (valE T 3 key T).length cp], .int .i64 0]) ?_ rfl ⟨_, by rw [HN.out], owns_mono (owns_set (owns_set HO.out (by omega)) (by omega)) (by omega), (hbw4.setCell (Nat.le_refl _) _).setCell (Nat.le_refl _) _⟩
      simp [results, Tryd.results21, go_sem, c0, c1]
    · go_wp2_with fail
      refine hct.mono ?_
      rintro e w4 ⟨v4, C, ys, rfl, hown4, hC, hb4⟩
      obtain ⟨c0, c1, f0, f1⟩ := (hr3.below hb4 (by omega)).cells
      have hbw4 : Below w.heap.size w w4 := hbw3.trans (hb4.mono hbw3.size)
      obtain rfl := HV.out C ys hC.out
      have HO : Hid (w4.ownsRow w3.heap.size 9 1 v4 (valE T 4 key T).length ((valE T 4 key T).map Value.string)) := hown4
      obtain ⟨ad, cp, rfl⟩ := own_form hown4
      clear hct hC hr3 hown4
      go_wp2
      refine bodyPost_ret (v := .tuple #[.agg #[.int .i64 0, .slice ad (valE T 4 key T).length cp], .int .i64 0]) ?_ rfl ⟨_, by rw [HN.out], owns_mono (owns_set (owns_set HO.out (by omega)) (by omega)) (by omega), (hbw4.setCell (Nat.le_refl _) _).setCell (Nat.le_refl _) _⟩
      simp [results, Tryd.results21, go_sem, c0, c1]
  · have hct := register_any b l.length (narrowM M 5 key) key w3 hst3.out hk
    have hnm : narrowM M 5 key (regSlot key) = M (regSlot key) := by unfold narrowM regSlot; simp
    rw [hnm] at hct
    cases hM : M (regSlot key) with
    | none =>
      have HV : Hid (valN 5 key T = 0 ∧ valE T 5 key T = []) := register_none HH.out HML.out HT.out hM
      rw [hM] at hct
      clear hM hnm
      go_wp2_with fail
      refine hct.mono ?_
      rintro e w4 ⟨v4, rfl, hown4, hb4⟩
      obtain ⟨c0, c1, f0, f1⟩ := (hr3.below hb4 (by omega)).cells
      have hbw4 : Below w.heap.size w w4 := hbw3.trans (hb4.mono hbw3.size)
      obtain ⟨ad, cp, rfl⟩ := own_form hown4.out
      clear hct hr3
      go_wp2
      refine bodyPost_ret (v := .tuple #[.agg #[.int .i64 0, .slice ad 0 cp], .int .i64 0]) ?_ rfl ⟨_, by rw [HV.out.1], by rw [HV.out.2]; exact owns_mono (owns_set (owns_set hown4.out (by omega)) (by omega)) (by omega), (hbw4.setCell (Nat.le_refl _) _).setCell (Nat.le_refl _) _⟩
      simp [results, Tryd.results21, go_sem, c0, c1]
    | some g =>
      have HV : Hid (valN 5 key T = g.n ∧ valE T 5 key T = [g.elem]) := register_some HH.out HML.out HT.out hM
      rw [hM] at hct
      clear hM hnm
      go_wp2_with fail
      refine hct.mono ?_
      rintro e w4 ⟨v4, rfl, hown4, hb4⟩
      obtain ⟨c0, c1, f0, f1⟩ := (hr3.below hb4 (by omega)).cells
      have hbw4 : Below w.heap.size w w4 := hbw3.trans (hb4.mono hbw3.size)
      obtain ⟨ad, cp, rfl⟩ := own_form hown4.out
      clear hct hr3
      go_wp2
      refine bodyPost_ret (v := .tuple #[.agg #[.int .i64 g.n, .slice ad 1 cp], .int .i64 0]) ?_ rfl ⟨_, by rw [HV.out.1], by rw [HV.out.2]; exact owns_mono (owns_set (owns_set hown4.out (by omega)) (by omega)) (by omega), (hbw4.setCell (Nat.le_refl _) _).setCell (Nat.le_refl _) _⟩
      simp [results, Tryd.results21, go_sem, c0, c1]
end Go.Proofs.YtahdlejgjcjeoaaDoor

namespace Go.Proofs.YtahdlejgjcjeoaaDoor
open Go.RowKit Go.Maps

set_option maxRecDepth 100000 in
set_option maxHeartbeats 1000000 in
theorem read_no (v : Value) (l : List At) (kind : Int) (key : ByteArray) (w : World) (hr : RulesAt w) (h1 : SliceOf w v l) (hs1 : ∀ a ∈ l, short a) (hlen : l.length ≤ 4194304) (hl : l.all mayB = false) :
    Calls Tryd.prog 21 #[v, .int .i64 kind, .string key] w fun e w' => e = .returned (.tuple #[.agg #[.int .i64 0, .slice none 0 0], .int .i64 1]) ∧ Below w.heap.size w w' := by
  have HC1 : Hid (∀ W, Below w.heap.size w W → Calls Tryd.prog 38 #[v] W fun e w' => e = .returned (.tuple #[.map none, .int .i64 1]) ∧ Below W.heap.size W w') := fun W hW => of_no v l W (hr.below hW hr.1) (h1.below hW) hs1 (by omega) hl
  clear hr h1 hs1 hl
  go_enter Tryd.func21, Tryd.ntmps21
  go_wp2_with fail
  have hb0 := below_alloc (Below.refl _ w) (.cells #[.int .i64 0, .slice none 0 0] 34)
  have hz0 : (w.alloc (.cells #[.int .i64 0, .slice none 0 0] 34)).heap.size = w.heap.size + 1 := by simp
  have hr0 : ResAt (w.alloc (.cells #[.int .i64 0, .slice none 0 0] 34)) w.heap.size := heap_alloc_new w _
  generalize w.alloc (.cells #[.int .i64 0, .slice none 0 0] 34) = w0 at *
  refine (HC1.out w0 hb0).mono ?_
  rintro e w1 ⟨rfl, hb1⟩
  have hbw1 : Below w.heap.size w w1 := hb0.trans (hb1.mono hb0.size)
  obtain ⟨c0, c1, f0, f1⟩ := (hr0.below hb1 (by omega)).cells
  clear HC1 hr0
  go_wp2
  refine bodyPost_ret (v := .tuple #[.agg #[.int .i64 0, .slice none 0 0], .int .i64 1]) ?_ rfl ⟨rfl, ?_⟩
  · simp [results, Tryd.results21, go_sem, c0, c1]
  · exact (hbw1.setCell (Nat.le_refl _) _).setCell (Nat.le_refl _) _

set_option maxRecDepth 100000 in
set_option maxHeartbeats 1000000 in
theorem read_op (v : Value) (l : List At) (kind : Int) (key : ByteArray) (w : World) (hr : RulesAt w) (h1 : SliceOf w v l) (hs1 : ∀ a ∈ l, short a) (hlen : l.length ≤ 4194304) (hl : l.all mayB = true) (hki : ¬ (1 ≤ kind ∧ kind ≤ 5)) :
    Calls Tryd.prog 21 #[v, .int .i64 kind, .string key] w fun e w' => e = .returned (.tuple #[.agg #[.int .i64 0, .slice none 0 0], .int .i64 6]) ∧ Below w.heap.size w w' := by
  have HC1 : Hid (∀ W, Below w.heap.size w W → Calls Tryd.prog 38 #[v] W fun e w' => ∃ b, e = .returned (.tuple #[.map (some b), .int .i64 0]) ∧ W.heap.size ≤ b ∧ StMap w' b l.length (addTo (fun _ => none) l) ∧ Below W.heap.size W w') := fun W hW => of_yes v l W (hr.below hW hr.1) (h1.below hW) hs1 (by omega) hl
  have hwi : wi kind 1 5 = false := by unfold wi; simp; omega
  clear hr h1 hs1 hl
  go_enter Tryd.func21, Tryd.ntmps21
  go_wp2_with fail
  have hb0 := below_alloc (Below.refl _ w) (.cells #[.int .i64 0, .slice none 0 0] 34)
  have hz0 : (w.alloc (.cells #[.int .i64 0, .slice none 0 0] 34)).heap.size = w.heap.size + 1 := by simp
  have hr0 : ResAt (w.alloc (.cells #[.int .i64 0, .slice none 0 0] 34)) w.heap.size := heap_alloc_new w _
  generalize w.alloc (.cells #[.int .i64 0, .slice none 0 0] 34) = w0 at *
  refine (HC1.out w0 hb0).mono ?_
  rintro e w1 ⟨b, rfl, hbb, -, hb1⟩
  have hbw1 : Below w.heap.size w w1 := hb0.trans (hb1.mono hb0.size)
  obtain ⟨c0, c1, f0, f1⟩ := (hr0.below hb1 (by omega)).cells
  clear HC1 hr0
  go_wp2_with fail
  refine (isType_any kind w1).mono ?_
  rintro e w2 ⟨rfl, rfl⟩
  rw [hwi]
  go_wp2
  refine bodyPost_ret (v := .tuple #[.agg #[.int .i64 0, .slice none 0 0], .int .i64 6]) ?_ rfl ⟨rfl, ?_⟩
  · simp [results, Tryd.results21, go_sem, c0, c1]
  · exact (hbw1.setCell (Nat.le_refl _) _).setCell (Nat.le_refl _) _

/-- There is a told list of every state. -/
theorem told_exists (l : List At) : ∃ T, IsTold l T := by
  have hp := List.mergeSort_perm (leftTo l l.length) (fun x y => decide (plc x y ≤ 0))
  have hs := List.pairwise_mergeSort (le := fun x y : At => decide (plc x y ≤ 0)) (fun a b c h1 h2 => by simp only [decide_eq_true_eq] at *; exact plc_tp.trans a b c h1 h2) (fun a b => by
    simp only [Bool.or_eq_true, decide_eq_true_eq]
    have := plc_tp.anti a b
    omega) (leftTo l l.length)
  have ha : ((leftTo l l.length).mergeSort (fun x y => decide (plc x y ≤ 0))).Pairwise (fun x y => plc x y ≠ 0) := (hp.pairwise_iff (fun {x y} hxy e => hxy (plc_symm e))).2 left_apart
  refine ⟨_, ⟨List.Pairwise.imp₂ (fun {x y} h1 h2 => ?_) ha hs, fun x hx => left_great x (hp.mem_iff.1 hx), fun y hy => ?_⟩⟩
  · simp only [decide_eq_true_eq] at h2
    omega
  · obtain ⟨x, hx, h⟩ := left_all y hy
    exact ⟨x, hp.mem_iff.2 hx, h⟩

theorem latRead_any (v : Value) (l : List At) (kind : Int) (key : ByteArray) (w : World) (hr : RulesAt w) (h1 : SliceOf w v l) (hs1 : ∀ a ∈ l, short a) (hlen : l.length ≤ 4194304) (hk : key.size ≤ 1099511627776) :
    Calls Tryd.prog 21 #[v, .int .i64 kind, .string key] w fun e w' => ∃ n v' es, e = .returned (.tuple #[.agg #[.int .i64 n, v'], .int .i64 (readCode l kind)]) ∧ w'.ownsRow w.heap.size 9 1 v' es.length (es.map Value.string) ∧ Hid (ReadSpec l kind key n es ∧ (readCode l kind = 0 ∨ v' = .slice none 0 0)) ∧ Below w.heap.size w w' := by
  cases hl : l.all mayB
  · have hc : readCode l kind = 1 := by unfold readCode; rw [hl]; rfl
    refine (read_no v l kind key w hr h1 hs1 hlen hl).mono ?_
    rintro e w' ⟨rfl, hb⟩
    rw [hc]
    exact ⟨0, _, [], rfl, ⟨rfl, .inl ⟨rfl, rfl⟩⟩, ⟨.inr ⟨by omega, rfl, rfl⟩, .inr rfl⟩, hb⟩
  · by_cases hki : 1 ≤ kind ∧ kind ≤ 5
    · have hc : readCode l kind = 0 := by unfold readCode; rw [hl, if_pos rfl, if_pos hki]
      obtain ⟨T, hT⟩ := told_exists l
      refine (read_yes v l T kind key w hr h1 hs1 hlen hk hl hT hki).mono ?_
      rintro e w' ⟨v', rfl, ho, hb⟩
      rw [hc]
      exact ⟨_, v', _, rfl, ho.out, ⟨.inl ⟨hc, List.all_eq_true.1 hl, T, hT, rfl, rfl⟩, .inl rfl⟩, hb⟩
    · have hc : readCode l kind = 6 := by unfold readCode; rw [hl, if_pos rfl, if_neg hki]
      refine (read_op v l kind key w hr h1 hs1 hlen hl hki).mono ?_
      rintro e w' ⟨rfl, hb⟩
      rw [hc]
      exact ⟨0, _, [], rfl, ⟨rfl, .inl ⟨rfl, rfl⟩⟩, ⟨.inr ⟨by omega, rfl, rfl⟩, .inr rfl⟩, hb⟩
end Go.Proofs.YtahdlejgjcjeoaaDoor

namespace Go.Proofs.YtahdlejgjcjeoaaDoor
open Go.RowKit Go.Maps

/-- A value under way, in two cells. -/
def VarAt (w : World) (q : Nat) (n : Int) (v : Value) : Prop := w.heap[q]? = some (.cells #[.int .i64 n, v] 34 (0, 0))
theorem VarAt.cells {w : World} {q : Nat} {n : Int} {v : Value} (h : VarAt w q n v) : w.cell? ⟨q, 0, none⟩ = some (.int .i64 n) ∧ w.cell? ⟨q, 1, none⟩ = some v ∧ w.frozen? ⟨q, 0, none⟩ = false ∧ w.frozen? ⟨q, 1, none⟩ = false := by
  unfold VarAt at h
  refine ⟨?_, ?_, ?_, ?_⟩ <;> simp [World.cell?, World.frozen?, h]
theorem VarAt.lt {w : World} {q : Nat} {n : Int} {v : Value} (h : VarAt w q n v) : q < w.heap.size := (Array.getElem?_eq_some_iff.1 h).1
theorem VarAt.block {w w' : World} {q : Nat} {n : Int} {v : Value} (h : VarAt w q n v) (hb : w'.heap[q]? = w.heap[q]?) : VarAt w' q n v := by unfold VarAt at *; rw [hb]; exact h
theorem VarAt.set0 {w : World} {q : Nat} {n m : Int} {v : Value} (h : VarAt w q n v) : VarAt (w.setCell ⟨q, 0, none⟩ (.int .i64 m)) q m v := by
  unfold VarAt at *
  simp [World.setCell, Array.getElem?_modify, h]
theorem VarAt.set1 {w : World} {q : Nat} {n : Int} {v u : Value} (h : VarAt w q n v) : VarAt (w.setCell ⟨q, 1, none⟩ u) q n u := by
  unfold VarAt at *
  simp [World.setCell, Array.getElem?_modify, h]

theorem owns_kept {w w' : World} {base : Nat} {row : Option Nat} {e : TypeId} {s n : Nat} {v : Value} {xs : List Value} (h : w.ownsRow base e s v n xs) (hg : w.grownBy w' row) (hne : ∀ q, v.ownBlock = some q → some q ≠ row) : w'.ownsRow base e s v n xs := by
  obtain ⟨h0, h⟩ := h
  refine ⟨h0, ?_⟩
  rcases h with h | ⟨g, cap, cur, rfl, hgb, hh, k⟩
  · exact .inl h
  · exact .inr ⟨g, cap, cur, rfl, hgb, by rw [hg.block g (Array.getElem?_eq_some_iff.1 hh).1 (hne g rfl)]; exact hh, k⟩
theorem VarAt.other {w : World} {q q' o : Nat} {n : Int} {v u : Value} (h : VarAt w q n v) (hne : q ≠ q') : VarAt (w.setCell ⟨q', o, none⟩ u) q n v := h.block (Below.heap_setCell _ _ _ _ hne)
theorem ResAt.other {w : World} {q q' o : Nat} {u : Value} (h : ResAt w q) (hne : q ≠ q') : ResAt (w.setCell ⟨q', o, none⟩ u) q := by
  unfold ResAt at *
  rw [Below.heap_setCell _ _ _ _ hne]
  exact h
theorem ResAt.grown {w w' : World} {q : Nat} {row : Option Nat} (h : ResAt w q) (hg : w.grownBy w' row) (hne : some q ≠ row) : ResAt w' q := by
  have hlt : q < w.heap.size := (Array.getElem?_eq_some_iff.1 h).1
  unfold ResAt at *
  rw [hg.block q hlt hne]
  exact h
theorem VarAt.grown {w w' : World} {q : Nat} {n : Int} {v : Value} {row : Option Nat} (h : VarAt w q n v) (hg : w.grownBy w' row) (hne : some q ≠ row) : VarAt w' q n v := h.block (hg.block q h.lt hne)

theorem VarAt.grown2 {w w' : World} {q : Nat} {n : Int} {v : Value} {row : Option Nat} (hg : w.grownBy w' row) (hne : some q ≠ row) (h : VarAt w q n v) : VarAt w' q n v := h.grown hg hne
/-- How far the document's loop has come. -/
structure ValInv (w w0 w1 wr : World) (T : List At) (vT ve : Value) (N : Int) (E : List ByteArray) : Prop where
  var : VarAt wr (w.heap.size + 1) N ve
  own : wr.ownsRow w1.heap.size 9 1 ve E.length (E.map Value.string)
  res : ResAt wr w.heap.size
  row : wr.ownsRow w0.heap.size 52 6 vT T.length (flat T)
  bel : Below w.heap.size w wr
  size : w1.heap.size ≤ wr.heap.size
  told : ∀ q, vT.ownBlock = some q → q < w1.heap.size
  z0 : w0.heap.size = w.heap.size + 1 + 1
  z1 : w0.heap.size ≤ w1.heap.size

theorem ValInv.count {w w0 w1 wr : World} {T : List At} {vT ve : Value} {N : Int} {E : List ByteArray} (m : Int) (h : ValInv w w0 w1 wr T vT ve N E) : ValInv w w0 w1 (wr.setCell ⟨w.heap.size + 1, 0, none⟩ (.int .i64 m)) T vT ve m E :=
  have z0 := h.z0
  have z1 := h.z1
  ⟨h.var.set0, owns_set h.own (by omega), h.res.other (by omega), owns_set h.row (by omega), h.bel.setCell (by simp) _, by simpa using h.size, h.told, h.z0, h.z1⟩
theorem ValInv.drew {w w0 w1 wr : World} {T : List At} {vT ve : Value} {N : Int} {E : List ByteArray} (h : ValInv w w0 w1 wr T vT ve N E) : ValInv w w0 w1 wr.drew T vT ve N E :=
  ⟨h.var, h.own, h.res, h.row, h.bel.drew, h.size, h.told, h.z0, h.z1⟩
theorem ValInv.drewN {w w0 w1 wr : World} {T : List At} {vT ve : Value} {N : Int} {E : List ByteArray} (h : ValInv w w0 w1 wr T vT ve N E) (q : Nat) : ValInv w w0 w1 (wr.drewN q) T vT ve N E :=
  ⟨h.var, h.own, h.res, h.row, below_drewN h.bel q, h.size, h.told, h.z0, h.z1⟩
theorem ValInv.to {w w0 w1 wr : World} {T : List At} {vT ve : Value} {N N' : Int} {E E' : List ByteArray} (h : ValInv w w0 w1 wr T vT ve N E) (hn : N' = N) (he : E' = E) : ValInv w w0 w1 wr T vT ve N' E' := by rw [hn, he]; exact h
theorem grown_undrew {w w' : World} {row : Option Nat} (h : w.drew.grownBy w' row) : w.grownBy w' row := ⟨h.os, h.tape, h.output, h.size, h.block⟩
/-- Behind an append to the elements, and its storing. -/
theorem ValInv.more {w w0 w1 wr w3 : World} {T : List At} {vT ve v3 : Value} {N : Int} {E : List ByteArray} {x : ByteArray} (h : ValInv w w0 w1 wr T vT ve N E)
    (hg2 : wr.grownBy w3 ve.ownBlock) (ho : w3.ownsRow w1.heap.size 9 1 v3 (E.length + 1) (E.map Value.string ++ [.string x])) :
    ValInv w w0 w1 (w3.setCell ⟨w.heap.size + 1, 1, none⟩ v3) T vT v3 N (E ++ [x]) := by
  have z0 := h.z0
  have z1 := h.z1
  have hsz := h.size
  have hne : ∀ q, q < w1.heap.size → some q ≠ ve.ownBlock := fun q hq => ne_own h.own q hq
  refine ⟨(h.var.grown hg2 (hne _ (by omega))).set1, ?_, (h.res.grown hg2 (hne _ (by omega))).other (by omega), owns_set (owns_kept h.row hg2 (fun q hq => hne q (h.told q hq))) (by omega), (h.bel.grown hg2 h.bel.size (fun q hq => by have := owns_base h.own q hq; omega)).setCell (by simp) _, by have := hg2.size; simp; omega, h.told, h.z0, h.z1⟩
  rw [List.length_append, List.map_append]
  exact owns_set ho (by omega)

set_option maxRecDepth 100000 in
set_option maxHeartbeats 4000000 in
theorem value_any (va : Value) (l : List At) (kind : Int) (key : ByteArray) (w : World) (h1 : SliceOf w va l) (hm : ∀ a ∈ l, mayB a = true) (hlen : l.length ≤ 549755813888) (htb : ∀ T, IsTold l T → T.length ≤ 4194304) (hk : key.size ≤ 1099511627776) (hki : 1 ≤ kind ∧ kind ≤ 5) :
    Calls Tryd.prog 50 #[va, .int .i64 kind, .string key] w fun e w' => ∃ T v', e = .returned (.agg #[.int .i64 (valN kind key T), v']) ∧ Hid (IsTold l T) ∧ Hid (w'.ownsRow w.heap.size 9 1 v' (valE T kind key T).length ((valE T kind key T).map Value.string)) ∧ Below w.heap.size w w' := by
  have HM : Hid (∀ a ∈ l, mayB a = true) := hm
  have HTB : Hid (∀ T, IsTold l T → T.length ≤ 4194304) := htb
  clear htb
  have HC1 : Hid (∀ W, Below w.heap.size w W → Calls Tryd.prog 37 #[va] W fun e w' => ∃ v' out, e = .returned v' ∧ w'.ownsRow W.heap.size 52 6 v' out.length (flat out) ∧ Hid (IsTold l out) ∧ Below W.heap.size W w') := fun W hW => told_any va l W (h1.below hW) (fun a ha => fits_of_may (HM.out a ha)) (by omega)
  obtain ⟨i0, hi, hz0, hz1, hz2⟩ := info_parts infoText
  clear h1 hm
  go_enter Tryd.func50, Tryd.ntmps50
  go_wp2_with fail
  have hb0 := below_alloc (below_alloc (Below.refl _ w) (.cells #[.int .i64 0, .slice none 0 0] 34)) (.cells #[.int .i64 0, .slice none 0 0] 34)
  have hz0' : ((w.alloc (.cells #[.int .i64 0, .slice none 0 0] 34)).alloc (.cells #[.int .i64 0, .slice none 0 0] 34)).heap.size = w.heap.size + 1 + 1 := by simp
  have hr0 : ResAt ((w.alloc (.cells #[.int .i64 0, .slice none 0 0] 34)).alloc (.cells #[.int .i64 0, .slice none 0 0] 34)) w.heap.size := by
    unfold ResAt
    rw [Below.heap_alloc _ _ _ (by simp)]
    exact heap_alloc_new w _
  have hv0 : VarAt ((w.alloc (.cells #[.int .i64 0, .slice none 0 0] 34)).alloc (.cells #[.int .i64 0, .slice none 0 0] 34)) (w.heap.size + 1) 0 (.slice none 0 0) := by
    have := heap_alloc_new (w.alloc (.cells #[.int .i64 0, .slice none 0 0] 34)) (.cells #[.int .i64 0, .slice none 0 0] 34)
    unfold VarAt
    simpa using this
  generalize (w.alloc (.cells #[.int .i64 0, .slice none 0 0] 34)).alloc (.cells #[.int .i64 0, .slice none 0 0] 34) = w0 at *
  refine (HC1.out w0 hb0).mono ?_
  rintro e w1 ⟨vT, T, rfl, hoT, hT, hb1⟩
  have hbw1 : Below w.heap.size w w1 := hb0.trans (hb1.mono hb0.size)
  have hr1 : Hid (ResAt w1 w.heap.size) := hr0.below hb1 (by omega)
  have hv1 : Hid (VarAt w1 (w.heap.size + 1) 0 (.slice none 0 0)) := hv0.block (hb1.block _ (by omega))
  have HMT : Hid (∀ a ∈ T, mayB a = true) := fun a ha => HM.out a (hT.out.great a ha).1
  have hTl := HTB.out T hT.out
  have HST : Hid (ValInv w w0 w1 w1 T vT (.slice none 0 0) (valN kind key (T.take 0)) (valE T kind key (T.take 0))) := ⟨by have := hv1.out; simpa [valN, ofKey] using this, by simp [valE, ofKey, World.ownsRow], hr1.out, hoT, hbw1, Nat.le_refl _, own_lt hoT, hz0', hb1.size⟩
  obtain ⟨adT, capT, rfl⟩ := own_form hoT
  clear HC1 hr0 hv0 hb1 hoT hr1 hv1
  go_wp2
  go_loopw [9] (fun j wr => ∃ (k : Nat) (ve : Value), k ≤ T.length ∧ j = .int .i64 k ∧ Hid (ValInv w w0 w1 wr T (.slice adT T.length capT) ve (valN kind key (T.take k)) (valE T kind key (T.take k)))) (fun j _ => T.length - (intOf j).toNat)
  case atStart => exact ⟨0, .slice none 0 0, Nat.zero_le _, rfl, HST⟩
  case round =>
    obtain ⟨k, ve, hkT, rfl, hinv⟩ := hrel
    by_cases hkl : k < T.length
    · obtain ⟨ad', cap', e', -, HS⟩ := sliceOf_owns rfl hinv.out.row
      cases e'
      obtain ⟨b, off, rfl, hb, hrow⟩ := HS (by omega)
      obtain ⟨c0, c1, c2, c3, c4, c5⟩ := hrow.nth hkl
      have hxm := HMT.out _ (nth_mem T k hkl)
      have hsn : T.take (k + 1) = T.take k ++ [nth T k] := by rw [List.take_succ_eq_append_getElem hkl, nth_eq T k hkl]
      have hbnd := svs_bound (l := ofKey (T.take k) kind key) (fun a ha => HMT.out a (List.mem_of_mem_take (mem_ofKey.1 ha).1))
      have hokl : (ofKey (T.take k) kind key).length ≤ T.length := by
        unfold ofKey
        refine Nat.le_trans (List.length_filter_le _ _) ?_
        rw [List.length_take]
        omega
      have HTV : Hid (kind = 1 ∨ kind = 2 → svs (ofKey (T.take k) kind key) = valN kind key (T.take k)) := fun h => (total_val (T := T.take k) (kind := kind) (key := key) (fun a ha => HMT.out a (List.mem_of_mem_take ha)) h).1
      have hle := valE_length T (T.take k) kind key
      rw [List.length_take] at hle
      obtain ⟨d0, d1, f0, f1⟩ := hinv.out.var.cells
      obtain ⟨ade, cpe, hve⟩ := own_form hinv.out.own
      have q1 : (0 : Int) ≤ (k : Int) := by omega
      have q2 : (k : Int) < (T.length : Int) := by omega
      have HXT : Hid (nth T k ∈ T) := nth_mem T k hkl
      obtain ⟨x, HXX⟩ : ∃ x, nth T k = x := ⟨_, rfl⟩
      rw [HXX] at c0 c1 c2 c3 c4 c5 hxm hsn HXT
      clear hrow HS
      by_cases hkx : x.ty = kind ∧ x.key = key
      · obtain ⟨rfl, rfl⟩ := hkx
        have hcase : x.ty = 1 ∨ x.ty = 2 ∨ x.ty = 3 ∨ x.ty = 4 ∨ x.ty = 5 := by omega
        obtain ⟨ty, xkey, side, who, elem, n⟩ := x
        simp only at *
        rcases hcase with rfl | rfl | rfl | rfl | rfl
        · have hxs : side = 0 ∧ 0 ≤ n ∧ n ≤ 2147483647 := by simp only [mayB, decide_eq_true_eq] at hxm; omega
          obtain ⟨rfl, hn0, hn1⟩ := hxs
          rw [HTV.out (by omega)] at hbnd
          have hN : valN 1 xkey (T.take (k + 1)) = valN 1 xkey (T.take k) + n := by rw [hsn, valN_sum (T.take k) ⟨1, xkey, 0, who, elem, n⟩ 1 xkey ⟨rfl, rfl⟩ (.inl rfl)]; simp
          have hE : valE T 1 xkey (T.take (k + 1)) = valE T 1 xkey (T.take k) := by rw [hsn, valE_snoc, if_neg (by simp [keepsE])]
          have HN : Hid (valN 1 xkey (T.take (k + 1)) = valN 1 xkey (T.take k) + n) := hN
          have HE : Hid (valE T 1 xkey (T.take (k + 1)) = valE T 1 xkey (T.take k)) := hE
          clear hN hE HTV hsn
          generalize hNN : valN 1 xkey (T.take k) = N at *
          have HNN : Hid (valN 1 xkey (T.take k) = N) := hNN
          clear hNN
          go_wp2
          go_region
          go_wp2
          exact ⟨⟨k + 1, ve, by omega, by go_num, ((hinv.out.count _).drew).to HN.out HE.out⟩, by simp [intOf]; omega⟩
        · have hxs : (side = 0 ∨ side = 1) ∧ 0 ≤ n ∧ n ≤ 2147483647 := by simp only [mayB, decide_eq_true_eq] at hxm; omega
          obtain ⟨hsd, hn0, hn1⟩ := hxs
          rw [HTV.out (by omega)] at hbnd
          have HN : Hid (valN 2 xkey (T.take (k + 1)) = valN 2 xkey (T.take k) + n * (1 - 2 * side)) := by rw [Hid, hsn, valN_sum (T.take k) ⟨2, xkey, side, who, elem, n⟩ 2 xkey ⟨rfl, rfl⟩ (.inr rfl)]
          have HE : Hid (valE T 2 xkey (T.take (k + 1)) = valE T 2 xkey (T.take k)) := by rw [Hid, hsn, valE_snoc, if_neg (by simp [keepsE])]
          clear HTV hsn
          generalize valN 2 xkey (T.take k) = N at *
          rcases hsd with rfl | rfl
          · go_wp2
            go_region
            go_wp2
            refine ⟨⟨k + 1, ve, by omega, by go_num, ((hinv.out.count _).drew).to ?_ HE.out⟩, by simp [intOf]; omega⟩
            rw [HN.out]
            omega
          · go_wp2
            go_region
            go_wp2
            refine ⟨⟨k + 1, ve, by omega, by go_num, ((hinv.out.count _).drew).to ?_ HE.out⟩, by simp [intOf]; omega⟩
            rw [HN.out]
            omega
        · have HN : Hid (valN 3 xkey (T.take (k + 1)) = valN 3 xkey (T.take k)) := by rw [Hid, valN_set _ _ _ (.inl rfl), valN_set _ _ _ (.inl rfl)]
          have HE : Hid (valE T 3 xkey (T.take (k + 1)) = valE T 3 xkey (T.take k) ++ [elem]) := by rw [Hid, hsn, valE_snoc, if_pos ⟨⟨rfl, rfl⟩, by simp [keepsE]⟩]
          have hown := hinv.out.own
          have hsb := hinv.out.size
          clear HTV hsn hbnd hokl
          generalize hee : valE T 3 xkey (T.take k) = ee at *
          have HEE : Hid (valE T 3 xkey (T.take k) = ee) := hee
          clear hee
          subst hve
          have hvar := hinv.out.var
          have hlq := hvar.lt
          have hneq : some (w.heap.size + 1) ≠ (Value.slice ade ee.length cpe).ownBlock := ne_own hown _ (by have := hinv.out.z0; have := hinv.out.z1; omega)
          go_wp2
          go_region_law (refine step_append_lies _ rfl _ _ 32 rfl w1.heap.size 9 i0 _ 1 16 Tryd.underlying32 hi hz0 hz1 hz2 rfl (by decide) _ ee.length _ rfl (hown.alloc _) ⟨wr.heap.size, 0, none⟩ 1 1 [.string elem] rfl rfl (World.news_of_block (heap_alloc_new wr _)) (by simp [Value.oneCell']) (by decide) (by unfold maxLen; omega) (by omega) (by simp; omega) (wr.heap.size + 1) (by simp) ?_; intro g capn w3 hown3 hgrow3 hat3 hlt3; obtain ⟨-, e1, -, g1⟩ := (VarAt.grown2 hgrow3 hneq (VarAt.block hvar (Below.heap_alloc wr _ _ hlq))).cells)
          all_goals go_wp2
          all_goals exact ⟨⟨k + 1, _, by omega, by go_num, (hinv.out.more (grown_trans (World.grownBy_alloc _ _ _) (grown_undrew hgrow3)) hown3).to HN.out HE.out⟩, by simp [intOf]; omega⟩
        · have HN : Hid (valN 4 xkey (T.take (k + 1)) = valN 4 xkey (T.take k)) := by rw [Hid, valN_set _ _ _ (.inr rfl), valN_set _ _ _ (.inr rfl)]
          have HE1 : Hid (side ≠ 1 ∧ isGone T xkey elem = false → valE T 4 xkey (T.take (k + 1)) = valE T 4 xkey (T.take k) ++ [elem]) := fun h => by rw [hsn, valE_snoc, if_pos ⟨⟨rfl, rfl⟩, by simp [keepsE, h.1, h.2]⟩]
          have HE2 : Hid (¬ (side ≠ 1 ∧ isGone T xkey elem = false) → valE T 4 xkey (T.take (k + 1)) = valE T 4 xkey (T.take k)) := fun h => by
            rw [hsn, valE_snoc, if_neg (fun hc => h ?_)]
            have := hc.2
            simpa [keepsE] using this
          have HXN : Hid (nth T k = ⟨4, xkey, side, who, elem, n⟩) := HXX
          clear HTV hsn hbnd hokl
          generalize valE T 4 xkey (T.take k) = ee at *
          go_wp2
          go_loopw [10, 11] (fun g j w' => ∃ m : Nat, m ≤ T.length ∧ j = .int .i64 m ∧ Hid (g = .bool (decide (side = 1) || isGone (T.take m) xkey elem)) ∧ Hid (ValInv w w0 w1 w' T (.slice (some ⟨b, off, none⟩) T.length capT) ve (valN 4 xkey (T.take k)) ee)) (fun _ j _ => T.length - (intOf j).toNat)
          case atStart => exact ⟨0, Nat.zero_le _, rfl, by by_cases h : side = 1 <;> simp [Hid, isGone, h], hinv⟩
          case round =>
            obtain ⟨m, hmT, rfl, hg, hinv2⟩ := hrel
            by_cases hml : m < T.length
            · obtain ⟨ad', cap', e', -, HS⟩ := sliceOf_owns rfl hinv2.out.row
              cases e'
              obtain ⟨b', off', e', hb', hrow'⟩ := HS (by omega)
              cases e'
              have hxc := hrow'.nth hkl
              rw [HXN.out] at hxc
              obtain ⟨x0, x1, x2, x3, x4, x5⟩ := hxc
              obtain ⟨y0, y1, y2, y3, y4, y5⟩ := hrow'.nth hml
              have hgs : isGone (T.take (m + 1)) xkey elem = (isGone (T.take m) xkey elem || decide ((nth T m).ty = 4 ∧ (nth T m).key = xkey ∧ (nth T m).side = 1 ∧ (nth T m).elem = elem)) := by
                unfold isGone
                rw [List.take_succ_eq_append_getElem hml, nth_eq T m hml, List.any_append]
                simp
              have r1 : (0 : Int) ≤ (m : Int) := by omega
              have r2 : (m : Int) < (T.length : Int) := by omega
              generalize nth T m = y at *
              obtain ⟨yt, yk, ys, yw, ye, yn⟩ := y
              simp only at *
              obtain rfl := hg.out
              have HGS : Hid (isGone (T.take (m + 1)) xkey elem = (isGone (T.take m) xkey elem || decide (yt = 4 ∧ yk = xkey ∧ ys = 1 ∧ ye = elem))) := hgs
              clear hgs hrow' HS hg hinv c0 c1 c2 c3 c4 c5 d0 d1 f0 f1 hxm hle hi hz0 hz1 hz2 HST hT HMT HN HE1 HE2 HM
              generalize hgb : (decide (side = 1) || isGone (T.take m) xkey elem) = gb at *
              by_cases hall : yt = 4 ∧ yk = xkey ∧ ys = 1 ∧ ye = elem
              · have HG2 : Hid (true = (decide (side = 1) || isGone (T.take (m + 1)) xkey elem)) := by rw [Hid, HGS.out, decide_eq_true hall]; simp
                obtain ⟨rfl, rfl, rfl, rfl⟩ := hall
                clear hgb HGS
                go_wp2
                go_big_quiet (fail)
                go_wp2
                exact ⟨⟨m + 1, by omega, by go_num, congrArg Value.bool HG2.out, hinv2.out.drewN _⟩, by simp [intOf]; omega⟩
              · have HG2 : Hid (gb = (decide (side = 1) || isGone (T.take (m + 1)) xkey elem)) := by rw [Hid, HGS.out, decide_eq_false hall, Bool.or_false]; exact hgb.symm
                clear hgb HGS
                by_cases h1 : yt = 4
                · by_cases h2 : yk = xkey
                  · by_cases h3 : ys = 1
                    · have h4 := str_ne2 (fun e => hall ⟨h1, h2, h3, e⟩)
                      subst h1 h2 h3
                      go_wp2
                      go_big_quiet (fail)
                      go_wp2
                      exact ⟨⟨m + 1, by omega, by go_num, congrArg Value.bool HG2.out, hinv2.out.drewN _⟩, by simp [intOf]; omega⟩
                    · subst h1 h2
                      go_wp2
                      have h5 : decide (ys = 1) = false := decide_eq_false h3
                      have h6 : (ys == 1) = false := by simpa using h3
                      go_big_quiet (fail)
                      go_wp2
                      exact ⟨⟨m + 1, by omega, by go_num, congrArg Value.bool HG2.out, hinv2.out.drewN _⟩, by simp [intOf]; omega⟩
                  · have h4 := str_ne2 h2
                    subst h1
                    go_wp2
                    go_big_quiet (fail)
                    go_wp2
                    exact ⟨⟨m + 1, by omega, by go_num, congrArg Value.bool HG2.out, hinv2.out.drewN _⟩, by simp [intOf]; omega⟩
                · go_wp2
                  have h5 : decide (yt = 4) = false := decide_eq_false h1
                  have h6 : (yt == 4) = false := by simpa using h1
                  go_big_quiet (fail)
                  go_wp2
                  exact ⟨⟨m + 1, by omega, by go_num, congrArg Value.bool HG2.out, hinv2.out.drewN _⟩, by simp [intOf]; omega⟩
            · have hgm : isGone (T.take m) xkey elem = isGone T xkey elem := by rw [List.take_of_length_le (by omega)]
              obtain rfl := hg.out
              rw [hgm]
              have hown := hinv2.out.own
              have hsb := hinv2.out.size
              have hvar := hinv2.out.var
              obtain ⟨ad', cap', e', -, HS⟩ := sliceOf_owns rfl hinv2.out.row
              cases e'
              obtain ⟨b', off', e', hb', hrow'⟩ := HS (by omega)
              cases e'
              have hxc := hrow'.nth hkl
              rw [HXN.out] at hxc
              obtain ⟨x0, x1, x2, x3, x4, x5⟩ := hxc
              obtain ⟨-, d1', -, f1'⟩ := hvar.cells
              have hlq := hvar.lt
              clear hrow' HS hg hinv hgm
              cases hdec : (decide (side = 1) || isGone T xkey elem) with
              | true =>
                have HE : Hid (valE T 4 xkey (T.take (k + 1)) = ee) := HE2.out (fun h => by rw [decide_eq_false h.1, h.2] at hdec; cases hdec)
                clear hdec HE1 HE2
                go_wp2
                exact ⟨⟨k + 1, ve, by omega, by go_num, hinv2.out.to HN.out HE.out⟩, by simp [intOf]; omega⟩
              | false =>
                have HE : Hid (valE T 4 xkey (T.take (k + 1)) = ee ++ [elem]) := HE1.out (by
                  rw [Bool.or_eq_false_iff] at hdec
                  exact ⟨of_decide_eq_false hdec.1, hdec.2⟩)
                clear hdec HE1 HE2
                subst hve
                have hneq : some (w.heap.size + 1) ≠ (Value.slice ade ee.length cpe).ownBlock := ne_own hown _ (by have := hinv2.out.z0; have := hinv2.out.z1; omega)
                go_wp2
                go_region_law (refine step_append_lies _ rfl _ _ 32 rfl w1.heap.size 9 i0 _ 1 16 Tryd.underlying32 hi hz0 hz1 hz2 rfl (by decide) _ ee.length _ rfl (hown.alloc _) ⟨wr.heap.size, 0, none⟩ 1 1 [.string elem] rfl rfl (World.news_of_block (heap_alloc_new wr _)) (by simp [Value.oneCell']) (by decide) (by unfold maxLen; omega) (by omega) (by simp; omega) (wr.heap.size + 1) (by simp) ?_; intro g capn w3 hown3 hgrow3 hat3 hlt3; obtain ⟨-, e1, -, g1⟩ := (VarAt.grown2 hgrow3 hneq (VarAt.block hvar (Below.heap_alloc wr _ _ hlq))).cells)
                all_goals go_wp2
                all_goals exact ⟨⟨k + 1, _, by omega, by go_num, (hinv2.out.more (grown_trans (World.grownBy_alloc _ _ _) (grown_undrew hgrow3)) hown3).to HN.out HE.out⟩, by simp [intOf]; omega⟩
        · have HN : Hid (valN 5 xkey (T.take (k + 1)) = n) := by rw [Hid, hsn]; exact valN_last (T.take k) ⟨5, xkey, side, who, elem, n⟩ xkey ⟨rfl, rfl⟩
          have HE : Hid (valE T 5 xkey (T.take (k + 1)) = valE T 5 xkey (T.take k) ++ [elem]) := by rw [Hid, hsn, valE_snoc, if_pos ⟨⟨rfl, rfl⟩, by simp [keepsE]⟩]
          have hbq : w0.heap.size ≤ b := owns_base hinv.out.row b rfl
          have hz0b := hinv.out.z0
          have hbq2 : b ≠ w.heap.size + 1 := by omega
          have hinv5 := hinv.out.count n
          have hown := hinv5.own
          have hsb := hinv5.size
          have c4' : (wr.setCell ⟨w.heap.size + 1, 0, none⟩ (.int .i64 n)).cell? ⟨b, off + k * 6 + 4, none⟩ = some (.string elem) := (World.cell?_setCell_other _ _ _ _ (fun e => hbq2 (by cases e))).trans c4
          obtain ⟨-, d1', -, f1'⟩ := hinv5.var.cells
          have hszs : (wr.setCell ⟨w.heap.size + 1, 0, none⟩ (.int .i64 n)).heap.size = wr.heap.size := by simp
          clear HTV hsn hbnd hokl
          generalize valE T 5 xkey (T.take k) = ee at *
          subst hve
          have hvar := hinv5.var
          have hlq := hvar.lt
          have hneq : some (w.heap.size + 1) ≠ (Value.slice ade ee.length cpe).ownBlock := ne_own hown _ (by have := hinv5.z0; have := hinv5.z1; omega)
          go_wp2
          generalize wr.setCell ⟨w.heap.size + 1, 0, none⟩ (.int .i64 n) = w5 at *
          clear hszs
          go_region_law (refine step_append_lies _ rfl _ _ 32 rfl w1.heap.size 9 i0 _ 1 16 Tryd.underlying32 hi hz0 hz1 hz2 rfl (by decide) _ ee.length _ rfl (hown.alloc _) ⟨w5.heap.size, 0, none⟩ 1 1 [.string elem] rfl rfl (World.news_of_block (heap_alloc_new w5 _)) (by simp [Value.oneCell']) (by decide) (by unfold maxLen; omega) (by omega) (by simp; omega) (w5.heap.size + 1) (by simp) ?_; intro g capn w3 hown3 hgrow3 hat3 hlt3; obtain ⟨-, e1, -, g1⟩ := (VarAt.grown2 hgrow3 hneq (VarAt.block hvar (Below.heap_alloc w5 _ _ hlq))).cells)
          all_goals go_wp2
          all_goals exact ⟨⟨k + 1, _, by omega, by go_num, (hinv5.more (grown_trans (World.grownBy_alloc _ _ _) (grown_undrew hgrow3)) hown3).to HN.out HE.out⟩, by simp [intOf]; omega⟩
      · have HVN : Hid (valN kind key (T.take (k + 1)) = valN kind key (T.take k)) := by rw [Hid, hsn]; exact valN_skip _ _ _ _ hkx
        have HVE : Hid (valE T kind key (T.take (k + 1)) = valE T kind key (T.take k)) := by rw [Hid, hsn, valE_snoc, if_neg (fun h => hkx h.1)]
        have HI2 : Hid (ValInv w w0 w1 wr T (.slice (some ⟨b, off, none⟩) T.length capT) ve (valN kind key (T.take (k + 1))) (valE T kind key (T.take (k + 1)))) := hinv.out.to HVN.out HVE.out
        clear HVN HVE hsn hinv
        by_cases hty : x.ty = kind
        · have hke : ¬ x.key = key := fun e => hkx ⟨hty, e⟩
          have hke2 := str_ne2 hke
          subst hty
          go_wp2
          exact ⟨⟨k + 1, ve, by omega, by go_num, HI2⟩, by simp [intOf]; omega⟩
        · go_wp2
          exact ⟨⟨k + 1, ve, by omega, by go_num, HI2⟩, by simp [intOf]; omega⟩
    · have hkk : T.take k = T := List.take_of_length_le (by omega)
      have hinv' := hinv.out
      rw [hkk] at hinv'
      have HI : Hid (ValInv w w0 w1 wr T (.slice adT T.length capT) ve (valN kind key T) (valE T kind key T)) := hinv'
      obtain ⟨d0, d1, f0, f1⟩ := hinv'.var.cells
      obtain ⟨r0, r1, g0, g1⟩ := hinv'.res.cells
      obtain ⟨ade, cpe, hve⟩ := own_form hinv'.own
      subst hve
      have q2 : ¬ (k : Int) < (T.length : Int) := by omega
      clear hinv hinv' hkk HST
      go_wp2
      have z0 := HI.out.z0
      have z1 := HI.out.z1
      refine bodyPost_ret (v := .agg #[.int .i64 (valN kind key T), .slice ade (valE T kind key T).length cpe]) ?_ rfl ⟨T, _, rfl, hT, owns_mono (owns_set (owns_set HI.out.own (by omega)) (by omega)) (by omega), (HI.out.bel.setCell (Nat.le_refl _) _).setCell (Nat.le_refl _) _⟩
      simp [results, Tryd.results50, go_sem, r0, r1]
end Go.Proofs.YtahdlejgjcjeoaaDoor

namespace Go.Proofs.YtahdlejgjcjeoaaDoor
open Go.RowKit

set_option maxRecDepth 100000 in
set_option maxHeartbeats 1000000 in
theorem refRead_any (v : Value) (l : List At) (kind : Int) (key : ByteArray) (w : World) (h1 : SliceOf w v l) (hs1 : ∀ a ∈ l, short a) (hlen : l.length ≤ 549755813888) (htb : ∀ T, IsTold l T → T.length ≤ 4194304) (hk : key.size ≤ 1099511627776) :
    Calls Tryd.prog 20 #[v, .int .i64 kind, .string key] w fun e w' => ∃ n v' es, e = .returned (.tuple #[.agg #[.int .i64 n, v'], .int .i64 (readCode l kind)]) ∧ w'.ownsRow w.heap.size 9 1 v' es.length (es.map Value.string) ∧ Hid (ReadSpec l kind key n es) ∧ Below w.heap.size w w' := by
  have HC1 : Hid (∀ W, Below w.heap.size w W → Calls Tryd.prog 35 #[v] W fun e w' => e = .returned (.bool (l.all mayB)) ∧ Below W.heap.size W w') := fun W hW => mays_any v l W (h1.below hW) hs1 (by omega)
  have HC2 : Hid (l.all mayB = true → 1 ≤ kind ∧ kind ≤ 5 → ∀ W, Below w.heap.size w W → Calls Tryd.prog 50 #[v, .int .i64 kind, .string key] W fun e w' => ∃ T v', e = .returned (.agg #[.int .i64 (valN kind key T), v']) ∧ Hid (IsTold l T) ∧ Hid (w'.ownsRow W.heap.size 9 1 v' (valE T kind key T).length ((valE T kind key T).map Value.string)) ∧ Below W.heap.size W w') := fun hl hki W hW => value_any v l kind key W (h1.below hW) (List.all_eq_true.1 hl) hlen htb hk hki
  clear h1 hs1 htb
  go_enter Tryd.func20, Tryd.ntmps20
  go_wp2_with fail
  have hb0 := below_alloc (Below.refl _ w) (.cells #[.int .i64 0, .slice none 0 0] 34)
  have hz0 : (w.alloc (.cells #[.int .i64 0, .slice none 0 0] 34)).heap.size = w.heap.size + 1 := by simp
  have hr0 : ResAt (w.alloc (.cells #[.int .i64 0, .slice none 0 0] 34)) w.heap.size := heap_alloc_new w _
  generalize w.alloc (.cells #[.int .i64 0, .slice none 0 0] 34) = w0 at *
  refine (HC1.out w0 hb0).mono ?_
  rintro e w1 ⟨rfl, hb1⟩
  have hbw1 : Below w.heap.size w w1 := hb0.trans (hb1.mono hb0.size)
  have hr1 : ResAt w1 w.heap.size := hr0.below hb1 (by omega)
  have hsz1 := hb1.size
  clear HC1 hr0 hb1
  cases hl : l.all mayB
  · have HCD : Hid (readCode l kind = 1) := by rw [Hid]; unfold readCode; rw [hl]; rfl
    obtain ⟨c0, c1, f0, f1⟩ := hr1.cells
    clear HC2 hl
    go_wp2
    refine bodyPost_ret (v := .tuple #[.agg #[.int .i64 0, .slice none 0 0], .int .i64 1]) ?_ rfl ⟨0, _, [], by rw [HCD.out], ⟨rfl, .inl ⟨rfl, rfl⟩⟩, .inr ⟨by rw [HCD.out]; omega, rfl, rfl⟩, ?_⟩
    · simp [results, Tryd.results20, go_sem, c0, c1]
    · exact (hbw1.setCell (Nat.le_refl _) _).setCell (Nat.le_refl _) _
  · by_cases hki : 1 ≤ kind ∧ kind ≤ 5
    · have hc : readCode l kind = 0 := by unfold readCode; rw [hl, if_pos rfl, if_pos hki]
      have HML : Hid (∀ a ∈ l, mayB a = true) := List.all_eq_true.1 hl
      have HCD : Hid (readCode l kind = 0) := hc
      have hcv := HC2.out hl hki w1 hbw1
      have HR1 : Hid (ResAt w1 w.heap.size) := hr1
      clear HC2 hl hr1 hc
      go_wp2_with fail
      refine hcv.mono ?_
      rintro e w2 ⟨T, v', rfl, hT, ho, hb2⟩
      obtain ⟨c0, c1, f0, f1⟩ := (HR1.out.below hb2 (by omega)).cells
      have hbw2 : Below w.heap.size w w2 := hbw1.trans (hb2.mono hbw1.size)
      obtain ⟨ad, cp, hv⟩ := own_form ho.out
      subst hv
      clear hcv HR1
      go_wp2
      refine bodyPost_ret (v := .tuple #[.agg #[.int .i64 (valN kind key T), .slice ad (valE T kind key T).length cp], .int .i64 0]) ?_ rfl ⟨_, _, _, by rw [HCD.out], owns_mono (owns_set (owns_set ho.out (by omega)) (by omega)) (by omega), .inl ⟨HCD.out, HML.out, T, hT.out, rfl, rfl⟩, (hbw2.setCell (Nat.le_refl _) _).setCell (Nat.le_refl _) _⟩
      simp [results, Tryd.results20, go_sem, c0, c1]
    · have hc : readCode l kind = 6 := by unfold readCode; rw [hl, if_pos rfl, if_neg hki]
      obtain ⟨c0, c1, f0, f1⟩ := hr1.cells
      have HCD : Hid (readCode l kind = 6) := hc
      clear HC2 hl hc
      by_cases h1 : kind < 1
      · go_wp2
        refine bodyPost_ret (v := .tuple #[.agg #[.int .i64 0, .slice none 0 0], .int .i64 6]) ?_ rfl ⟨0, _, [], by rw [HCD.out], ⟨rfl, .inl ⟨rfl, rfl⟩⟩, .inr ⟨by rw [HCD.out]; omega, rfl, rfl⟩, ?_⟩
        · simp [results, Tryd.results20, go_sem, c0, c1]
        · exact (hbw1.setCell (Nat.le_refl _) _).setCell (Nat.le_refl _) _
      · have h5 : 5 < kind := by omega
        have h1' : 1 ≤ kind := by omega
        go_wp2
        refine bodyPost_ret (v := .tuple #[.agg #[.int .i64 0, .slice none 0 0], .int .i64 6]) ?_ rfl ⟨0, _, [], by rw [HCD.out], ⟨rfl, .inl ⟨rfl, rfl⟩⟩, .inr ⟨by rw [HCD.out]; omega, rfl, rfl⟩, ?_⟩
        · simp [results, Tryd.results20, go_sem, c0, c1]
        · exact (hbw1.setCell (Nat.le_refl _) _).setCell (Nat.le_refl _) _
end Go.Proofs.YtahdlejgjcjeoaaDoor

namespace Go.Proofs.YtahdlejgjcjeoaaDoor
open Go.RowKit

/-- A slice of n elements of s cells, each of them c. -/
def MarkRow (w : World) (v : Value) (s n : Nat) (c : List Value) : Prop :=
  ∃ ad cap, v = .slice ad n cap ∧ n ≤ cap ∧ (0 < n → ∃ b off, ad = some ⟨b, off, none⟩ ∧ b < w.heap.size ∧ ∀ i, i < n → ∀ j u, c[j]? = some u → w.cell? ⟨b, off + i * s + j, none⟩ = some u)
theorem MarkRow.grown {w w' : World} {v : Value} {s n : Nat} {c : List Value} {row : Option Nat} (h : MarkRow w v s n c) (hg : w.grownBy w' row) (hne : ∀ q, v.ownBlock = some q → some q ≠ row) : MarkRow w' v s n c := by
  obtain ⟨ad, cap, rfl, hcap, H⟩ := h
  refine ⟨ad, cap, rfl, hcap, fun h0 => ?_⟩
  obtain ⟨b, off, rfl, hlt, hrow⟩ := H h0
  have hb : some b ≠ row := hne b rfl
  exact ⟨b, off, rfl, Nat.lt_of_lt_of_le hlt hg.size, fun i hi j u hu => hg.cell (hrow i hi j u hu) hb⟩

/-- The same cells n times. -/
def reps (n : Nat) (c : List Value) : List Value := (List.replicate n c).flatten
theorem reps_succ (n : Nat) (c : List Value) : reps (n + 1) c = reps n c ++ c := by
  unfold reps
  rw [List.replicate_succ', List.flatten_append]
  simp
theorem reps_length (n : Nat) (c : List Value) : (reps n c).length = n * c.length := by
  induction n with
  | zero => simp [reps]
  | succ n ih => rw [reps_succ, List.length_append, ih, Nat.succ_mul]
theorem reps_get {n : Nat} {c : List Value} {i j : Nat} {u : Value} (hi : i < n) (hu : c[j]? = some u) : (reps n c)[i * c.length + j]? = some u := by
  have hj : j < c.length := (List.getElem?_eq_some_iff.1 hu).1
  induction n with
  | zero => omega
  | succ n ih =>
    rw [reps_succ]
    by_cases h : i < n
    · have h1 := ih h
      have h2 : i * c.length + j < (reps n c).length := (List.getElem?_eq_some_iff.1 h1).1
      rw [List.getElem?_append_left h2]
      exact h1
    · obtain rfl : i = n := by omega
      rw [List.getElem?_append_right (by rw [reps_length]; omega), reps_length, Nat.add_sub_cancel_left]
      exact hu
theorem markRow_owns {w : World} {base : Nat} {e : TypeId} {v : Value} {n : Nat} {c : List Value} (h : w.ownsRow base e c.length v n (reps n c)) : MarkRow w v c.length n c := by
  rcases h.2 with ⟨rfl, rfl⟩ | ⟨g, cap, cur, rfl, hg, hb, h1, h2, h3, h4⟩
  · exact ⟨none, 0, rfl, Nat.le_refl _, fun h => by omega⟩
  · refine ⟨_, cap, rfl, h1, fun _ => ⟨g, 0, rfl, (Array.getElem?_eq_some_iff.1 hb).1, fun i hi j u hu => ?_⟩⟩
    have hx := reps_get hi hu
    have hlt := (List.getElem?_eq_some_iff.1 hx).1
    rw [reps_length] at hlt
    rw [← h4, List.getElem?_take, if_pos hlt, Array.getElem?_toList] at hx
    rw [Nat.zero_add]
    simp [World.cell?, hb, hx]

/-- Digits, the lowest first. -/
def digs : Nat → Nat → List UInt8
  | 0, _ => []
  | f + 1, k => if k = 0 then [] else UInt8.ofNat (48 + k % 10) :: digs f (k / 10)
/-- The k-th text. -/
def markT (k : Nat) : ByteArray := bstr ([109, 97, 114, 107, 32] ++ digs 20 k)

/-- The four kinds of lists: what the book keeps of one, what one is made of. -/
def eT : Nat → TypeId
  | 0 => 96
  | 1 => 100
  | 2 => 94
  | _ => 103
def elT : Nat → TypeId
  | 0 => 52
  | 1 => 3
  | 2 => 9
  | _ => 105
def mkC : Nat → Int → List Value
  | 0, k => enc (mark k)
  | 1, k => [.int .i64 (-1 - k)]
  | 2, k => [.string (markT k.toNat)]
  | _, k => [.int .i64 (-1 - k), .int .i64 0, .slice none 0 0]
def szC : Nat → Nat
  | 0 => 6
  | 1 => 1
  | 2 => 1
  | _ => 3
theorem mkC_length : ∀ (f : Nat) (k : Int), (mkC f k).length = szC f
  | 0, _ => rfl
  | 1, _ => rfl
  | 2, _ => rfl
  | _ + 3, _ => rfl

def updF {α : Type} (g : Nat → α) (f : Nat) (x : α) : Nat → α := fun j => if j = f then x else g j
theorem updF_same {α : Type} (g : Nat → α) (f : Nat) (x : α) : updF g f x f = x := if_pos rfl
theorem updF_other {α : Type} (g : Nat → α) {f j : Nat} (x : α) (h : j ≠ f) : updF g f x j = g j := if_neg h
theorem updF_updF {α : Type} (g : Nat → α) (f : Nat) (x y : α) : updF (updF g f x) f y = updF g f y := by
  funext j
  unfold updF
  split <;> rfl
theorem updF_self {α : Type} (g : Nat → α) (f : Nat) : updF g f (g f) = g := by
  funext j
  unfold updF
  split
  · rename_i h; rw [h]
  · rfl

structure Bk (w : World) (B : Nat) (va : Nat → Value) (es : Nat → List (Value × Int)) : Prop where
  c : ∀ f, f < 4 → w.cell? ⟨B, f, none⟩ = some (va f)
  fz : ∀ o, w.frozen? ⟨B, o, none⟩ = false
  row : ∀ f, f < 4 → w.ownsRow (B + 1) (eT f) 2 (va f) (es f).length (flatE (es f))
  good : ∀ f, f < 4 → ∀ p ∈ es f, ∃ n, n ≤ 16777216 ∧ MarkRow w p.1 (szC f) n (mkC f p.2)
  bnd : ∀ f, f < 4 → ∀ p ∈ es f, 0 ≤ p.2 ∧ p.2 ≤ 1000000
  sep : ∀ f, f < 4 → ∀ p ∈ es f, ∀ q, p.1.ownBlock = some q → q < w.heap.size ∧ q ≠ B ∧ ∀ j, j < 4 → some q ≠ (va j).ownBlock
  apart : ∀ f j, f < 4 → j < 4 → f ≠ j → ∀ q, (va f).ownBlock = some q → (va j).ownBlock ≠ some q
  cross : ∀ f j, f < 4 → j < 4 → f ≠ j → ∀ p ∈ es f, ∀ p' ∈ es j, ∀ q, p.1.ownBlock = some q → p'.1.ownBlock ≠ some q

theorem Bk.lt {w : World} {B : Nat} {va : Nat → Value} {es : Nat → List (Value × Int)} (h : Bk w B va es) : B < w.heap.size := by
  obtain ⟨c, e, fr, hb, _⟩ := Go.Sort.cells_of_cell? (h.c 0 (by decide))
  exact (Array.getElem?_eq_some_iff.1 hb).1
theorem Bk.kept {w w' : World} {B : Nat} {va : Nat → Value} {es : Nat → List (Value × Int)} {row : Option Nat} (h : Bk w B va es) (hg : w.grownBy w' row) (hB : some B ≠ row) (hva : ∀ f, f < 4 → ∀ q, (va f).ownBlock = some q → some q ≠ row) (hes : ∀ f, f < 4 → ∀ p ∈ es f, ∀ q, p.1.ownBlock = some q → some q ≠ row) : Bk w' B va es where
  c f hf := hg.cell (h.c f hf) hB
  fz o := by rw [← h.fz o]; exact World.frozen?_of_block (w := w) (hg.block B h.lt hB)
  row f hf := owns_grown' (h.row f hf) hg (hva f hf)
  good f hf p hp := by obtain ⟨n, hnb, hn⟩ := h.good f hf p hp; exact ⟨n, hnb, hn.grown hg (hes f hf p hp)⟩
  bnd := h.bnd
  sep f hf p hp q hq := ⟨Nat.lt_of_lt_of_le (h.sep f hf p hp q hq).1 hg.size, (h.sep f hf p hp q hq).2⟩
  apart := h.apart
  cross := h.cross
theorem Bk.below {w w' : World} {B : Nat} {va : Nat → Value} {es : Nat → List (Value × Int)} (h : Bk w B va es) (hb : Below w.heap.size w w') : Bk w' B va es :=
  h.kept (below_grown hb none) (by simp) (by simp) (by simp)

/-- A list of kind f is written further, in its own block. -/
theorem Bk.inplace {w w' : World} {B g N f : Nat} {va : Nat → Value} {es : Nat → List (Value × Int)} {k : Int} (h : Bk w B va es) (hf : f < 4) (hg : w.grownBy w' (some g)) (hgB : g ≠ B) (hgv : ∀ j, j < 4 → some g ≠ (va j).ownBlock)
    (hrow : ∀ i, i < N → ∀ j u, (mkC f k)[j]? = some u → w'.cell? ⟨g, i * szC f + j, none⟩ = some u) (hlt : g < w'.heap.size) (hN : N ≤ 16777216)
    (hoth : ∀ j, j < 4 → j ≠ f → ∀ p ∈ es j, p.1.ownBlock ≠ some g)
    (hcur : ∀ p ∈ es f, p.1.ownBlock = some g → ∃ m cap, p.1 = .slice (some ⟨g, 0, none⟩) m cap ∧ m ≤ N ∧ m ≤ cap ∧ p.2 = k) : Bk w' B va es where
  c j hj := hg.cell (h.c j hj) (fun e => hgB (by cases e; rfl))
  fz o := by rw [← h.fz o]; exact World.frozen?_of_block (w := w) (hg.block B h.lt (fun e => hgB (by cases e; rfl)))
  row j hj := owns_grown' (h.row j hj) hg (fun q hq e => hgv j hj (by rw [hq, e]))
  good j hj p hp := by
    by_cases e : p.1.ownBlock = some g
    · by_cases hjf : j = f
      · subst hjf
        obtain ⟨m, cap, hp1, hm, hmc, hk⟩ := hcur p hp e
        refine ⟨m, by omega, ?_⟩
        rw [hp1, hk]
        refine ⟨_, cap, rfl, hmc, fun _ => ⟨g, 0, rfl, hlt, fun i hi t u hu => ?_⟩⟩
        rw [Nat.zero_add]
        exact hrow i (by omega) t u hu
      · exact absurd e (hoth j hj hjf p hp)
    · obtain ⟨n, hnb, hn⟩ := h.good j hj p hp
      exact ⟨n, hnb, hn.grown hg (fun q hq e' => e (by rw [hq, e']))⟩
  bnd := h.bnd
  sep j hj p hp q hq := ⟨Nat.lt_of_lt_of_le (h.sep j hj p hp q hq).1 hg.size, (h.sep j hj p hp q hq).2⟩
  apart := h.apart
  cross := h.cross

/-- One entry more of kind f. -/
theorem Bk.push {w w2 : World} {B f : Nat} {va : Nat → Value} {es : Nat → List (Value × Int)} (h : Bk w B va es) (hf : f < 4) (s : Value) (k : Int) {g cap : Nat} (tmp : Obj)
    (hkb : 0 ≤ k ∧ k ≤ 1000000) (hgood : ∃ n, n ≤ 16777216 ∧ MarkRow w s (szC f) n (mkC f k))
    (hsep : ∀ q, s.ownBlock = some q → q < w.heap.size ∧ q ≠ B ∧ ∀ j, j < 4 → some q ≠ (va j).ownBlock)
    (hcross : ∀ j, j < 4 → j ≠ f → ∀ p ∈ es j, ∀ q, s.ownBlock = some q → p.1.ownBlock ≠ some q)
    (hown : w2.ownsRow (B + 1) (eT f) 2 (.slice (some ⟨g, 0, none⟩) ((es f).length + 1) cap) ((es f).length + 1) (flatE (es f) ++ [s, .int .i64 k]))
    (hcase : ((w.alloc tmp).grownBy w2 none ∧ (w.alloc tmp).heap.size ≤ g) ∨ ((va f).ownBlock = some g ∧ (w.alloc tmp).grownBy w2 (some g))) :
    Bk (w2.setCell ⟨B, f, none⟩ (.slice (some ⟨g, 0, none⟩) ((es f).length + 1) cap)) B (updF va f (.slice (some ⟨g, 0, none⟩) ((es f).length + 1) cap)) (updF es f (es f ++ [(s, k)])) := by
  have hgB : B + 1 ≤ g := owns_base hown g rfl
  have hBlt := h.lt
  have hal : w.grownBy (w.alloc tmp) none := World.grownBy_alloc w tmp none
  obtain ⟨row, hg, hrow⟩ : ∃ row, w.grownBy w2 row ∧ ∀ q, row = some q → (va f).ownBlock = some q := by
    rcases hcase with ⟨h1, _⟩ | ⟨h1, h2⟩
    · exact ⟨none, grown_trans hal h1, fun q hq => by cases hq⟩
    · exact ⟨some g, grown_trans (hal.but _) h2, fun q hq => by cases hq; exact h1⟩
  have hfresh : ∀ q, q < w.heap.size → some q ≠ (va f).ownBlock → q ≠ g := by
    intro q hq hne e
    subst e
    rcases hcase with ⟨_, h2⟩ | ⟨h2, _⟩
    · simp at h2; omega
    · exact hne h2.symm
  have hBr : some B ≠ row := fun e => by
    have := owns_base (h.row f hf) B (hrow B e.symm)
    omega
  have hsc := grown_setCell w2 ⟨B, f, none⟩ (.slice (some ⟨g, 0, none⟩) ((es f).length + 1) cap)
  have hcB : ∀ j, j < 4 → w2.cell? ⟨B, j, none⟩ = some (va j) := fun j hj => hg.cell (h.c j hj) hBr
  have hmem : ∀ j, j < 4 → ∀ p ∈ updF es f (es f ++ [(s, k)]) j, p ∈ es j ∨ (j = f ∧ p = (s, k)) := by
    intro j _ p hp
    by_cases e : j = f
    · subst e
      rw [updF_same] at hp
      rcases List.mem_append.1 hp with hp | hp
      · exact .inl hp
      · exact .inr ⟨rfl, List.mem_singleton.1 hp⟩
    · rw [updF_other _ _ e] at hp
      exact .inl hp
  have hsep' : ∀ j, j < 4 → ∀ p ∈ updF es f (es f ++ [(s, k)]) j, ∀ q, p.1.ownBlock = some q → q < w.heap.size ∧ q ≠ B ∧ ∀ t, t < 4 → some q ≠ (va t).ownBlock := by
    intro j hj p hp
    rcases hmem j hj p hp with hp | ⟨rfl, rfl⟩
    · exact h.sep j hj p hp
    · exact hsep
  refine ⟨fun j hj => ?_, fun o => ?_, fun j hj => ?_, fun j hj p hp => ?_, fun j hj p hp => ?_, fun j hj p hp q hq => ?_, fun j t hj ht hne q hq => ?_, fun j t hj ht hne p hp p' hp' q hq => ?_⟩
  · by_cases e : j = f
    · subst e
      rw [updF_same]
      exact World.cell?_setCell_same _ _ _ (hcB j hj)
    · rw [updF_other _ _ e]
      exact (World.cell?_setCell_other _ _ _ _ (fun e' => e (by cases e'; rfl))).trans (hcB j hj)
  · rw [World.frozen?_setCell, ← h.fz o]
    exact World.frozen?_of_block (w := w) (hg.block B hBlt hBr)
  · by_cases e : j = f
    · subst e
      rw [updF_same, updF_same, flatE_snoc, List.length_append]
      exact owns_grown' hown hsc (fun q hq => by cases hq; intro e; cases e; omega)
    · rw [updF_other _ _ e, updF_other _ _ e]
      refine owns_grown' (owns_grown' (h.row j hj) hg (fun q hq e' => h.apart j f hj hf e q hq (hrow q e'.symm))) hsc (fun q hq e' => ?_)
      have := owns_base (h.row j hj) q hq
      have hqB : q = B := by cases e'; rfl
      omega
  · have hs := hsep' j hj p hp
    have hgd : ∃ n, n ≤ 16777216 ∧ MarkRow w p.1 (szC j) n (mkC j p.2) := by
      rcases hmem j hj p hp with hp | ⟨rfl, rfl⟩
      · exact h.good j hj p hp
      · exact hgood
    obtain ⟨n, hnb, hn⟩ := hgd
    exact ⟨n, hnb, (hn.grown hg (fun q hq e => (hs q hq).2.2 f hf (hrow q e.symm).symm)).grown hsc (fun q hq e => (hs q hq).2.1 (by cases e; rfl))⟩
  · rcases hmem j hj p hp with hp | ⟨rfl, rfl⟩
    · exact h.bnd j hj p hp
    · exact hkb
  · have hs := hsep' j hj p hp q hq
    refine ⟨Nat.lt_of_lt_of_le hs.1 (Nat.le_trans hg.size hsc.size), hs.2.1, fun t ht e => ?_⟩
    by_cases et : t = f
    · subst et
      rw [updF_same] at e
      exact hfresh q hs.1 (hs.2.2 t ht) (by cases e; rfl)
    · rw [updF_other _ _ et] at e
      exact hs.2.2 t ht e
  · by_cases ej : j = f
    · subst ej
      rw [updF_same] at hq
      rw [updF_other _ _ (Ne.symm hne)]
      obtain rfl := own_g hq
      intro e
      exact hfresh g (own_lt (h.row t ht) g e) (fun e' => h.apart j t hj ht hne g e'.symm e) rfl
    · rw [updF_other _ _ ej] at hq
      by_cases et : t = f
      · subst et
        rw [updF_same]
        intro e
        obtain rfl := own_g e
        exact hfresh g (own_lt (h.row j hj) g hq) (fun e' => h.apart j t hj ht hne g hq e'.symm) rfl
      · rw [updF_other _ _ et]
        exact h.apart j t hj ht hne q hq
  · rcases hmem j hj p hp with g1 | ⟨g1, g2⟩
    · rcases hmem t ht p' hp' with g3 | ⟨g3, g4⟩
      · exact h.cross j t hj ht hne p g1 p' g3 q hq
      · rw [g4]
        exact fun e => hcross j hj (by rw [← g3]; exact hne) p g1 q e hq
    · rcases hmem t ht p' hp' with g3 | ⟨g3, g4⟩
      · rw [g2] at hq
        exact hcross t ht (by rw [← g1]; exact Ne.symm hne) p' g3 q hq
      · exact absurd (g1.trans g3.symm) hne
end Go.Proofs.YtahdlejgjcjeoaaDoor

namespace Go.Proofs.YtahdlejgjcjeoaaDoor
open Go.RowKit

structure OwnS (w0 : World) (X : Nat → Prop) (b0 : Option Nat) (va : Nat → Value) (es : Nat → List (Value × Int)) (B baseL f : Nat) (k : Int) (N : Nat) (w : World) (v vf : Value) (ef : List (Value × Int)) : Prop where
  inv : Bk w B (updF va f vf) (updF es f ef)
  own : w.ownsRow baseL (elT f) (szC f) v N (reps N (mkC f k))
  sepB : ∀ q, v.ownBlock = some q → q < w.heap.size ∧ q ≠ B ∧ ∀ j, j < 4 → some q ≠ (updF va f vf j).ownBlock
  cur : ∀ p ∈ ef, ∀ q, p.1.ownBlock = some q → v.ownBlock = some q → ∃ m cap, p.1 = .slice (some ⟨q, 0, none⟩) m cap ∧ m ≤ N ∧ m ≤ cap ∧ p.2 = k
  vo : ∀ j, j < 4 → j ≠ f → ∀ p ∈ es j, ∀ q, v.ownBlock = some q → p.1.ownBlock ≠ some q
  fr : Fr X w0 w
  xv : ∀ q, v.ownBlock = some q → w0.heap.size ≤ q ∨ (X q ∧ some q = b0)
  ent : ∀ p ∈ ef, p ∈ es f ∨ ∀ q, p.1.ownBlock = some q → w0.heap.size ≤ q ∨ some q = b0
  xa : ∀ q, vf.ownBlock = some q → w0.heap.size ≤ q ∨ X q
  base : baseL ≤ w.heap.size
  kb : 0 ≤ k ∧ k ≤ 1000000
  nb : N ≤ 16777216
  ff : f < 4

theorem OwnS.below {w0 : World} {X : Nat → Prop} {b0 : Option Nat} {va : Nat → Value} {es : Nat → List (Value × Int)} {B baseL f N : Nat} {k : Int} {w w' : World} {v vf : Value} {ef : List (Value × Int)} (h : OwnS w0 X b0 va es B baseL f k N w v vf ef) (hb : Below w.heap.size w w') : OwnS w0 X b0 va es B baseL f k N w' v vf ef where
  inv := h.inv.below hb
  own := owns_below h.own hb
  sepB q hq := ⟨Nat.lt_of_lt_of_le (h.sepB q hq).1 hb.size, (h.sepB q hq).2⟩
  cur := h.cur
  vo := h.vo
  fr := h.fr.below hb
  xv := h.xv
  ent := h.ent
  xa := h.xa
  base := Nat.le_trans h.base hb.size
  kb := h.kb
  nb := h.nb
  ff := h.ff

theorem OwnS.append {w0 : World} {X : Nat → Prop} {b0 : Option Nat} {va : Nat → Value} {es : Nat → List (Value × Int)} {B baseL f N : Nat} {k : Int} {w w2 : World} {v vf : Value} {ef : List (Value × Int)} (h : OwnS w0 X b0 va es B baseL f k N w v vf ef) (hN1 : N + 1 ≤ 16777216) (tmp : Obj) {g cap : Nat}
    (hown : w2.ownsRow baseL (elT f) (szC f) (.slice (some ⟨g, 0, none⟩) (N + 1) cap) (N + 1) (reps N (mkC f k) ++ mkC f k))
    (hcase : ((w.alloc tmp).grownBy w2 none ∧ (w.alloc tmp).heap.size ≤ g) ∨ (v.ownBlock = some g ∧ (w.alloc tmp).grownBy w2 (some g))) :
    OwnS w0 X b0 va es B baseL f k (N + 1) w2 (.slice (some ⟨g, 0, none⟩) (N + 1) cap) vf ef := by
  have ha := h.below (below_alloc (Below.refl _ w) tmp)
  have hf := h.ff
  rw [← reps_succ] at hown
  have hglt : g < w2.heap.size := own_lt hown g rfl
  rcases hcase with ⟨hg, hge⟩ | ⟨hv, hg⟩
  · refine ⟨ha.inv.kept hg (by simp) (by simp) (by simp), hown, fun q hq => ?_, fun p hp q h1 h2 => ?_, fun j hj hjf p hp q hq e => ?_, ha.fr.step hg (fun q hq => by cases hq), fun q hq => ?_, h.ent, h.xa, Nat.le_trans ha.base hg.size, h.kb, hN1, hf⟩
    · obtain rfl := own_g hq
      have hB := ha.inv.lt
      refine ⟨hglt, by omega, fun j hj e => ?_⟩
      have := own_lt (ha.inv.row j hj) g e.symm
      omega
    · obtain rfl := own_g h2
      have := (ha.inv.sep f hf p (by rw [updF_same]; exact hp) _ h1).1
      omega
    · obtain rfl := own_g hq
      have := (ha.inv.sep j hj p (by rw [updF_other _ _ hjf]; exact hp) _ e).1
      omega
    · obtain rfl := own_g hq
      left
      have := ha.fr.size
      omega
  · have hs := h.sepB g hv
    have hmr : ∀ i, i < N + 1 → ∀ j u, (mkC f k)[j]? = some u → w2.cell? ⟨g, i * szC f + j, none⟩ = some u := by
      have hl := mkC_length f k
      rw [← hl] at hown ⊢
      obtain ⟨ad, cap', e, _, H⟩ := markRow_owns hown
      cases e
      obtain ⟨b, off, e, _, H⟩ := H (by omega)
      cases e
      intro i hi j u hu
      have := H i hi j u hu
      rwa [Nat.zero_add] at this
    have hcur : ∀ p ∈ ef, p.1.ownBlock = some g → ∃ m cap, p.1 = .slice (some ⟨g, 0, none⟩) m cap ∧ m ≤ N + 1 ∧ m ≤ cap ∧ p.2 = k := fun p hp e => by
      obtain ⟨m, c, h1, h2, h3, h4⟩ := h.cur p hp g e hv
      exact ⟨m, c, h1, by omega, h3, h4⟩
    refine ⟨ha.inv.inplace hf hg hs.2.1 hs.2.2 hmr hglt hN1 (fun j hj hjf p hp => by rw [updF_other _ _ hjf] at hp; exact h.vo j hj hjf p hp g hv) (by rw [updF_same]; exact hcur), hown, fun q hq => ?_, fun p hp q h1 h2 => ?_, fun j hj hjf p hp q hq => ?_, ha.fr.step hg (fun q hq => by cases hq; exact (h.xv g hv).imp id And.left), fun q hq => ?_, h.ent, h.xa, Nat.le_trans ha.base hg.size, h.kb, hN1, hf⟩
    · obtain rfl := own_g hq; exact ⟨hglt, hs.2⟩
    · obtain rfl := own_g h2; exact hcur p hp h1
    · obtain rfl := own_g hq; exact h.vo j hj hjf p hp g hv
    · obtain rfl := own_g hq; exact h.xv g hv

theorem OwnS.push {w0 : World} {X : Nat → Prop} {b0 : Option Nat} {va : Nat → Value} {es : Nat → List (Value × Int)} {B baseL f N : Nat} {k : Int} {w w2 : World} {v vf : Value} {ef : List (Value × Int)} (h : OwnS w0 X b0 va es B baseL f k N w v vf ef) (hXB : X B) (tmp : Obj) {g cap : Nat}
    (hown : w2.ownsRow (B + 1) (eT f) 2 (.slice (some ⟨g, 0, none⟩) (ef.length + 1) cap) (ef.length + 1) (flatE ef ++ [v, .int .i64 k]))
    (hcase : ((w.alloc tmp).grownBy w2 none ∧ (w.alloc tmp).heap.size ≤ g) ∨ (vf.ownBlock = some g ∧ (w.alloc tmp).grownBy w2 (some g))) :
    OwnS w0 X b0 va es B baseL f k N (w2.setCell ⟨B, f, none⟩ (.slice (some ⟨g, 0, none⟩) (ef.length + 1) cap)) v (.slice (some ⟨g, 0, none⟩) (ef.length + 1) cap) (ef ++ [(v, k)]) := by
  have hf := h.ff
  have hgd : ∃ n, n ≤ 16777216 ∧ MarkRow w v (szC f) n (mkC f k) := by
    have ho := h.own
    have hl := mkC_length f k
    rw [← hl] at ho ⊢
    exact ⟨N, h.nb, markRow_owns ho⟩
  have hI := h.inv.push hf v k (g := g) (cap := cap) tmp h.kb hgd h.sepB (fun j hj hjf p hp q hq => by rw [updF_other _ _ hjf] at hp; exact h.vo j hj hjf p hp q hq) (by rw [updF_same]; exact hown) (by rw [updF_same]; exact hcase)
  rw [updF_updF, updF_updF, updF_same] at hI
  have hsc := grown_setCell w2 ⟨B, f, none⟩ (.slice (some ⟨g, 0, none⟩) (ef.length + 1) cap)
  have hal : w.grownBy (w.alloc tmp) none := World.grownBy_alloc w tmp none
  have hgB : B + 1 ≤ g := owns_base hown g rfl
  have hvf : ∀ q, v.ownBlock = some q → some q ≠ vf.ownBlock := fun q hq => by have := (h.sepB q hq).2.2 f hf; rwa [updF_same] at this
  obtain ⟨row, hg, hrow⟩ : ∃ row, w.grownBy w2 row ∧ ∀ q, row = some q → vf.ownBlock = some q := by
    rcases hcase with ⟨h1, _⟩ | ⟨h1, h2⟩
    · exact ⟨none, grown_trans hal h1, fun q hq => by cases hq⟩
    · exact ⟨some g, grown_trans (hal.but _) h2, fun q hq => by cases hq; exact h1⟩
  have hv1 : w2.ownsRow baseL (elT f) (szC f) v N (reps N (mkC f k)) := owns_grown' h.own hg (fun q hq e => hvf q hq (hrow q e.symm).symm)
  refine ⟨hI, owns_grown' hv1 hsc (fun q hq e => (h.sepB q hq).2.1 (by cases e; rfl)), fun q hq => ?_, fun p hp q h1 h2 => ?_, h.vo, (h.fr.step hg (fun q hq => h.xa q (hrow q hq))).step hsc (fun q hq => by cases hq; exact .inr hXB), h.xv, fun p hp => ?_, fun q hq => ?_, Nat.le_trans h.base (Nat.le_trans hg.size hsc.size), h.kb, h.nb, hf⟩
  · have hs := h.sepB q hq
    refine ⟨Nat.lt_of_lt_of_le hs.1 (Nat.le_trans hg.size hsc.size), hs.2.1, fun j hj e => ?_⟩
    by_cases hjf : j = f
    · subst hjf
      rw [updF_same] at e
      have hqg : q = g := by cases e; rfl
      rcases hcase with ⟨_, h2⟩ | ⟨h2, _⟩
      · simp at h2; omega
      · exact hvf q hq (by rw [h2, hqg])
    · have := hs.2.2 j hj
      rw [updF_other _ _ hjf] at e this
      exact this e
  · rcases List.mem_append.1 hp with hp | hp
    · exact h.cur p hp q h1 h2
    · rw [List.mem_singleton] at hp
      subst hp
      rcases h.own.2 with ⟨h0, _⟩ | ⟨g', cap', cur, hv', _, _, hle, _⟩
      · rw [h0] at h2; cases h2
      · rw [hv'] at h2
        cases h2
        exact ⟨N, cap', hv', Nat.le_refl _, hle, rfl⟩
  · rcases List.mem_append.1 hp with hp | hp
    · exact h.ent p hp
    · rw [List.mem_singleton] at hp
      subst hp
      exact .inr fun q hq => (h.xv q hq).imp id And.right
  · obtain rfl := own_g hq
    rcases hcase with ⟨_, h2⟩ | ⟨h2, _⟩
    · left
      have := h.fr.size
      simp at h2
      omega
    · exact h.xa g h2

theorem Bk.after {w w2 : World} {B g f : Nat} {va : Nat → Value} {es : Nat → List (Value × Int)} (h : Bk w B va es) (hf : f < 4) (tmp : Obj)
    (hcase : ((w.alloc tmp).grownBy w2 none ∧ (w.alloc tmp).heap.size ≤ g) ∨ ((va f).ownBlock = some g ∧ (w.alloc tmp).grownBy w2 (some g))) : w2.cell? ⟨B, f, none⟩ = some (va f) ∧ w2.frozen? ⟨B, f, none⟩ = false := by
  have hal : w.grownBy (w.alloc tmp) none := World.grownBy_alloc w tmp none
  rcases hcase with ⟨h1, _⟩ | ⟨h1, h2⟩
  · have hg := grown_trans hal h1
    exact ⟨hg.cell (h.c f hf) (by simp), by rw [← h.fz f]; exact World.frozen?_of_block (w := w) (hg.block B h.lt (by simp))⟩
  · have hg := grown_trans (hal.but _) h2
    have hne : some B ≠ some g := fun e => by
      have := owns_base (h.row f hf) g h1
      cases e
      omega
    exact ⟨hg.cell (h.c f hf) hne, by rw [← h.fz f]; exact World.frozen?_of_block (w := w) (hg.block B h.lt hne)⟩

/-- A store of one cell into a row of the call's own. -/
theorem owns_store1 {w : World} {base g cap n : Nat} {e : TypeId} {xs : List Value} (h : w.ownsRow base e 1 (.slice (some ⟨g, 0, none⟩) n cap) n xs) (i : Nat) (_hi : i < n) (u : Value) :
    (w.setCell ⟨g, i, none⟩ u).ownsRow base e 1 (.slice (some ⟨g, 0, none⟩) n cap) n (xs.set i u) := by
  rcases h.2 with ⟨h0, _⟩ | ⟨g', cap', cur, hv, hg, hh, h1, h2, h3, h4⟩
  · cases h0
  cases hv
  refine ⟨by rw [List.length_set]; exact h.1, .inr ⟨g, cap, _, rfl, hg, heap_setCell_at hh u, h1, h2, by simp [h3], ?_⟩⟩
  rw [Array.toList_setIfInBounds, ← h4, List.take_set]
/-- What such a store wants to know. -/
theorem owns_cell1 {w : World} {base g cap n : Nat} {e : TypeId} {xs : List Value} (h : w.ownsRow base e 1 (.slice (some ⟨g, 0, none⟩) n cap) n xs) (i : Nat) (hi : i < n) :
    (∃ u, w.cell? ⟨g, i, none⟩ = some u ∧ xs[i]? = some u) ∧ w.frozen? ⟨g, i, none⟩ = false := by
  rcases h.2 with ⟨h0, _⟩ | ⟨g', cap', cur, hv, hg, hh, h1, h2, h3, h4⟩
  · cases h0
  cases hv
  have hlt : i < cur.size := by rw [h3]; omega
  refine ⟨⟨cur[i], ?_, ?_⟩, by simp [World.frozen?, hh]⟩
  · simp [World.cell?, hh, hlt]
  · rw [← h4, List.getElem?_take, if_pos (by omega), Array.getElem?_toList, Array.getElem?_eq_getElem hlt]
theorem all_reps1 {L : List Value} {n : Nat} {u : Value} (hl : L.length = n) (h : ∀ t, t < n → L[t]? = some u) : L = reps n [u] := by
  apply List.ext_getElem?
  intro i
  by_cases hi : i < n
  · have := reps_get (n := n) (c := [u]) (j := 0) (u := u) hi rfl
    rw [h i hi]
    simpa using this.symm
  · rw [List.getElem?_eq_none (by omega), List.getElem?_eq_none (by rw [reps_length]; simp; omega)]

def bk0 : Nat → Value := fun _ => .slice none 0 0
def es0 : Nat → List (Value × Int) := fun _ => []
theorem bk_new (w : World) : Bk (w.alloc (.cells #[.slice none 0 0, .slice none 0 0, .slice none 0 0, .slice none 0 0] 44)) w.heap.size bk0 es0 where
  c f hf := by
    have hb := heap_alloc_new w (.cells #[.slice none 0 0, .slice none 0 0, .slice none 0 0, .slice none 0 0] 44)
    rcases (show f = 0 ∨ f = 1 ∨ f = 2 ∨ f = 3 by omega) with rfl | rfl | rfl | rfl
    · exact World.news_of_block hb 0 _ rfl
    · exact World.news_of_block hb 1 _ rfl
    · exact World.news_of_block hb 2 _ rfl
    · exact World.news_of_block hb 3 _ rfl
  fz o := by
    have hb := heap_alloc_new w (.cells #[.slice none 0 0, .slice none 0 0, .slice none 0 0, .slice none 0 0] 44)
    unfold World.frozen?
    rw [hb]
    simp
  row f hf := ⟨rfl, .inl ⟨rfl, rfl⟩⟩
  good f hf p hp := by cases hp
  bnd f hf p hp := by cases hp
  sep f hf p hp := by cases hp
  apart f j hf hj hne q hq := by cases hq
  cross f j hf hj hne p hp := by cases hp
end Go.Proofs.YtahdlejgjcjeoaaDoor

namespace Go.Proofs.YtahdlejgjcjeoaaDoor
open Go.RowKit

theorem digs_zero (f : Nat) : digs f 0 = [] := by
  cases f <;> simp [digs]
theorem digs_pos {f k : Nat} (h : 0 < k) : digs (f + 1) k = UInt8.ofNat (48 + k % 10) :: digs f (k / 10) := by
  rw [digs, if_neg (by omega)]
theorem dig_str (k : Nat) : strOfNums [48 + (k : Int) % 10] = bstr [UInt8.ofNat (48 + k % 10)] := by
  have e : (48 + (k : Int) % 10).toNat = 48 + k % 10 := by omega
  simp only [strOfNums, bstr, List.map_cons, List.map_nil, e]

set_option maxRecDepth 100000 in
set_option maxHeartbeats 1000000 in
theorem textOf_any (k : Nat) (w : World) (hk : k ≤ 1000000) :
    Calls Tryd.prog 56 #[.int .i64 k] w fun e w' => e = .returned (.string (markT k)) ∧ Below w.heap.size w w' := by
  have hcv := conv_one
  go_enter Tryd.func56, Tryd.ntmps56
  go_wp2
  go_loopw [0, 3] (fun s0 s2 wr => ∃ (f m : Nat) (done : List UInt8), s0 = .int .i64 m ∧ s2 = .string (bstr ([109, 97, 114, 107, 32] ++ done)) ∧ Hid (done ++ digs f m = digs 20 k) ∧ Hid (m < 10 ^ f) ∧ done.length + f ≤ 20 ∧ m ≤ 1000000 ∧ Below w.heap.size w wr) (fun s0 _ _ => (intOf s0).toNat)
  case atStart => exact ⟨20, k, [], rfl, rfl, rfl, by rw [Hid]; omega, by simp, hk, Below.refl _ _⟩
  case round =>
    obtain ⟨f, m, done, rfl, rfl, hd, hm, hlen, hmb, hb⟩ := hrel
    by_cases h0 : 0 < m
    · obtain ⟨f', rfl⟩ : ∃ f', f = f' + 1 := by
        cases f with
        | zero => have := hm.out; simp at this; omega
        | succ f' => exact ⟨f', rfl⟩
      have q1 : ((m : Int) ≤ 0) = False := by simp; omega
      have q2 : ((0 : Int) < (m : Int)) = True := by simp; omega
      have HD : Hid ((done ++ [UInt8.ofNat (48 + m % 10)]) ++ digs f' (m / 10) = digs 20 k) := by
        have := hd.out
        rw [digs_pos h0] at this
        rw [Hid, List.append_assoc]
        exact this
      have HM : Hid (m / 10 < 10 ^ f') := Nat.div_lt_of_lt_mul (by have := hm.out; rw [Nat.pow_succ] at this; omega)
      have HS : Hid (bstr ([109, 97, 114, 107, 32] ++ done) ++ strOfNums [48 + (m : Int) % 10] = bstr ([109, 97, 114, 107, 32] ++ (done ++ [UInt8.ofNat (48 + m % 10)]))) := by rw [Hid, dig_str, bstr_append, List.append_assoc]
      have hsz1 : (bstr ([109, 97, 114, 107, 32] ++ done)).size = 5 + done.length := by rw [bstr_size, List.length_append]; rfl
      have hsz2 : (strOfNums [48 + (m : Int) % 10]).size = 1 := by rw [strOfNums_size]; rfl
      have hw1 : IntKind.i64.wrap ((m : Int) / 10) = (m : Int) / 10 := wrap_small (by omega) (by omega)
      generalize bstr ([109, 97, 114, 107, 32] ++ done) = sb at *
      go_wp2
      refine ⟨⟨f', m / 10, done ++ [UInt8.ofNat (48 + m % 10)], by go_num, ?_, HD, HM, by rw [List.length_append, List.length_singleton]; omega, by omega, ?_⟩, ?_⟩
      · rw [HS.out]
      · exact below_alloc hb _
      · simp only [intOf]
        omega
    · obtain rfl : m = 0 := by omega
      have HE : Hid (markT k = bstr ([109, 97, 114, 107, 32] ++ done)) := by
        have := hd.out
        rw [digs_zero, List.append_nil] at this
        rw [Hid, markT, this]
      generalize bstr ([109, 97, 114, 107, 32] ++ done) = sb at *
      go_wp2
      go_ret
      exact ⟨by rw [HE.out]; rfl, hb⟩
end Go.Proofs.YtahdlejgjcjeoaaDoor

namespace Go.Proofs.YtahdlejgjcjeoaaDoor
open Go.RowKit

theorem infoTOut : (Tryd.prog.info? 94).map (fun i => (i.zero, i.size, i.bytes)) = some (some (.agg #[.slice none 0 0, .int .i64 0]), 2, 32) := by kernel_rfl
theorem infoStr : (Tryd.prog.info? 9).map (fun i => (i.zero, i.size, i.bytes)) = some (some (.string ⟨#[]⟩), 1, 16) := by kernel_rfl

set_option maxRecDepth 100000 in
set_option maxHeartbeats 4000000 in
theorem ownTexts_any (B : Nat) (va : Nat → Value) (vl : Value) (es : Nat → List (Value × Int)) (baseL n : Nat) (L : List Value) (w : World)
    (hI : Bk w B va es) (hL : w.ownsRow baseL 9 1 vl n L) (hbase : baseL ≤ w.heap.size)
    (hsep : ∀ q, vl.ownBlock = some q → q < w.heap.size ∧ q ≠ B ∧ (∀ j, j < 4 → some q ≠ (va j).ownBlock) ∧ ∀ j, j < 4 → ∀ p ∈ es j, p.1.ownBlock ≠ some q)
    (hlen : n ≤ 8388608) (hes : (es 2).length ≤ 1000) :
    Calls Tryd.prog 23 #[.pointer (some ⟨B, 0, none⟩), vl] w fun e w' => e = .returned (.tuple #[]) ∧ ∃ vf ef, Hid (Bk w' B (updF va 2 vf) (updF es 2 ef)) ∧ ef.length = (es 2).length + 4 ∧ Hid (∀ p ∈ ef, p ∈ es 2 ∨ ∀ q, p.1.ownBlock = some q → w.heap.size ≤ q ∨ some q = vl.ownBlock) ∧ Hid (Fr (fun q => q = B ∨ some q = vl.ownBlock ∨ some q = (va 2).ownBlock) w w') := by
  obtain ⟨X, hX⟩ : ∃ X : Nat → Prop, X = fun q => q = B ∨ some q = vl.ownBlock ∨ some q = (va 2).ownBlock := ⟨_, rfl⟩
  rw [← hX]
  have HXB : Hid (X B) := by rw [hX]; exact .inl rfl
  have HXV : Hid (∀ q, vl.ownBlock = some q → X q) := by rw [hX]; exact fun q hq => .inr (.inl hq.symm)
  have HXA : Hid (∀ q, (va 2).ownBlock = some q → X q) := by rw [hX]; exact fun q hq => .inr (.inr hq.symm)
  clear hX
  obtain ⟨adL, capL, rfl⟩ := own_form hL
  obtain ⟨adA, capA, hva⟩ := own_form (hI.row 2 (by decide))
  have c2 := hI.c 2 (by decide)
  rw [hva] at c2
  have HVA : Hid (va 2 = .slice adA (es 2).length capA) := hva
  have HI : Hid (Bk w B va es) := hI
  have HL : Hid (w.ownsRow baseL 9 1 (.slice adL n capL) n L) := hL
  have HSEP : Hid (∀ q, (Value.slice adL n capL).ownBlock = some q → q < w.heap.size ∧ q ≠ B ∧ (∀ j, j < 4 → some q ≠ (va j).ownBlock) ∧ ∀ j, j < 4 → ∀ p ∈ es j, p.1.ownBlock ≠ some q) := hsep
  have hn : L.length = n := by have := hL.1; omega
  clear hI hL hsep hva
  obtain ⟨i0, hi, hz0, hz1, hz2⟩ := info_parts infoStr
  obtain ⟨i1, hi1, hy0, hy1, hy2⟩ := info_parts infoTOut
  obtain ⟨K, HK⟩ : ∃ K, Hid (K = (es 2).length) := ⟨_, rfl⟩
  rw [← HK.out] at c2 hes
  have hm : ∀ W, Calls Tryd.prog 56 #[.int .i64 K] W fun e w' => e = .returned (.string (markT K)) ∧ Below W.heap.size W w' := fun W => textOf_any K W (by omega)
  obtain ⟨T, HT⟩ : ∃ T, Hid (markT K = T) := ⟨_, rfl⟩
  rw [HT.out] at hm
  have HTX : Hid (∀ W, Calls Tryd.prog 56 #[.int .i64 K] W fun e w' => e = .returned (.string T) ∧ Below W.heap.size W w') := hm
  clear hm
  go_enter Tryd.func23, Tryd.ntmps23
  go_wp2
  go_loopw [5] (fun i wr => ∃ (j : Nat) (L' : List Value), j ≤ n ∧ i = .int .i64 j ∧ L'.length = n ∧ Hid (wr.ownsRow baseL 9 1 (.slice adL n capL) n L') ∧ Hid (∀ t, t < j → L'[t]? = some (.string T)) ∧ Hid (Bk wr B va es) ∧ Hid (Fr X w wr)) (fun i _ => n - (intOf i).toNat)
  case atStart => exact ⟨0, L, Nat.zero_le _, rfl, hn, HL, fun t ht => by omega, HI, Fr.refl _ _⟩
  case round =>
    clear c2
    obtain ⟨j, L', hj, rfl, hlL, hown, hmk, hinv, hfr⟩ := hrel
    by_cases hl : j < n
    · obtain ⟨g, rfl⟩ : ∃ g, adL = some ⟨g, 0, none⟩ := by
        rcases hown.out.2 with ⟨_, h0⟩ | ⟨g, cap, cur, hv, _⟩
        · omega
        · cases hv; exact ⟨g, rfl⟩
      have hsg := HSEP.out g rfl
      have q1 : (j : Int) < (n : Int) := by omega
      go_wp2_with fail
      refine (HTX.out _).mono ?_
      rintro e w3 ⟨rfl, hb3⟩
      have hown3 := owns_below hown.out hb3
      have hinv3 := hinv.out.below hb3
      have hfr3 := hfr.out.below hb3
      obtain ⟨⟨u, d0, -⟩, f0⟩ := owns_cell1 hown3 j (by omega)
      have hst := owns_store1 hown3 j (by omega) (.string T)
      have hgr := grown_setCell w3 ⟨g, j, none⟩ (.string T)
      have HI3 : Hid (Bk (w3.setCell ⟨g, j, none⟩ (.string T)) B va es) := hinv3.kept hgr (fun e => hsg.2.1 (by cases e; rfl)) (fun t ht q hq e => hsg.2.2.1 t ht (by rw [hq, e])) (fun t ht p hp q hq e => hsg.2.2.2 t ht p hp (by rw [hq, e]))
      have HF3 : Hid (Fr X w (w3.setCell ⟨g, j, none⟩ (.string T))) := hfr3.step hgr (fun q hq => by cases hq; exact .inr (HXV.out g rfl))
      have HM3 : Hid (∀ t, t < j + 1 → (L'.set j (.string T))[t]? = some (.string T)) := by
        intro t ht
        by_cases e : t = j
        · subst e; simp [show t < L'.length by omega]
        · have := hmk.out t (by omega)
          simpa [Ne.symm e] using this
      have HST : Hid ((w3.setCell ⟨g, j, none⟩ (.string T)).ownsRow baseL 9 1 (.slice (some ⟨g, 0, none⟩) n capL) n (L'.set j (.string T))) := hst
      have HLL : Hid ((L'.set j (.string T)).length = n) := by rw [Hid]; simpa using hlL
      clear hst hgr hown hb3 hown3 hinv3 hfr3 hinv hfr hmk hsg
      go_wp2
      exact ⟨⟨j + 1, _, by omega, by go_num, HLL, HST, HM3, HI3, HF3⟩, by simp [intOf]; omega⟩
    · have hjn : j = n := by omega
      subst hjn
      have hLm := all_reps1 hlL hmk.out
      have hown' := hown.out
      rw [hLm] at hown'
      have hkc : mkC 2 (K : Int) = [.string T] := by show [Value.string (markT (K : Int).toNat)] = _; rw [Int.toNat_natCast, HT.out]
      rw [← hkc] at hown'
      have hst : OwnS w X (Value.slice adL j capL).ownBlock va es B baseL 2 K j wr (.slice adL j capL) (.slice adA K capA) (es 2) := ⟨by rw [HK.out, ← HVA.out, updF_self, updF_self]; exact hinv.out, hown', fun q hq => ⟨Nat.lt_of_lt_of_le (HSEP.out q hq).1 hfr.out.size, (HSEP.out q hq).2.1, by rw [HK.out, ← HVA.out, updF_self]; exact (HSEP.out q hq).2.2.1⟩, fun p hp q h1 h2 => absurd h1 ((HSEP.out q h2).2.2.2 2 (by decide) p hp), fun t ht _ p hp q hq => (HSEP.out q hq).2.2.2 t ht p hp, hfr.out, fun q hq => .inr ⟨HXV.out q hq, hq.symm⟩, fun p hp => .inl hp, fun q hq => .inr (HXA.out q (by rw [HVA.out, ← HK.out]; exact hq)), Nat.le_trans hbase hfr.out.size, ⟨by omega, by omega⟩, by omega, by decide⟩
      have hinvr := hst.inv
      have cr := hinvr.c 2 (by decide)
      have hlt := hinvr.lt
      have hrowr := hinvr.row 2 (by decide)
      rw [updF_same] at cr
      rw [updF_same, updF_same] at hrowr
      have HEL : Hid ((es 2).length = K) := HK.out.symm
      rw [HEL.out] at hrowr
      clear hown hown' hmk hinv hfr hLm HSEP HI HL hlL hkc
      have HST : Hid (OwnS w X (Value.slice adL j capL).ownBlock va es B baseL 2 K j wr (.slice adL j capL) (.slice adA K capA) (es 2)) := hst
      clear hst hinvr
      have hrow2 : wr.ownsRow (B + 1) 94 2 (.slice adA K capA) K (flatE (es 2)) := hrowr
      clear hrowr
      go_wp2_with (at_builtin; refine wpList_append_two _ rfl _ _ 41 rfl (B + 1) 94 i1 _ 2 32 Tryd.underlying41 hi1 hy0 hy1 hy2 rfl (by decide) _ K _ rfl (hrow2.alloc _) ⟨wr.heap.size, 0, none⟩ 1 1 [.slice adL j capL, .int .i64 K] rfl rfl (news_pair wr _ _ _) (pair_oneCell rfl _) (by decide) (by unfold maxLen; omega) (by omega) (by simp; omega) ?_; intro gA capA' wA hownA hcaseA; obtain ⟨ca, fa⟩ := HST.out.inv.after (f := 2) (by decide) _ (by rw [updF_same]; exact hcaseA); rw [updF_same] at ca)
      have HS1 := HST.out.push HXB.out _ (by rw [HEL.out]; exact hownA) hcaseA
      rw [HEL.out] at HS1
      clear HST cr hrow2 hownA hcaseA ca fa hlt
      go_loopw [1, 6] (fun s1 s6 wr => ∃ (r : Nat) (vf : Value) (ef : List (Value × Int)), r ≤ 3 ∧ s6 = .int .i64 r ∧ ef.length = K + 1 + r ∧ Hid (OwnS w X (Value.slice adL j capL).ownBlock va es B baseL 2 K (j + r) wr s1 vf ef)) (fun _ s6 _ => 3 - (intOf s6).toNat)
      case atStart => exact ⟨0, _, _, by omega, rfl, by rw [List.length_append, HEL.out]; rfl, HS1⟩
      case round =>
        clear HS1
        obtain ⟨r, vf, ef, hr, rfl, hes', hst⟩ := hrel
        have HES : Hid (ef.length = K + 1 + r) := hes'
        have hesle : ef.length ≤ 1004 := by omega
        clear hes'
        by_cases hr3 : r < 3
        · obtain ⟨ad1, cap1, hv1⟩ := own_form hst.out.own
          subst hv1
          go_wp2_with fail
          refine (HTX.out _).mono ?_
          rintro e w3 ⟨rfl, hb3⟩
          have hst3 := hst.out.below hb3
          have hkc : mkC 2 (K : Int) = [.string T] := by show [Value.string (markT (K : Int).toNat)] = _; rw [Int.toNat_natCast, HT.out]
          have hown3 : w3.ownsRow baseL 9 1 (.slice ad1 (j + r) cap1) (j + r) (reps (j + r) [.string T]) := by rw [← hkc]; exact hst3.own
          have HKC : Hid (mkC 2 (K : Int) = [.string T]) := hkc
          have hbase3 := hst3.base
          have HS3 : Hid (OwnS w X (Value.slice adL j capL).ownBlock va es B baseL 2 K (j + r) w3 (.slice ad1 (j + r) cap1) vf ef) := hst3
          clear hst hst3 hb3 hkc
          go_wp2_with (first | (at_builtin; have _t := hown3; refine wpList_append_two _ rfl _ _ 32 rfl baseL 9 i0 _ 1 16 Tryd.underlying32 hi hz0 hz1 hz2 rfl (by decide) _ (j + r) _ rfl (hown3.alloc _) ⟨w3.heap.size, 0, none⟩ 1 1 [.string T] rfl rfl (World.news_of_block (heap_alloc_new w3 _)) (by simp [Value.oneCell']) (by decide) (by unfold maxLen; omega) (by omega) (by simp; omega) ?_; intro gL capN wN hownN hcaseN; have HSN : Hid (OwnS w X (Value.slice adL j capL).ownBlock va es B baseL 2 K (j + r + 1) wN (.slice (some ⟨gL, 0, none⟩) (j + r + 1) capN) vf ef) := HS3.out.append (by omega) _ (by rw [HKC.out]; exact hownN) hcaseN; have cN := HSN.out.inv.c 2 (by decide); have hltN := HSN.out.inv.lt; have hrowN := HSN.out.inv.row 2 (by decide); rw [updF_same] at cN; rw [updF_same, updF_same] at hrowN; obtain ⟨adF, capF, hvF⟩ := own_form hrowN; subst hvF; have hrowM : wN.ownsRow (B + 1) 94 2 (.slice adF ef.length capF) ef.length (flatE ef) := hrowN; clear hownN hcaseN hown3 HS3 hrowN) | (at_builtin; refine wpList_append_two _ rfl _ _ 41 rfl (B + 1) 94 i1 _ 2 32 Tryd.underlying41 hi1 hy0 hy1 hy2 rfl (by decide) _ ef.length _ rfl (hrowM.alloc _) ⟨wN.heap.size, 0, none⟩ 1 1 [.slice (some ⟨gL, 0, none⟩) (j + r + 1) capN, .int .i64 K] rfl rfl (news_pair wN _ _ _) (pair_oneCell rfl _) (by decide) (by unfold maxLen; omega) (by omega) (by simp; omega) ?_; intro gA capA' wA hownA hcaseA; obtain ⟨ca, fa⟩ := HSN.out.inv.after (f := 2) (by decide) _ (by rw [updF_same]; exact hcaseA); rw [updF_same] at ca))
          have HS4 := HSN.out.push HXB.out _ hownA hcaseA
          clear HSN cN hrowM hownA hcaseA ca fa hltN
          exact ⟨⟨r + 1, _, _, by omega, by go_num, by have := HES.out; rw [List.length_append]; show ef.length + 1 = _; omega, HS4⟩, by simp [intOf]; omega⟩
        · go_wp2
          go_end0
          exact ⟨rfl, vf, ef, hst.out.inv, by have := HES.out; have := HEL.out; omega, hst.out.ent, hst.out.fr⟩
end Go.Proofs.YtahdlejgjcjeoaaDoor

namespace Go.Proofs.YtahdlejgjcjeoaaDoor
open Go.RowKit

theorem entryB {w : World} {B f : Nat} {va : Nat → Value} {es : Nat → List (Value × Int)} (h : Bk w B va es) (hf : f < 4) (i : Nat) (hi : i < (es f).length) :
    ∃ g cap, va f = .slice (some ⟨g, 0, none⟩) (es f).length cap ∧ g < w.heap.size ∧ w.cell? ⟨g, i * 2, none⟩ = some (es f)[i].1 ∧ w.cell? ⟨g, i * 2 + 1, none⟩ = some (.int .i64 (es f)[i].2) := by
  rcases (h.row f hf).2 with ⟨_, h0⟩ | ⟨g, cap, cur, hv, _, hh, h1, h2, h3, h4⟩
  · omega
  · refine ⟨g, cap, hv, (Array.getElem?_eq_some_iff.1 hh).1, ?_, ?_⟩
    · have := (flatE_get (es f) i hi).1
      rw [← h4, List.getElem?_take, if_pos (by omega), Array.getElem?_toList] at this
      simp [World.cell?, hh, this]
    · have := (flatE_get (es f) i hi).2
      rw [← h4, List.getElem?_take, if_pos (by omega), Array.getElem?_toList] at this
      simp [World.cell?, hh, this]

theorem nilRow {w : World} {B : Nat} {va : Nat → Value} {es : Nat → List (Value × Int)} (h : Bk w B va es) {f : Nat} (hf : f < 4) (he : es f = []) : ∃ ad cap, va f = .slice ad 0 cap := by
  obtain ⟨ad, cap, e⟩ := own_form (h.row f hf)
  rw [he] at e
  exact ⟨ad, cap, e⟩

set_option maxRecDepth 100000 in
set_option maxHeartbeats 4000000 in
theorem looksT_any (B : Nat) (va : Nat → Value) (es : Nat → List (Value × Int)) (w : World) (hI : Bk w B va es) (h0 : es 0 = []) (h1 : es 1 = []) (h3 : es 3 = []) (hes : (es 2).length ≤ 1000) :
    Calls Tryd.prog 24 #[.pointer (some ⟨B, 0, none⟩)] w fun e w' => e = .returned (.bool true) ∧ Below w.heap.size w w' := by
  obtain ⟨ad0, cap0, e0⟩ := nilRow hI (f := 0) (by decide) h0
  obtain ⟨ad1, cap1, e1⟩ := nilRow hI (f := 1) (by decide) h1
  obtain ⟨ad3, cap3, e3⟩ := nilRow hI (f := 3) (by decide) h3
  obtain ⟨ad2, cap2, e2⟩ := own_form (hI.row 2 (by decide))
  have k0 := hI.c 0 (by decide)
  have k1 := hI.c 1 (by decide)
  have k3 := hI.c 3 (by decide)
  rw [e0] at k0
  rw [e1] at k1
  rw [e3] at k3
  have HI : Hid (Bk w B va es) := hI
  have HV : Hid (va 2 = .slice ad2 (es 2).length cap2) := e2
  clear hI e0 e1 e2 e3 h0 h1 h3
  go_enter Tryd.func24, Tryd.ntmps24
  go_wp2
  go_loopw [3] (fun s wr => s = .int .i64 0 ∧ wr = w) (fun _ _ => 0)
  case atStart => exact ⟨rfl, rfl⟩
  case round =>
    obtain ⟨rfl, rfl⟩ := hrel
    obtain ⟨wo, rfl⟩ : ∃ wo : World, wo = wr := ⟨_, rfl⟩
    go_wp2
    go_loopw [6] (fun s wr => s = .int .i64 0 ∧ wr = wo) (fun _ _ => 0)
    case atStart => exact ⟨rfl, rfl⟩
    case round =>
      obtain ⟨rfl, rfl⟩ := hrel
      obtain ⟨wo, rfl⟩ : ∃ wo : World, wo = wr := ⟨_, rfl⟩
      go_wp2
      go_loopw [9] (fun s wr => s = .int .i64 0 ∧ wr = wo) (fun _ _ => 0)
      case atStart => exact ⟨rfl, rfl⟩
      case round =>
        obtain ⟨rfl, rfl⟩ := hrel
        obtain ⟨wo, rfl⟩ : ∃ wo : World, wo = wr := ⟨_, rfl⟩
        go_wp2
        clear k0 k1 k3
        go_loopw [12] (fun s wr => ∃ j : Nat, j ≤ (es 2).length ∧ s = .int .i64 j ∧ Below wo.heap.size wo wr) (fun i _ => (es 2).length - (intOf i).toNat)
        case atStart => exact ⟨0, Nat.zero_le _, rfl, Below.refl _ _⟩
        case round =>
          obtain ⟨j, hj, rfl, hbw⟩ := hrel
          have hI := HI.out.below hbw
          have k2 := hI.c 2 (by decide)
          rw [HV.out] at k2
          by_cases hl : j < (es 2).length
          · obtain ⟨gA, capA', hvA, hgA, e0, e1⟩ := entryB hI (f := 2) (by decide) j hl
            obtain ⟨m, hmb, hgood⟩ := hI.good 2 (by decide) _ (List.getElem_mem hl)
            have hbnd := hI.bnd 2 (by decide) _ (List.getElem_mem hl)
            rw [HV.out] at hvA
            cases hvA
            generalize (es 2)[j] = p at *
            obtain ⟨s, k⟩ := p
            obtain ⟨ad, cap, hs, hcap, H⟩ := hgood
            simp only at hs e0 e1 hbnd H hcap
            subst hs
            obtain ⟨K, rfl⟩ : ∃ K : Nat, k = K := ⟨k.toNat, by omega⟩
            have HX := fun W => textOf_any K W (by omega)
            have HR : Hid (0 < m → ∃ b off, ad = some ⟨b, off, none⟩ ∧ b < wr.heap.size ∧ ∀ i, i < m → wr.cell? ⟨b, off + i, none⟩ = some (.string (markT K))) := fun h => by
              obtain ⟨b, off, h1, h2, h3⟩ := H h
              refine ⟨b, off, h1, h2, fun i hi => ?_⟩
              have := h3 i hi 0 _ rfl
              simpa [szC, mkC] using this
            clear H hI
            have hsz := hbw.size
            obtain ⟨wi, rfl⟩ : ∃ wi : World, wi = wr := ⟨_, rfl⟩
            have q0 : (j : Int) < ((es 2).length : Int) := by omega
            generalize markT K = T at *
            have HTX : Hid (∀ W, Calls Tryd.prog 56 #[.int .i64 K] W fun e w' => e = .returned (.string T) ∧ Below W.heap.size W w') := HX
            clear HX
            go_wp2_with fail
            refine (HTX.out _).mono ?_
            rintro e w1 ⟨rfl, hb1⟩
            have hbx := heap_alloc_new wi (.cells #[.slice ad m cap, .int .i64 K] 94)
            have x0 : w1.cell? ⟨wi.heap.size, 0, none⟩ = some (.slice ad m cap) := by
              rw [hb1.cell (p := ⟨wi.heap.size, 0, none⟩) (by simp)]
              exact World.news_of_block hbx 0 _ rfl
            have hx1 : wi.heap.size < w1.heap.size := by have := hb1.size; simp at this; omega
            have hbw1 : Below wo.heap.size wo w1 := (below_alloc hbw _).trans (hb1.mono (by simp; omega))
            have HR1 : Hid (0 < m → ∃ b off, ad = some ⟨b, off, none⟩ ∧ b < w1.heap.size ∧ ∀ i, i < m → w1.cell? ⟨b, off + i, none⟩ = some (.string T)) := fun h => by
              obtain ⟨b, off, r1, r2, r3⟩ := HR.out h
              refine ⟨b, off, r1, by omega, fun i hi => ?_⟩
              rw [hb1.cell (p := ⟨b, off + i, none⟩) (by simp; omega), (below_alloc (Below.refl _ wi) _).cell (p := ⟨b, off + i, none⟩) r2]
              exact r3 i hi
            clear HR hb1 hbx e0 e1 k2 HTX
            go_wp2
            go_loopw [15] (fun s wr => ∃ t : Nat, t ≤ m ∧ s = .int .i64 t ∧ wr = w1) (fun s _ => m - (intOf s).toNat)
            case atStart => exact ⟨0, Nat.zero_le _, rfl, rfl⟩
            case round =>
              obtain ⟨t, ht, rfl, rfl⟩ := hrel
              by_cases htm : t < m
              · obtain ⟨b, off, rfl, hb, hrow⟩ := HR1.out (by omega)
                have c0 := hrow t htm
                clear hrow HR1
                have q1 : (0 : Int) ≤ (t : Int) := by omega
                have q2 : (t : Int) < (m : Int) := by omega
                go_wp2
                exact ⟨⟨t + 1, by omega, by go_num, trivial⟩, by simp [intOf]; omega⟩
              · have q2 : ¬ (t : Int) < (m : Int) := by omega
                clear HR1
                go_wp2
                exact ⟨⟨j + 1, by omega, by go_num, hbw1⟩, by simp [intOf]; omega⟩
          · clear hI
            have q0 : ¬ (j : Int) < ((es 2).length : Int) := by omega
            go_wp2
            go_ret
            exact ⟨rfl, hbw⟩
end Go.Proofs.YtahdlejgjcjeoaaDoor

namespace Go.Proofs.YtahdlejgjcjeoaaDoor
open Go.RowKit

/-- A slice of these texts. -/
def StrsOf (w : World) (v : Value) (l : List ByteArray) : Prop :=
  ∃ ad cap, v = .slice ad l.length cap ∧ (0 < l.length → ∃ b off, ad = some ⟨b, off, none⟩ ∧ b < w.heap.size ∧ ∀ i (h : i < l.length), w.cell? ⟨b, off + i, none⟩ = some (.string l[i]))
theorem strsOf_owns {w : World} {base : Nat} {e : TypeId} {v : Value} {l : List ByteArray} (h : w.ownsRow base e 1 v l.length (l.map Value.string)) : StrsOf w v l := by
  rcases h.2 with ⟨rfl, h0⟩ | ⟨g, cap, cur, rfl, hg, hb, h1, h2, h3, h4⟩
  · exact ⟨none, 0, by rw [h0], fun h => by omega⟩
  · refine ⟨_, cap, rfl, fun _ => ⟨g, 0, rfl, (Array.getElem?_eq_some_iff.1 hb).1, fun i hi => ?_⟩⟩
    have hx : (l.map Value.string)[i]? = some (.string l[i]) := by simp [hi]
    rw [← h4, List.getElem?_take, if_pos (by omega), Array.getElem?_toList] at hx
    rw [Nat.zero_add]
    simp [World.cell?, hb, hx]

set_option maxRecDepth 100000 in
set_option maxHeartbeats 1000000 in
theorem sameValues_any (n : Int) (v1 v2 : Value) (l : List ByteArray) (w : World) (h1 : StrsOf w v1 l) (h2 : StrsOf w v2 l) (hlen : l.length ≤ 281474976710656) :
    Calls Tryd.prog 22 #[.agg #[.int .i64 n, v1], .agg #[.int .i64 n, v2]] w fun e w' => e = .returned (.bool true) ∧ Below w.heap.size w w' := by
  obtain ⟨ad1, cap1, rfl, H1⟩ := h1
  obtain ⟨ad2, cap2, rfl, H2⟩ := h2
  have HR1 : Hid (0 < l.length → ∃ b off, ad1 = some ⟨b, off, none⟩ ∧ b < w.heap.size ∧ ∀ i (h : i < l.length), w.cell? ⟨b, off + i, none⟩ = some (.string l[i])) := H1
  have HR2 : Hid (0 < l.length → ∃ b off, ad2 = some ⟨b, off, none⟩ ∧ b < w.heap.size ∧ ∀ i (h : i < l.length), w.cell? ⟨b, off + i, none⟩ = some (.string l[i])) := H2
  clear H1 H2
  go_enter Tryd.func22, Tryd.ntmps22
  go_wp2
  have hb0 := below_alloc (below_alloc (Below.refl _ w) (.cells #[.int .i64 n, .slice ad1 l.length cap1] 34)) (.cells #[.int .i64 n, .slice ad2 l.length cap2] 34)
  have k1 : ((w.alloc (.cells #[.int .i64 n, .slice ad1 l.length cap1] 34)).alloc (.cells #[.int .i64 n, .slice ad2 l.length cap2] 34)).cell? ⟨w.heap.size, 1, none⟩ = some (.slice ad1 l.length cap1) := by simp
  have k2 : ((w.alloc (.cells #[.int .i64 n, .slice ad1 l.length cap1] 34)).alloc (.cells #[.int .i64 n, .slice ad2 l.length cap2] 34)).cell? ⟨w.heap.size + 1, 1, none⟩ = some (.slice ad2 l.length cap2) := by simp
  have hz : ((w.alloc (.cells #[.int .i64 n, .slice ad1 l.length cap1] 34)).alloc (.cells #[.int .i64 n, .slice ad2 l.length cap2] 34)).heap.size = w.heap.size + 1 + 1 := by simp
  generalize (w.alloc (.cells #[.int .i64 n, .slice ad1 l.length cap1] 34)).alloc (.cells #[.int .i64 n, .slice ad2 l.length cap2] 34) = w0 at *
  have HK1 : Hid (w0.cell? ⟨w.heap.size, 1, none⟩ = some (.slice ad1 l.length cap1)) := k1
  have HK2 : Hid (w0.cell? ⟨w.heap.size + 1, 1, none⟩ = some (.slice ad2 l.length cap2)) := k2
  clear k1 k2
  go_loopw [5] (fun j wr => ∃ k : Nat, k ≤ l.length ∧ j = .int .i64 k ∧ Below w0.heap.size w0 wr) (fun j _ => l.length - (intOf j).toNat)
  case atStart => exact ⟨0, Nat.zero_le _, rfl, Below.refl _ _⟩
  case round =>
    obtain ⟨k, hk, rfl, hbw⟩ := hrel
    have k1 : wr.cell? ⟨w.heap.size, 1, none⟩ = some (.slice ad1 l.length cap1) := by rw [hbw.cell (p := ⟨w.heap.size, 1, none⟩) (by simp only; omega)]; exact HK1.out
    have k2 : wr.cell? ⟨w.heap.size + 1, 1, none⟩ = some (.slice ad2 l.length cap2) := by rw [hbw.cell (p := ⟨w.heap.size + 1, 1, none⟩) (by simp only; omega)]; exact HK2.out
    have hbb : Below w.heap.size w wr := hb0.trans (hbw.mono hb0.size)
    by_cases hl : k < l.length
    · obtain ⟨b1, off1, rfl, hb1, hrow1⟩ := HR1.out (by omega)
      obtain ⟨b2, off2, rfl, hb2, hrow2⟩ := HR2.out (by omega)
      have c0 : wr.cell? ⟨b1, off1 + k, none⟩ = some (.string l[k]) := by rw [hbb.cell (p := ⟨b1, off1 + k, none⟩) hb1]; exact hrow1 k hl
      have d0 : wr.cell? ⟨b2, off2 + k, none⟩ = some (.string l[k]) := by rw [hbb.cell (p := ⟨b2, off2 + k, none⟩) hb2]; exact hrow2 k hl
      clear hrow1 hrow2 HR1 HR2 HK1 HK2
      generalize l[k] = x at *
      have q1 : (0 : Int) ≤ (k : Int) := by omega
      have q2 : (k : Int) < (l.length : Int) := by omega
      go_wp2
      go_quiet (fail)
      go_wp2
      exact ⟨⟨k + 1, by omega, by go_num, below_drewN hbw _⟩, by simp [intOf]; omega⟩
    · go_wp2
      go_ret
      exact ⟨rfl, hbb⟩
end Go.Proofs.YtahdlejgjcjeoaaDoor

namespace Go.Proofs.YtahdlejgjcjeoaaDoor
open Go.RowKit

/-- A value in two cells. -/
def Box (w : World) (q : Nat) (n : Int) (v : Value) : Prop := w.cell? ⟨q, 0, none⟩ = some (.int .i64 n) ∧ w.cell? ⟨q, 1, none⟩ = some v
theorem Box.below {w w' : World} {q B : Nat} {n : Int} {v : Value} (h : Box w q n v) (hb : Below B w w') (hq : q < B) : Box w' q n v :=
  ⟨by rw [hb.cell (p := ⟨q, 0, none⟩) hq]; exact h.1, by rw [hb.cell (p := ⟨q, 1, none⟩) hq]; exact h.2⟩
theorem Box.fr {w w' : World} {q : Nat} {n : Int} {v : Value} {X : Nat → Prop} (h : Box w q n v) (hf : Fr X w w') (hq : q < w.heap.size) (hx : ¬ X q) : Box w' q n v :=
  ⟨by rw [World.cell?_of_block (w := w) (a := ⟨q, 0, none⟩) (hf.block q hq hx)]; exact h.1, by rw [World.cell?_of_block (w := w) (a := ⟨q, 1, none⟩) (hf.block q hq hx)]; exact h.2⟩
theorem StrsOf.below {w w' : World} {v : Value} {l : List ByteArray} (h : StrsOf w v l) (hb : Below w.heap.size w w') : StrsOf w' v l := by
  obtain ⟨ad, cap, rfl, H⟩ := h
  refine ⟨ad, cap, rfl, fun h0 => ?_⟩
  obtain ⟨b, off, rfl, hlt, hrow⟩ := H h0
  exact ⟨b, off, rfl, Nat.lt_of_lt_of_le hlt hb.size, fun i hi => by rw [hb.cell (p := ⟨b, off + i, none⟩) hlt]; exact hrow i hi⟩
theorem ReadSpec.length {l : List At} {kind : Int} {key : ByteArray} {n : Int} {es : List ByteArray} (h : ReadSpec l kind key n es) (hlen : l.length ≤ 4194304) : es.length ≤ 4194304 := by
  rcases h with ⟨_, _, T, hT, _, rfl⟩ | ⟨_, _, rfl⟩
  · have h1 := valE_length T T kind key
    have h2 := told_len hT
    omega
  · simp

end Go.Proofs.YtahdlejgjcjeoaaDoor

namespace Go.Proofs.YtahdlejgjcjeoaaDoor
open Go.RowKit

set_option maxRecDepth 100000 in
set_option maxHeartbeats 4000000 in
theorem reads_walk (v1 : Value) (l : List At) (kind : Int) (key : ByteArray) (w : World) (hr : RulesAt w) (h1 : SliceOf w v1 l) (hs1 : ∀ a ∈ l, short a) (hlen : l.length ≤ 4194304) (hk : key.size ≤ 1099511627776) :
    Calls Tryd.prog 6 #[v1, .int .i64 kind, .string key] w fun e w' => e = .returned (.bool true) ∧ Below w.heap.size w w' := by
  have HR : Hid (RulesAt w) := hr
  have H1 : Hid (SliceOf w v1 l) := h1
  have HS1 : Hid (∀ a ∈ l, short a) := hs1
  obtain ⟨ad1, cp1, rfl, _, _⟩ := h1
  clear hr hs1
  go_enter Tryd.func6, Tryd.ntmps6
  go_wp2_with fail
  refine (lent_any _ l w H1.out hlen).mono ?_
  rintro e w1 ⟨gx, rfl, hox, hb1⟩
  have nx := own_lt hox gx rfl
  go_wp2_with fail
  refine (refRead_any _ l kind key w1 (H1.out.below hb1) HS1.out (by omega) (fun T h => Nat.le_trans (told_length h) hlen) hk).mono ?_
  rintro e w2 ⟨n2, v2, es2, rfl, ho2, hs2, hb2⟩
  have hbw2 : Below w.heap.size w w2 := hb1.trans (hb2.mono hb1.size)
  have hox2 := owns_below hox hb2
  have hz2 := hb2.size
  have hz1 := hb1.size
  obtain ⟨ad2, cp2, hv2⟩ := own_form ho2
  subst hv2
  clear hox hb2 hb1
  generalize hnx8 : l.length + 8 = nx8 at *
  have HNX : Hid (nx8 = (l ++ List.replicate 8 bey).length) := by rw [Hid]; simp; omega
  have q1 : (0 : Int) ≤ (l.length : Int) := by omega
  have q2 : (l.length : Int) ≤ (nx8 : Int) := by omega
  have q5 : nx8 ≤ 4194312 := by omega
  clear hnx8
  have HX2 : Hid (w2.ownsRow w.heap.size 52 6 (.slice (some ⟨gx, 0, none⟩) nx8 nx8) nx8 (flat (l ++ List.replicate 8 bey))) := hox2
  have HO2 : Hid (w2.ownsRow w1.heap.size 9 1 (.slice ad2 es2.length cp2) es2.length (es2.map Value.string)) := ho2
  clear hox2 ho2
  generalize hcd : readCode l kind = c at *
  have HCD : Hid (readCode l kind = c) := hcd
  clear hcd
  have HLR : Hid (∀ W, Below w.heap.size w W → Below w2.heap.size w2 W → Calls Tryd.prog 21 #[.slice (some ⟨gx, 0, none⟩) l.length nx8, .int .i64 kind, .string key] W fun e w' => ∃ n v es, e = .returned (.tuple #[.agg #[.int .i64 n, v], .int .i64 c]) ∧ w'.ownsRow W.heap.size 9 1 v es.length (es.map Value.string) ∧ Hid (ReadSpec l kind key n es ∧ (c = 0 ∨ v = .slice none 0 0)) ∧ Below W.heap.size W w') := fun W hW hW2 => by
    have := latRead_any _ l kind key W (HR.out.below hW HR.out.1) (lent_cut (owns_below HX2.out hW2) HNX.out) HS1.out hlen hk
    rw [HCD.out] at this
    exact this
  go_wp2_with fail
  have hbx2 := heap_alloc_new w2 (.cells #[.int .i64 n2, .slice ad2 es2.length cp2] 34)
  have a2 : (w2.alloc (.cells #[.int .i64 n2, .slice ad2 es2.length cp2] 34)).cell? ⟨w2.heap.size, 0, none⟩ = some (.int .i64 n2) := World.news_of_block hbx2 0 _ rfl
  have b2 : (w2.alloc (.cells #[.int .i64 n2, .slice ad2 es2.length cp2] 34)).cell? ⟨w2.heap.size, 1, none⟩ = some (.slice ad2 es2.length cp2) := World.news_of_block hbx2 1 _ rfl
  have hb23 := below_alloc (Below.refl _ w2) (.cells #[.int .i64 n2, .slice ad2 es2.length cp2] 34)
  have hz3 : (w2.alloc (.cells #[.int .i64 n2, .slice ad2 es2.length cp2] 34)).heap.size = w2.heap.size + 1 := by simp
  generalize w2.alloc (.cells #[.int .i64 n2, .slice ad2 es2.length cp2] 34) = w3 at *
  have hbw3 : Below w.heap.size w w3 := hbw2.trans (hb23.mono hbw2.size)
  refine (HLR.out w3 hbw3 hb23).mono ?_
  rintro e w4 ⟨n4, v4, es4, rfl, ho4, hs4, hb4⟩
  have hb24 : Below w2.heap.size w2 w4 := hb23.trans (hb4.mono (by omega))
  have hbw4 : Below w.heap.size w w4 := hbw3.trans (hb4.mono hbw3.size)
  have a4 : w4.cell? ⟨w2.heap.size, 0, none⟩ = some (.int .i64 n2) := by rw [hb4.cell (p := ⟨w2.heap.size, 0, none⟩) (by simp only; omega)]; exact a2
  have b4 : w4.cell? ⟨w2.heap.size, 1, none⟩ = some (.slice ad2 es2.length cp2) := by rw [hb4.cell (p := ⟨w2.heap.size, 1, none⟩) (by simp only; omega)]; exact b2
  have hz4 := hb4.size
  obtain ⟨en, ee⟩ := ReadSpec.unique hs4.out.1 hs2.out
  subst en ee
  have HC4 : Hid (c = 0 ∨ v4 = .slice none 0 0) := hs4.out.2
  obtain ⟨ad4, cp4, hv4⟩ := own_form ho4
  subst hv4
  have HO4 : Hid (w4.ownsRow w3.heap.size 9 1 (.slice ad4 es4.length cp4) es4.length (es4.map Value.string)) := ho4
  clear ho4 hb4 a2 b2 hs4 hbx2
  go_wp2_with fail
  have hbx4 := heap_alloc_new w4 (.cells #[.int .i64 n4, .slice ad4 es4.length cp4] 34)
  have a4' : (w4.alloc (.cells #[.int .i64 n4, .slice ad4 es4.length cp4] 34)).cell? ⟨w4.heap.size, 0, none⟩ = some (.int .i64 n4) := World.news_of_block hbx4 0 _ rfl
  have b4' : (w4.alloc (.cells #[.int .i64 n4, .slice ad4 es4.length cp4] 34)).cell? ⟨w4.heap.size, 1, none⟩ = some (.slice ad4 es4.length cp4) := World.news_of_block hbx4 1 _ rfl
  have hb45 := below_alloc (Below.refl _ w4) (.cells #[.int .i64 n4, .slice ad4 es4.length cp4] 34)
  have hz5 : (w4.alloc (.cells #[.int .i64 n4, .slice ad4 es4.length cp4] 34)).heap.size = w4.heap.size + 1 := by simp
  generalize w4.alloc (.cells #[.int .i64 n4, .slice ad4 es4.length cp4] 34) = w5 at *
  have hb25 : Below w2.heap.size w2 w5 := hb24.trans (hb45.mono hb24.size)
  have hbw5 : Below w.heap.size w w5 := hbw4.trans (hb45.mono hbw4.size)
  refine (HLR.out w5 hbw5 hb25).mono ?_
  rintro e w6 ⟨n6, v6, es6, rfl, ho6, hs6, hb6⟩
  obtain ⟨en, ee⟩ := ReadSpec.unique hs6.out.1 hs2.out
  subst en ee
  have hb46 : Below w4.heap.size w4 w6 := hb45.trans (hb6.mono (by omega))
  have hb26 : Below w2.heap.size w2 w6 := hb24.trans (hb46.mono hb24.size)
  have hbw6 : Below w.heap.size w w6 := hbw5.trans (hb6.mono hbw5.size)
  have hz6 := hb6.size
  have a6 : w6.cell? ⟨w2.heap.size, 0, none⟩ = some (.int .i64 n6) := by rw [hb46.cell (p := ⟨w2.heap.size, 0, none⟩) (by simp only; omega)]; exact a4
  have b6 : w6.cell? ⟨w2.heap.size, 1, none⟩ = some (.slice ad2 es6.length cp2) := by rw [hb46.cell (p := ⟨w2.heap.size, 1, none⟩) (by simp only; omega)]; exact b4
  have a6' : w6.cell? ⟨w4.heap.size, 0, none⟩ = some (.int .i64 n6) := by rw [hb6.cell (p := ⟨w4.heap.size, 0, none⟩) (by simp only; omega)]; exact a4'
  have b6' : w6.cell? ⟨w4.heap.size, 1, none⟩ = some (.slice ad4 es6.length cp4) := by rw [hb6.cell (p := ⟨w4.heap.size, 1, none⟩) (by simp only; omega)]; exact b4'
  obtain ⟨ad6, cp6, hv6⟩ := own_form ho6
  subst hv6
  have HO6 : Hid (w6.ownsRow w5.heap.size 9 1 (.slice ad6 es6.length cp6) es6.length (es6.map Value.string)) := ho6
  have hes6 : es6.length ≤ 4194304 := ReadSpec.length hs2.out hlen
  have l46 : w4.heap.size < w6.heap.size := by omega
  have l26 : w2.heap.size < w6.heap.size := by omega
  clear ho6 hb6 a4 b4 a4' b4' hs6 hs2 hbx4 HLR HCD
  go_wp2_with fail
  have hbx6 := heap_alloc_new w6 (.cells #[.int .i64 n6, .slice ad6 es6.length cp6] 34)
  have x6 : Hid (Box (w6.alloc (.cells #[.int .i64 n6, .slice ad6 es6.length cp6] 34)) w6.heap.size n6 (.slice ad6 es6.length cp6)) := ⟨World.news_of_block hbx6 0 _ rfl, World.news_of_block hbx6 1 _ rfl⟩
  have hb67 := below_alloc (Below.refl _ w6) (.cells #[.int .i64 n6, .slice ad6 es6.length cp6] 34)
  have hz7 : (w6.alloc (.cells #[.int .i64 n6, .slice ad6 es6.length cp6] 34)).heap.size = w6.heap.size + 1 := by simp
  generalize w6.alloc (.cells #[.int .i64 n6, .slice ad6 es6.length cp6] 34) = w7 at *
  have x2 : Hid (Box w7 w2.heap.size n6 (.slice ad2 es6.length cp2)) := Box.below ⟨a6, b6⟩ hb67 l26
  have x4 : Hid (Box w7 w4.heap.size n6 (.slice ad4 es6.length cp4)) := Box.below ⟨a6', b6'⟩ hb67 l46
  have hb27 : Below w2.heap.size w2 w7 := hb26.trans (hb67.mono hb26.size)
  have hb47 : Below w4.heap.size w4 w7 := hb46.trans (hb67.mono hb46.size)
  have hbw7 : Below w.heap.size w w7 := hbw6.trans (hb67.mono hbw6.size)
  have S2 : Hid (StrsOf w7 (.slice ad2 es6.length cp2) es6) := strsOf_owns (owns_below HO2.out hb27)
  have S4 : Hid (StrsOf w7 (.slice ad4 es6.length cp4) es6) := strsOf_owns (owns_below HO4.out hb47)
  have S6 : Hid (StrsOf w7 (.slice ad6 es6.length cp6) es6) := strsOf_owns (owns_below HO6.out hb67)
  clear a6 b6 a6' b6' hbx6 hbw2 hbw3 hbw4 hbw5 hbw6 hb23 hb24 hb25 hb26 hb45
  refine (sameValues_any n6 _ _ es6 w7 S4.out S2.out (by omega)).mono ?_
  rintro e w8 ⟨rfl, hb8⟩
  have hz8 := hb8.size
  obtain ⟨a2, b2⟩ := x2.out.below hb8 (by omega)
  obtain ⟨a6, b6⟩ := x6.out.below hb8 (by omega)
  clear S4
  go_wp2_with fail
  refine (sameValues_any n6 _ _ es6 w8 (S6.out.below hb8) (S2.out.below hb8) (by omega)).mono ?_
  rintro e w9 ⟨rfl, hb9⟩
  have hz9 := hb9.size
  have hb79 : Below w7.heap.size w7 w9 := hb8.trans (hb9.mono hb8.size)
  have hb29 : Below w2.heap.size w2 w9 := hb27.trans (hb79.mono hb27.size)
  have hbw9 : Below w.heap.size w w9 := hbw7.trans (hb79.mono hbw7.size)
  clear S2 S6 hb8 hb9 a2 b2 a6 b6
  go_wp2_with fail
  refine (lent_any _ l w9 (H1.out.below hbw9) hlen).mono ?_
  rintro e w10 ⟨g10, rfl, ho10, hb10⟩
  have hbw10 : Below w.heap.size w w10 := hbw9.trans (hb10.mono hbw9.size)
  have hb210 : Below w2.heap.size w2 w10 := hb29.trans (hb10.mono hb29.size)
  have hb710 : Below w7.heap.size w7 w10 := hb79.trans (hb10.mono (by omega))
  have SA : Hid (SliceOf w10 (.slice (some ⟨g10, 0, none⟩) (l.length + 8) (l.length + 8)) (l ++ List.replicate 8 bey)) := sliceOf_owns (by simp) ho10
  have SX : Hid (SliceOf w10 (.slice (some ⟨gx, 0, none⟩) nx8 nx8) (l ++ List.replicate 8 bey)) := sliceOf_owns HNX.out (owns_below HX2.out hb210)
  have hz10 := hb10.size
  clear ho10 hb10
  go_wp2_with fail
  refine (sameAtoms_any _ _ _ w10 SX.out SA.out (by simp; omega)).mono ?_
  rintro e w11 ⟨rfl, hb11⟩
  have hz11 := hb11.size
  have hbw11 : Below w.heap.size w w11 := hbw10.trans (hb11.mono hbw10.size)
  have hb711 : Below w7.heap.size w7 w11 := hb710.trans (hb11.mono (by omega))
  have y4 : Hid (Box w11 w4.heap.size n6 (.slice ad4 es6.length cp4)) := x4.out.below hb711 (by omega)
  have y6 : Hid (Box w11 w6.heap.size n6 (.slice ad6 es6.length cp6)) := x6.out.below hb711 (by omega)
  have O4 : Hid (w11.ownsRow w3.heap.size 9 1 (.slice ad4 es6.length cp4) es6.length (es6.map Value.string)) := owns_below HO4.out (hb47.trans (hb711.mono (by omega)))
  have O6 : Hid (w11.ownsRow w5.heap.size 9 1 (.slice ad6 es6.length cp6) es6.length (es6.map Value.string)) := owns_below HO6.out (hb67.trans (hb711.mono (by omega)))
  have M4 : Hid (∀ q, (Value.slice ad4 es6.length cp4).ownBlock = some q → w3.heap.size ≤ q ∧ q < w4.heap.size) := fun q hq => ⟨owns_base HO4.out q hq, own_lt HO4.out q hq⟩
  have M6 : Hid (∀ q, (Value.slice ad6 es6.length cp6).ownBlock = some q → w5.heap.size ≤ q ∧ q < w6.heap.size) := fun q hq => ⟨owns_base HO6.out q hq, own_lt HO6.out q hq⟩
  have hzw : w.heap.size ≤ w3.heap.size := by omega
  clear hb11 hb710 hb79 hb210 hb29 SX SA x2 x4 x6 HO2 HO4 HO6 HX2 hb67 hb47 hb27 hbw10 hbw9 hbw7 hb46
  obtain ⟨a4, b4⟩ := y4.out
  have l411 : w4.heap.size < w11.heap.size := by omega
  have l611 : w6.heap.size < w11.heap.size := by omega
  by_cases hc0 : c = 0
  · subst hc0
    clear HC4
    go_wp2_with fail
    refine (ownTexts_any w11.heap.size bk0 (.slice ad4 es6.length cp4) es0 w3.heap.size es6.length (es6.map Value.string) _ (bk_new w11) (O4.out.alloc _) (by simp; omega) (fun q hq => ⟨by have := M4.out q hq; simp; omega, by have := M4.out q hq; omega, fun j _ e => by simp [bk0, Value.ownBlock] at e, fun j _ p hp => by cases hp⟩) (by omega) (by simp [es0])).mono ?_
    rintro e w12 ⟨rfl, vf, ef, hI, hl12, hent, hfr⟩
    have hz12 : w11.heap.size + 1 ≤ w12.heap.size := by have := hfr.out.size; simpa using this
    have hl12' : ef.length = 4 := by simpa [es0] using hl12
    have o6 := owns_fr (O6.out.alloc _) hfr.out (fun q hq hx => by
      have m6 := M6.out q hq
      rcases hx with h | h | h
      · omega
      · have := M4.out q h.symm; omega
      · simp [bk0, Value.ownBlock] at h)
    obtain ⟨a12, b12⟩ : Box w12 w6.heap.size n6 (.slice ad6 es6.length cp6) := Box.fr (y6.out.below (below_alloc (Below.refl _ w11) _) l611) hfr.out (by simp; omega) (fun hx => by
      rcases hx with h | h | h
      · omega
      · have := M4.out _ h.symm; omega
      · simp [bk0, Value.ownBlock] at h)
    have hcon2 := ownTexts_any w11.heap.size (updF bk0 2 vf) (.slice ad6 es6.length cp6) (updF es0 2 ef) w5.heap.size es6.length (es6.map Value.string) w12 hI.out o6 (by omega) (fun q hq => ⟨by have := M6.out q hq; omega, by have := M6.out q hq; omega, fun j hj e => by
        have := owns_base (hI.out.row j hj) q e.symm
        have := M6.out q hq
        omega, fun j hj p hp e => by
        have m6 := M6.out q hq
        by_cases hj2 : j = 2
        · subst hj2
          rw [updF_same] at hp
          rcases hent.out p hp with h | h
          · cases h
          · rcases h q e with h' | h'
            · simp at h'; omega
            · have := M4.out q h'.symm; omega
        · rw [updF_other _ _ hj2] at hp
          cases hp⟩) (by omega) (by rw [updF_same]; omega)
    have HB2 : Hid (∀ q, vf.ownBlock = some q → w11.heap.size + 1 ≤ q) := fun q hq => owns_base (hI.out.row 2 (by decide)) q (by rw [updF_same]; exact hq)
    have hb12 : Below w.heap.size w w12 := (below_alloc hbw11 _).trans (hfr.out.toBelow (by simp; omega) (fun q hq => by
      rcases hq with h | h | h
      · omega
      · have := M4.out q h.symm; omega
      · simp [bk0, Value.ownBlock] at h))
    clear hI hl12 hent hfr o6
    go_wp2_with fail
    refine hcon2.mono ?_
    rintro e w13 ⟨rfl, vf2, ef2, hI2, hl13, hent2, hfr2⟩
    rw [updF_same] at hl13
    have hI3 := hI2.out
    rw [updF_updF, updF_updF] at hI3
    have hcon3 := looksT_any w11.heap.size (updF bk0 2 vf2) (updF es0 2 ef2) w13 hI3 rfl rfl rfl (by rw [updF_same]; omega)
    have hb13 : Below w.heap.size w w13 := hb12.trans (hfr2.out.toBelow (by omega) (fun q hq => by
      rcases hq with h | h | h
      · omega
      · have := M6.out q h.symm; omega
      · rw [updF_same] at h; have := HB2.out q h.symm; omega))
    clear hcon2 hI2 hI3 hl13 hent2 hfr2 hb12
    go_wp2_with fail
    refine hcon3.mono ?_
    rintro e w14 ⟨rfl, hb14⟩
    have hfin : Below w.heap.size w w14 := hb13.trans (hb14.mono hb13.size)
    clear hcon3 hb14 hb13
    go_wp2
    go_ret
    exact ⟨rfl, hfin⟩
  · have hn4 : ad4 = none := by
      rcases HC4.out with h | h
      · exact absurd h hc0
      · exact (Value.slice.inj h).1
    subst hn4
    clear HC4
    go_wp2_with fail
    refine (ownTexts_any w11.heap.size bk0 (.slice none es6.length cp4) es0 w3.heap.size es6.length (es6.map Value.string) _ (bk_new w11) (O4.out.alloc _) (by simp; omega) (fun q hq => ⟨by have := M4.out q hq; simp; omega, by have := M4.out q hq; omega, fun j _ e => by simp [bk0, Value.ownBlock] at e, fun j _ p hp => by cases hp⟩) (by omega) (by simp [es0])).mono ?_
    rintro e w12 ⟨rfl, vf, ef, hI, hl12, hent, hfr⟩
    have hz12 : w11.heap.size + 1 ≤ w12.heap.size := by have := hfr.out.size; simpa using this
    have hl12' : ef.length = 4 := by simpa [es0] using hl12
    have o6 := owns_fr (O6.out.alloc _) hfr.out (fun q hq hx => by
      have m6 := M6.out q hq
      rcases hx with h | h | h
      · omega
      · have := M4.out q h.symm; omega
      · simp [bk0, Value.ownBlock] at h)
    obtain ⟨a12, b12⟩ : Box w12 w6.heap.size n6 (.slice ad6 es6.length cp6) := Box.fr (y6.out.below (below_alloc (Below.refl _ w11) _) l611) hfr.out (by simp; omega) (fun hx => by
      rcases hx with h | h | h
      · omega
      · have := M4.out _ h.symm; omega
      · simp [bk0, Value.ownBlock] at h)
    have hcon2 := ownTexts_any w11.heap.size (updF bk0 2 vf) (.slice ad6 es6.length cp6) (updF es0 2 ef) w5.heap.size es6.length (es6.map Value.string) w12 hI.out o6 (by omega) (fun q hq => ⟨by have := M6.out q hq; omega, by have := M6.out q hq; omega, fun j hj e => by
        have := owns_base (hI.out.row j hj) q e.symm
        have := M6.out q hq
        omega, fun j hj p hp e => by
        have m6 := M6.out q hq
        by_cases hj2 : j = 2
        · subst hj2
          rw [updF_same] at hp
          rcases hent.out p hp with h | h
          · cases h
          · rcases h q e with h' | h'
            · simp at h'; omega
            · have := M4.out q h'.symm; omega
        · rw [updF_other _ _ hj2] at hp
          cases hp⟩) (by omega) (by rw [updF_same]; omega)
    have HB2 : Hid (∀ q, vf.ownBlock = some q → w11.heap.size + 1 ≤ q) := fun q hq => owns_base (hI.out.row 2 (by decide)) q (by rw [updF_same]; exact hq)
    have hb12 : Below w.heap.size w w12 := (below_alloc hbw11 _).trans (hfr.out.toBelow (by simp; omega) (fun q hq => by
      rcases hq with h | h | h
      · omega
      · have := M4.out q h.symm; omega
      · simp [bk0, Value.ownBlock] at h))
    clear hI hl12 hent hfr o6
    go_wp2_with fail
    refine hcon2.mono ?_
    rintro e w13 ⟨rfl, vf2, ef2, hI2, hl13, hent2, hfr2⟩
    rw [updF_same] at hl13
    have hI3 := hI2.out
    rw [updF_updF, updF_updF] at hI3
    have hcon3 := looksT_any w11.heap.size (updF bk0 2 vf2) (updF es0 2 ef2) w13 hI3 rfl rfl rfl (by rw [updF_same]; omega)
    have hb13 : Below w.heap.size w w13 := hb12.trans (hfr2.out.toBelow (by omega) (fun q hq => by
      rcases hq with h | h | h
      · omega
      · have := M6.out q h.symm; omega
      · rw [updF_same] at h; have := HB2.out q h.symm; omega))
    clear hcon2 hI2 hI3 hl13 hent2 hfr2 hb12
    go_wp2_with fail
    refine hcon3.mono ?_
    rintro e w14 ⟨rfl, hb14⟩
    have hfin : Below w.heap.size w w14 := hb13.trans (hb14.mono hb13.size)
    clear hcon3 hb14 hb13
    go_wp2
    go_ret
    exact ⟨rfl, hfin⟩
end Go.Proofs.YtahdlejgjcjeoaaDoor

namespace Go.Proofs.YtahdlejgjcjeoaaDoor.readsCard
open Go.ChangeShapes Go.WideShapes Go.ChangeAt Go.RowKit

theorem own : ownKnob Tryd.prog.godebug = none := by kernel_rfl
theorem lays : laidOutB Tryd.prog = true := by kernel_rfl
theorem readA : Tryd.prog.readableRec 22 = true := by kernel_rfl
theorem readS : Tryd.prog.readableRec 9 = true := by kernel_rfl
theorem rowS : 9 < Tryd.prog.types.size := of_decide_eq_true (by kernel_rfl)
theorem readI : Tryd.prog.readableRec 3 = true := by kernel_rfl
theorem rowI : 3 < Tryd.prog.types.size := of_decide_eq_true (by kernel_rfl)
theorem rowA : 22 < Tryd.prog.types.size := of_decide_eq_true (by kernel_rfl)

set_option maxRecDepth 100000 in
/-- FOR EVERY INPUT OF THAT BULK AND EVERY WORLD THAT HOLDS THE TABLE. -/
theorem contract (H : Type) (en : TypeId × Value → H) (W : World) (base : Nat) (args : Array Value) (ds gs : List (DataW H)) (before : List MemPlace)
    (hval : ∀ (j : Nat) t v, Tryd.f6.params[j]? = some t → args[j]? = some v → Value.okWide Tryd.prog W .any base t v)
    (hW : DataW.Whole en Tryd.prog Tryd.f6.params.toList Rows.readsSpec.vars false W args.toList ds gs before) (hk : Rows.uptoSmall H (ds ++ gs) = true) (hL : laidMetH Tryd.prog Rows.readsUptoRow.laid W) :
    Calls Tryd.prog 6 args W fun e W' => ∃ v, e = .returned v ∧ Rows.readsSpec.post en Tryd.prog Tryd.f6 false true false false W args v W' := by
  have hW' := hW
  obtain ⟨p, q, hA0, hV, rfl, hfz, hnd⟩ := hW
  have hA : DataW.TrodAll en Tryd.prog W 0 (fun _ => true) true Tryd.f6.params.toList args.toList ds p := hA0
  rw [Tryd.params6] at hA hval
  obtain ⟨v0, v1, v2, d0, d1, d2, p0, p1, p2, rfl, rfl, rfl, h0, h1, h2⟩ := trodAll_three hA
  obtain ⟨rfl, rfl⟩ := trodVars_none hV
  clear hA0
  have hb : Rows.uptoBulk d0 + (Rows.uptoBulk d1 + (Rows.uptoBulk d2 + 0)) ≤ 1048576 := by simpa [Rows.uptoSmall, Rows.uptoBulkAll] using hk
  obtain ⟨l, s1, t1, n1⟩ := open_atoms (hval 0 _ v0 rfl rfl) h0 (by omega)
  obtain ⟨kind, rfl, rfl, rfl, -⟩ := open_int Tryd.underlying3 (hval 1 _ v1 rfl rfl) h1
  obtain ⟨y, rfl, rfl, rfl, -⟩ := Go.ChangeMaps.open_string Tryd.underlying9 (hval 2 _ v2 rfl rfl) h2
  have hy : y.size ≤ 1048576 := by
    simp only [Rows.uptoBulk] at hb
    have : y.data.toList.length = y.size := Array.length_toList
    omega
  have hr := rules_of_laid hL
  refine (reads_walk v0 l kind y W hr s1 t1 (by omega) (by omega)).mono fun e W' ⟨he, hbel⟩ => ?_
  subst he
  have hlt : ∀ x ∈ p0 ++ [] ++ [], x.block < W.heap.size := fun x hx => hW'.lt x (by simpa using hx)
  refine ⟨_, rfl, post_of_below (pa := p0 ++ [] ++ []) (pv := []) hW' (fun _ _ _ => trodAll_cons_mk (shut_bool Tryd.underlying4 _) trodAll_mk0) (fun sp hsp => ?_) (fun _ _ => rfl) rfl hbel (ok_one (by kernel_rfl) rfl (okWide_bool_mk Tryd.underlying4 _))⟩
  rw [Tryd.params6]
  have k0 : DataW.Trod en Tryd.prog W' 0 sp true 22 v0 d0 p0 := WideElems.Trod_stays lays readA rowA h0 (fun x hx => hbel.same (hlt x (by simp [hx]))) (fun x hx => hsp x (by simp [hx]))
  have k1 : DataW.Trod en Tryd.prog W' 0 sp true 3 (.int .i64 kind) (.lit (.int .i64 kind)) [] := WideElems.Trod_stays lays readI rowI h1 (fun x hx => by cases hx) (fun x hx => by cases hx)
  have k2 : DataW.Trod en Tryd.prog W' 0 sp true 9 (.string y) (.lit (.string y.data.toList)) [] := WideElems.Trod_stays lays readS rowS h2 (fun x hx => by cases hx) (fun x hx => by cases hx)
  have k3 := trodAll_mk3 k0 k1 k2
  rw [← List.append_assoc] at k3
  exact k3

/-- A WORLD FOR THE WITNESS. -/
def laidWorld (P : Program) (os : Os) : World :=
  { World.holding P os ⟨#[], #[], []⟩ with heap := (World.holding P os ⟨#[], #[], []⟩).heap.modify 0 fun
      | .cells _ t frozen => .cells #[.int .i64 0, .int .i64 5, .int .i64 1, .int .i64 2147483647, .int .i64 0, .bool false, .int .i64 1, .int .i64 5, .int .i64 1, .int .i64 2147483647, .int .i64 0, .bool false, .int .i64 0, .int .i64 0, .int .i64 0, .int .i64 0, .int .i64 8, .bool false, .int .i64 1, .int .i64 0, .int .i64 0, .int .i64 0, .int .i64 8, .bool false, .int .i64 0, .int .i64 5, .int .i64 1, .int .i64 2147483647, .int .i64 8, .bool true] t frozen
      | o => o }
theorem laid_met (os : Os) : laidMet Tryd.prog Rows.readsUptoRow.laid ((laidWorld Tryd.prog os).forCall (fun _ _ => 0) ⟨#[], #[.slice none 0 0, .int .i64 0, .string ⟨#[]⟩], []⟩).memory :=
  laidMet_of_run' 8 (by kernel_rfl) (by kernel_rfl)
theorem reads (os : Os) {H : Type} (en : TypeId × Value → H) : ∃ places, DataW.whole en Tryd.prog ((laidWorld Tryd.prog os).forCall (fun _ _ => 0) ⟨#[], #[.slice none 0 0, .int .i64 0, .string ⟨#[]⟩], []⟩).memory Tryd.f6.params.toList Rows.readsSpec.vars false #[Value.slice none 0 0, .int .i64 0, .string ⟨#[]⟩].toList 8 = some ([.nil, .lit (.int .i64 0), .lit (.string [])], [], places) :=
  ⟨[], by kernel_rfl⟩

set_option maxRecDepth 100000 in
theorem liftedUpto (os : Os) (started : os.Started) (H : Type) (en : TypeId × Value → H) (F : Stop.Interp) :
    ReturnsInHanded {} Tryd.checked os 6 .any ((Rows.OpenSpec.upto Rows.readsSpec).preRow en Tryd.prog Tryd.f6 Rows.readsUptoRow.domain false Rows.readsUptoRow.laid) (((Rows.OpenSpec.upto Rows.readsSpec).at F).post en Tryd.prog Tryd.f6 false true false false) := by
  obtain ⟨places, hx⟩ := reads os en
  refine returnsInHanded_of_row (C := Tryd.checked) (s := Rows.OpenSpec.upto Rows.readsSpec) own started (by kernel_rfl) Tryd.func6
    (witness_row_at (enc := en) (C := Tryd.checked) false (laidWorld Tryd.prog os) #[.slice none 0 0, .int .i64 0, .string ⟨#[]⟩] rfl (by kernel_rfl) (by kernel_rfl) (by kernel_rfl)
      (OpenSpec.preRow_of_cond 8 hx (by kernel_rfl) (fun k hk => by cases hk; kernel_rfl) (by kernel_rfl) (laid_met os))) ?_
  intro W base args ds gs before hval hW _ hcond _ hL _ _
  exact contract H en W base args ds gs before hval hW (hcond _ rfl) hL

theorem saidUpto : Rows.ReadsUptoSaid :=
  OpenClaim.holds_of_cond 6 Tryd.f6 rfl rfl rfl rfl rfl rfl rfl ⟨rfl, rfl, rfl, rfl, rfl⟩ rfl rfl rfl rfl rfl (by kernel_rfl) Tryd.func6 (by kernel_rfl)
    (of_decide_eq_true (by kernel_rfl)) (by unfold Func.isWrapper; first | (rw [if_pos (by decide +kernel)]; kernel_rfl) | (rw [if_neg (by decide +kernel)]; exact ⟨rfl, rfl⟩))
    (fun os started H en _ F => by rw [OpenClaim.pre_eq_preRow]; exact liftedUpto os started H en F)

theorem plain (f : FuncId) (fn : Func) (hf : Tryd.pinned.checked.prog.funcNamed "ripple/ripplelaw.Reads" = some f) (hfn : Tryd.pinned.checked.prog.funcs[f]? = some fn) :
    false = Tryd.pinned.checked.prog.looks [] ∧ ∀ (j : Nat) t, fn.params[j]? = some t → Tryd.pinned.checked.prog.wantsStandIn t = false := by
  obtain rfl : f = 6 := Option.some.inj ((show Tryd.prog.funcNamed "ripple/ripplelaw.Reads" = some 6 by kernel_rfl).symm.trans hf) |>.symm
  obtain rfl : fn = Tryd.f6 := (Option.some.inj (Tryd.func6.symm.trans hfn)).symm
  refine ⟨by kernel_rfl, fun j t ht => ?_⟩
  rw [Tryd.params6] at ht
  have hm : t = 22 ∨ t = 3 ∨ t = 9 := by simpa using Array.mem_of_getElem? ht
  rcases hm with rfl | rfl | rfl
  · exact (show Tryd.prog.wantsStandIn 22 = false by kernel_rfl)
  · exact (show Tryd.prog.wantsStandIn 3 = false by kernel_rfl)
  · exact (show Tryd.prog.wantsStandIn 9 = false by kernel_rfl)

/-- THE CARD. -/
theorem cardUpto : Rows.ReadsUptoCardSaid :=
  Claim7.holds_tied_plain_at .later [] _ _ _ _ saidUpto (fun _ h => by cases h) (by kernel_rfl) (fun _ h => by cases h) readsUpto_row_tie rfl ⟨rfl, rfl⟩ (by kernel_rfl) rfl plain (by kernel_rfl)

end Go.Proofs.YtahdlejgjcjeoaaDoor.readsCard

namespace Go.Proofs.YtahdlejgjcjeoaaDoor
theorem readsUpto_holds : Rows.ReadsUptoCardSaid := readsCard.cardUpto
end Go.Proofs.YtahdlejgjcjeoaaDoor
