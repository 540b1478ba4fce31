/- Walks of the program's isRemoved, elems (up to the sort), register. -/
import Derived.Test.YtahdlejgjcjeoaaGreatDoorP22
namespace Go.Proofs.YtahdlejgjcjeoaaGreatDoor
open Go.RowKit Go.Maps

def narrowM (M : Sl → Option Gr) (kind : Int) (key : ByteArray) : Sl → Option Gr := fun s => if s.ty = kind ∧ s.key = key then M s else none

/-- The data of a state's map. -/
def StD (D : DataW Unit) (M : Sl → Option Gr) : Prop :=
  (∀ t : Sl, t.ok → M t = none → Maps.has D t.lit = false) ∧ (∀ t g, M t = some g → t.ok ∧ Maps.has D t.lit = true ∧ ∀ z, D.atKey t.lit z = g.dat)

theorem StD.del {D : DataW Unit} {M : Sl → Option Gr} {s : Sl} (h : StD D M) (hs : s.ok) : StD (D.del s.lit) (delM M s) := by
  obtain ⟨h2, h3⟩ := h
  refine ⟨fun t ht hn => ?_, fun t g' hg' => ?_⟩
  · unfold delM at hn
    by_cases he : scmp t s = 0
    · obtain rfl := (scmp_zero t s).1 he
      exact Maps.has_del_same
    · rw [if_neg he] at hn
      have hl : t.lit ≠ s.lit := fun e => he ((scmp_zero t s).2 (Sl.lit_inj ht hs e))
      rw [Maps.has_del_other hl]
      exact h2 t ht hn
  · unfold delM at hg'
    split at hg'
    · cases hg'
    · rename_i hne
      obtain ⟨ht, hh, ha⟩ := h3 t g' hg'
      have hl : t.lit ≠ s.lit := fun e => hne ((scmp_zero t s).2 (Sl.lit_inj ht hs e))
      exact ⟨ht, by rw [Maps.has_del_other hl]; exact hh, fun z => by rw [Maps.atKey_del_other hl]; exact ha z⟩

/-- While the keys 'left' are still to come. -/
def Narrowed (M N : Sl → Option Gr) (kind : Int) (key : ByteArray) (left : Lit → Bool) : Prop := ∀ s, N s = if left s.lit then M s else narrowM M kind key s

theorem Narrowed.done {M N : Sl → Option Gr} {kind : Int} {key : ByteArray} {left : Lit → Bool} (h : Narrowed M N kind key left) (hl : ∀ kl, left kl = false) : N = narrowM M kind key := by
  funext s
  rw [h s, hl, if_neg (by simp)]
theorem Narrowed.start {M : Sl → Option Gr} {kind : Int} {key : ByteArray} {left : Lit → Bool} (h : ∀ s g, M s = some g → left s.lit = true) : Narrowed M M kind key left := by
  intro s
  split
  · rfl
  · rename_i hl
    unfold narrowM
    cases hM : M s with
    | some g => exact absurd (h s g hM) hl
    | none => simp
theorem Narrowed.step {M N N' : Sl → Option Gr} {kind : Int} {key : ByteArray} {left : Lit → Bool} (h : Narrowed M N kind key left) {x : Sl} (hx : x.ok) (hok : ∀ s g, M s = some g → s.ok)
    (h1 : N' x = narrowM M kind key x) (h2 : ∀ s, s ≠ x → N' s = N s) : Narrowed M N' kind key (fun z => left z && !z.sameKey x.lit) := by
  intro s
  by_cases e : s = x
  · subst e
    simp [lit_same, h1]
  · rw [h2 s e, h s]
    by_cases el : s.lit = x.lit
    · have hn : M s = none := by
        cases hM : M s with
        | none => rfl
        | some g => exact absurd (Sl.lit_inj (hok s g hM) hx el) e
      have ht : narrowM M kind key s = none := by unfold narrowM; rw [hn]; simp
      rw [hn, ht]
      simp
    · simp [Maps.sameKey_ne el]

theorem str_ne2 {a b : ByteArray} (h : ¬ a = b) : (a.toList == b.toList) = false := by
  rw [beq_eq_false_iff_ne, Go.Lib.toList_data, Go.Lib.toList_data]
  exact fun e => h (ByteArray.ext (Array.toList_inj.1 e))

set_option maxRecDepth 100000 in
set_option maxHeartbeats 2000000 in
theorem narrow_any (b n : Nat) (M : Sl → Option Gr) (kind : Int) (key : ByteArray) (w : World) (hm : StMap w b n M) :
    Calls Tryz.prog 141 #[.map (some b), .int .i64 kind, .string key] w fun e w' => e = .returned (.tuple #[]) ∧ Hid (StMap w' b n (narrowM M kind key)) ∧ w.grownBy w' (some b) := by
  obtain ⟨D, hown, h2, h3⟩ := hm
  have HSD : Hid (StD D M) := ⟨h2, h3⟩
  have HOK : Hid (∀ s g, M s = some g → s.ok) := fun s g h => (h3 s g h).1
  clear h2 h3
  have hlb := hown.lt
  go_enter Tryz.func141, Tryz.ntmps141
  go_wp2_with (at_range; refine wpList_range_own _ rfl _ 122 rfl 172 174 slotKeyed Tryz.underlying122 grElem b n D rfl hown ?_; intro w0 hrg0 hg0 hs0)
  go_frame
  have hg0' : w.grownBy w0 (some b) := ⟨hg0.os, hg0.tape, hg0.output, hg0.size, fun i hi _ => hg0.block i hi (by simp)⟩
  go_loopw [6] (fun _ wr => ∃ (left : Lit → Bool) (cnt : Nat) (N : Sl → Option Gr) (E : DataW Unit), wr.ranges Tryz.prog 172 grElem b w.heap.size n E left cnt ∧ Hid (StD E N) ∧ Hid (Narrowed M N kind key left) ∧ w.grownBy wr (some b)) (fun _ wr => wr.rangeLeft b w.heap.size)
  case atStart => exact ⟨_, _, M, D, hrg0, HSD, Narrowed.start (fun s g h => (HSD.out.2 s g h).2.1), hg0'⟩
  case round =>
    obtain ⟨left, cnt, N, E, hrg, hsd, hna, hgw⟩ := hrel
    go_wp2_with (at_next; refine wpList_next_ranges _ rfl _ rfl 172 slotKeyed grElem (fun s : Sl => .agg #[.int .i64 s.ty, .string s.key, .int .i64 s.side, .int .i64 s.who, .string s.elem]) (fun g : Gr => .agg #[.int .i64 g.n, .int .i64 g.who, .string g.elem]) slot_key_inv (fun v y hv => by obtain ⟨g, rfl, _⟩ := grElem_inv hv; exact ⟨g, rfl⟩) b w.heap.size n E left cnt rfl hrg ?_ ?_)
    · intro _ hl0
      have HST : Hid (StMap wr b n (narrowM M kind key)) := by rw [← hna.out.done hl0]; exact ⟨E, hrg.owns, hsd.out.1, hsd.out.2⟩
      clear hl0 hna hsd hrg
      go_wp2
      go_end0
      exact ⟨rfl, HST, hgw⟩
    · intro x g kl yd yp w2 cnt2 hkey hlk hv hat hrg2 hlt hg2 hs2 hen
      obtain ⟨hxok, rfl⟩ := slot_ok_of_key x kl hkey
      have hNx : N x = M x := by rw [hna.out x, hlk, if_pos rfl]
      have HSTEP : Hid (∀ N', N' x = narrowM M kind key x → (∀ s, s ≠ x → N' s = N s) → Narrowed M N' kind key (fun z => left z && !z.sameKey x.lit)) := fun N' h1 h2 => hna.out.step hxok HOK.out h1 h2
      have hsz2 : wr.heap.size ≤ w2.heap.size := by omega
      have HL : Hid (wr.rangeLeft b w.heap.size = cnt) := hrg.left_eq
      have hgw2 : w.grownBy w2 (some b) := grown_past hgw hg2 (Nat.le_refl _)
      have hrl := hrg2.lt
      clear hat hv hs2 hlk hg2 hrg hna hgw
      by_cases hkeep : x.ty = kind ∧ x.key = key
      · have HT : Hid (Narrowed M N kind key (fun z => left z && !z.sameKey x.lit)) := HSTEP.out N (by rw [hNx]; unfold narrowM; rw [if_pos hkeep]) (fun _ _ => rfl)
        obtain ⟨rfl, rfl⟩ := hkeep
        clear HSTEP hNx hkey
        generalize x.lit = kl at *
        go_wp2
        have hrg3 := hrg2.alloc (.cells #[.int .i64 x.ty, .string x.key, .int .i64 x.side, .int .i64 x.who, .string x.elem] 172)
        refine ⟨⟨_, cnt2, N, E, hrg3, hsd, HT, grown_alloc hgw2 _⟩, ?_⟩
        rw [hrg3.left_eq, HL.out]
        exact hlt
      · have HT : Hid (Narrowed M (delM N x) kind key (fun z => left z && !z.sameKey x.lit)) := HSTEP.out (delM N x) (by unfold delM narrowM; rw [if_pos ((scmp_zero x x).2 rfl), if_neg hkeep]) (fun s hs => by unfold delM; rw [if_neg (fun e => hs ((scmp_zero s x).1 e))])
        have HSD2 : Hid (StD (E.del x.lit) (delM N x)) := hsd.out.del hxok
        clear HSTEP hNx
        by_cases hty : x.ty = kind
        · have hke : ¬ x.key = key := fun e => hkeep ⟨hty, e⟩
          have hke2 := str_ne2 hke
          subst hty
          go_wp2_with (at_delete; refine wpList_delete_ranges _ rfl _ _ 122 172 rfl 174 slotKeyed Tryz.underlying122 grElem b w.heap.size n E _ cnt2 rfl (hrg2.alloc _) x.val x.lit rfl (keyOf_slot x hxok) ?_; intro w3 cnt3 hrg3 hle3 hmt3)
          have e3 : (fun z : Lit => (left z && !z.sameKey x.lit) && !z.sameKey x.lit) = fun z => left z && !z.sameKey x.lit := by
            funext z
            cases left z <;> cases z.sameKey x.lit <;> rfl
          rw [e3] at hrg3
          have hfin : w.grownBy w3 (some b) := grown_trans (grown_alloc hgw2 _) hmt3.grown
          clear hkey hrg2
          generalize x.lit = kl at *
          go_wp2
          refine ⟨⟨_, cnt3, delM N x, _, hrg3, HSD2, HT, hfin⟩, ?_⟩
          rw [hrg3.left_eq, HL.out]
          omega
        · go_wp2_with (at_delete; refine wpList_delete_ranges _ rfl _ _ 122 172 rfl 174 slotKeyed Tryz.underlying122 grElem b w.heap.size n E _ cnt2 rfl (hrg2.alloc _) x.val x.lit rfl (keyOf_slot x hxok) ?_; intro w3 cnt3 hrg3 hle3 hmt3)
          have e3 : (fun z : Lit => (left z && !z.sameKey x.lit) && !z.sameKey x.lit) = fun z => left z && !z.sameKey x.lit := by
            funext z
            cases left z <;> cases z.sameKey x.lit <;> rfl
          rw [e3] at hrg3
          have hfin : w.grownBy w3 (some b) := grown_trans (grown_alloc hgw2 _) hmt3.grown
          clear hkey hrg2
          generalize x.lit = kl at *
          go_wp2
          refine ⟨⟨_, _, _, _, _, _, _, _, _, _, _, _, _, _, _, _, _, ⟨_, cnt3, delM N x, _, hrg3, HSD2, HT, hfin⟩, rfl⟩, ?_⟩
          rw [hrg3.left_eq, HL.out]
          omega
end Go.Proofs.YtahdlejgjcjeoaaGreatDoor

namespace Go.Proofs.YtahdlejgjcjeoaaGreatDoor
open Go.RowKit Go.Maps

/-- What an atom counts. -/
def sv (a : At) : Int := if (slot a).side = 0 then (grade a).n else - (grade a).n
def svs (l : List At) : Int := (l.map sv).sum
theorem svs_snoc (l : List At) (a : At) : svs (l ++ [a]) = svs l + sv a := by simp [svs]
theorem grade_n (a : At) : (grade a).n = a.n := by unfold grade; split <;> rfl
theorem sv_bound {a : At} (h : mayB a = true) : -2147483648 ≤ sv a ∧ sv a ≤ 2147483648 := by
  have : 0 ≤ a.n ∧ a.n ≤ 2147483647 := by
    simp only [mayB, decide_eq_true_eq] at h
    omega
  unfold sv
  rw [grade_n]
  split <;> omega
theorem svs_bound : ∀ {l : List At}, (∀ a ∈ l, mayB a = true) → -2147483648 * (l.length : Int) ≤ svs l ∧ svs l ≤ 2147483648 * (l.length : Int)
  | [], _ => by simp [svs]
  | a :: l, h => by
    have h1 := svs_bound (l := l) (fun x hx => h x (by simp [hx]))
    have h2 := sv_bound (h a (by simp))
    have e : svs (a :: l) = sv a + svs l := by simp [svs]
    rw [e, List.length_cons]
    push_cast
    omega

set_option maxRecDepth 100000 in
set_option maxHeartbeats 2000000 in
theorem total_any (b n : Nat) (M : Sl → Option Gr) (w : World) (hm : StMap w b n M) (hmm : MayMap M) (hn : n ≤ 8388608) :
    Calls Tryz.prog 142 #[.map (some b)] w fun e w' => ∃ C, e = .returned (.int .i64 (svs C)) ∧ Hid (Coll M (fun _ => false) C) ∧ Below w.heap.size w w' := by
  obtain ⟨D, hown, h2, h3⟩ := hm
  have HMM : Hid (MayMap M) := hmm
  have H2 : Hid (∀ s : Sl, s.ok → M s = none → Maps.has D s.lit = false) := h2
  have H3 : Hid (∀ s g, M s = some g → s.ok ∧ Maps.has D s.lit = true ∧ ∀ z, D.atKey s.lit z = g.dat) := h3
  have hsz := hown.size_le
  clear hmm h2 h3
  have hbw := hown.lt
  go_enter Tryz.func142, Tryz.ntmps142
  go_wp2_with (at_range; refine wpList_range_own _ rfl _ 122 rfl 172 174 slotKeyed Tryz.underlying122 grElem b n D rfl hown ?_; intro w0 hrg0 hg0 hs0)
  go_frame
  have hb0 : Below w.heap.size w w0 := (Below.refl _ w).grown hg0 (Nat.le_refl _) (fun k hk => by cases hk)
  go_loopw [3] (fun v wr => ∃ (left : Lit → Bool) (cnt : Nat) (C : List At), wr.ranges Tryz.prog 172 grElem b w.heap.size n D left cnt ∧ v = .int .i64 (svs C) ∧ Hid (Coll M left C) ∧ C.length + cnt ≤ n ∧ Below w.heap.size w wr) (fun _ wr => wr.rangeLeft b w.heap.size)
  case atStart =>
    refine ⟨Maps.has D, Maps.size D, [], hrg0, rfl, ⟨.nil, fun a => ?_⟩, by simpa using hsz, hb0⟩
    constructor
    · intro h; cases h
    · rintro ⟨h1, h2⟩
      have := (H3.out _ _ h1.2).2.1
      rw [this] at h2; cases h2
  case round =>
    obtain ⟨left, cnt, C, hrg, rfl, hC, hcnt, hbr⟩ := hrel
    go_wp2_with (at_next; refine wpList_next_ranges _ rfl _ rfl 172 slotKeyed grElem (fun s : Sl => .agg #[.int .i64 s.ty, .string s.key, .int .i64 s.side, .int .i64 s.who, .string s.elem]) (fun g : Gr => .agg #[.int .i64 g.n, .int .i64 g.who, .string g.elem]) slot_key_inv (fun v y hv => by obtain ⟨g, rfl, _⟩ := grElem_inv hv; exact ⟨g, rfl⟩) b w.heap.size n D left cnt rfl hrg ?_ ?_)
    · intro _ hl0
      have HC0 : Hid (Coll M (fun _ => false) C) := by
        have e : left = fun _ => false := funext hl0
        rw [e] at hC
        exact hC
      clear hl0 hC hrg
      go_wp2
      go_ret
      exact ⟨C, rfl, HC0, hbr⟩
    · intro x c kl yd yp w2 cnt2 hkey hlk hv hat hrg2 hlt hg2 hs2 hen
      obtain ⟨hxok, rfl⟩ := slot_ok_of_key x kl hkey
      have hMx : M x = some c := by
        obtain ⟨g', hg', hz'⟩ := grElem_inv hv
        cases hM : M x with
        | none =>
          have hh := H2.out x hxok hM
          rw [Maps.has_true_of_atKey hat] at hh
          cases hh
        | some g0 =>
          have := (H3.out x g0 hM).2.2 .nil
          rw [hat] at this
          have hcc : grElem c.val = some (c.dat, []) := grElem_mk c
          have hv' : grElem c.val = some (yd, yp) := hv
          rw [hcc] at hv'
          simp only [Option.some.injEq, Prod.mk.injEq] at hv'
          rw [Gr.dat_inj (hv'.1.trans this)]
      obtain ⟨a, ha, rfl, rfl⟩ := HMM.out x c hMx
      have HC2 : Hid (Coll M (fun z => left z && !z.sameKey (slot a).lit) (C ++ [a])) := hC.out.step ⟨ha, hMx⟩ hlk (fun s g h => (H3.out s g h).1)
      have hbC := svs_bound (l := C) (fun z hz => ((hC.out.mem z).1 hz).1.1)
      have hba := sv_bound ha
      have HSN : Hid (svs (C ++ [a]) = svs C + sv a) := svs_snoc C a
      have hsz2 : wr.heap.size ≤ w2.heap.size := by omega
      clear hkey hat hv hMx hs2 hxok hlk
      have hbr2 : Below w.heap.size w w2 := hbr.grown hg2 hbr.size (fun k hk => by cases hk; exact Nat.le_refl _)
      have HL : Hid (wr.rangeLeft b w.heap.size = cnt) := hrg.left_eq
      clear hg2 hrg ha
      generalize (slot a).lit = kl at *
      by_cases hsd : (slot a).side = 0
      · have hsv : sv a = (grade a).n := by unfold sv; rw [if_pos hsd]
        rw [hsv] at hba
        generalize slot a = x at *
        generalize grade a = c at *
        go_wp2
        refine ⟨⟨_, cnt2, C ++ [a], (hrg2.alloc _).alloc _, by rw [HSN.out, hsv], HC2, by simp; omega, below_alloc (below_alloc hbr2 _) _⟩, ?_⟩
        rw [((hrg2.alloc _).alloc _).left_eq, HL.out]
        exact hlt
      · have hsv : sv a = - (grade a).n := by unfold sv; rw [if_neg hsd]
        rw [hsv] at hba
        generalize slot a = x at *
        generalize grade a = c at *
        go_wp2
        refine ⟨⟨_, cnt2, C ++ [a], (hrg2.alloc _).alloc _, by rw [HSN.out, hsv]; rfl, HC2, by simp; omega, below_alloc (below_alloc hbr2 _) _⟩, ?_⟩
        rw [((hrg2.alloc _).alloc _).left_eq, HL.out]
        exact hlt
end Go.Proofs.YtahdlejgjcjeoaaGreatDoor

namespace Go.Proofs.YtahdlejgjcjeoaaGreatDoor
open Go.RowKit Go.Maps

def Sl.one (s : Sl) : Sl := ⟨s.ty, s.key, 1, s.who, s.elem⟩
theorem Sl.one_ok {s : Sl} (h : s.ok) : s.one.ok := ⟨h.1, h.2.1, (by decide : (Lit.int .i64 1).wf = true), h.2.2.2.1, h.2.2.2.2⟩

set_option maxRecDepth 100000 in
set_option maxHeartbeats 1000000 in
theorem isRemoved_any (b n : Nat) (M : Sl → Option Gr) (s : Sl) (w : World) (hm : StMap w b n M) (hs : s.ok) :
    Calls Tryz.prog 181 #[.map (some b), .agg #[.int .i64 s.ty, .string s.key, .int .i64 s.side, .int .i64 s.who, .string s.elem]] w fun e w' => e = .returned (.bool (M s.one).isSome) ∧ Below w.heap.size w w' := by
  have h1 := Sl.one_ok hs
  go_enter Tryz.func181, Tryz.ntmps181
  go_wp2_with (at_lookup; refine wpList_st_look_exp _ rfl _ _ 122 rfl Tryz.underlying122 b n M rfl (hm.alloc _) s.one h1 rfl (got M s.one) (M s.one).isSome rfl rfl ?_)
  go_ret
  exact ⟨rfl, below_alloc (below_alloc (Below.refl _ _) _) _⟩

/-- Kept by elems. -/
def kept (M : Sl → Option Gr) (a : At) : Bool := decide ((slot a).side = 0) && (M (slot a).one).isNone
def elemsOf (M : Sl → Option Gr) (C : List At) : List ByteArray := (C.filter (kept M)).map fun a => (slot a).elem
theorem elemsOf_snoc (M : Sl → Option Gr) (C : List At) (a : At) : elemsOf M (C ++ [a]) = if kept M a then elemsOf M C ++ [(slot a).elem] else elemsOf M C := by
  unfold elemsOf
  rw [List.filter_append]
  by_cases h : kept M a <;> simp [h]
theorem elemsOf_length (M : Sl → Option Gr) (C : List At) : (elemsOf M C).length ≤ C.length := by
  unfold elemsOf
  rw [List.length_map]
  exact List.length_filter_le _ _
theorem infoText : (Tryz.prog.info? 9).map (fun i => (i.zero, i.size, i.bytes)) = some (some (.string ⟨#[]⟩), 1, 16) := by kernel_rfl
end Go.Proofs.YtahdlejgjcjeoaaGreatDoor
