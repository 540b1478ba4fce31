/- Walk of the program's Narrow: a state cut to a type and a key. -/
import Derived.Test.YtfddkkkkehbecaaDoorStThin
namespace Go.Proofs.YtfddkkkkehbecaaDoor
open Go.RowKit Go.Maps

def narrowM (M : Sl → Option Gr) (kind : Int) (key : ByteArray) : Sl → Option Gr := fun s => if s.ty = kind ∧ s.key = key then M s else none

/-- The data of a state's map. -/
def StD (D : DataW Unit) (M : Sl → Option Gr) : Prop :=
  (∀ t : Sl, t.ok → M t = none → Maps.has D t.lit = false) ∧ (∀ t g, M t = some g → t.ok ∧ Maps.has D t.lit = true ∧ ∀ z, D.atKey t.lit z = g.dat)

theorem StD.del {D : DataW Unit} {M : Sl → Option Gr} {s : Sl} (h : StD D M) (hs : s.ok) : StD (D.del s.lit) (delM M s) := by
  obtain ⟨h2, h3⟩ := h
  refine ⟨fun t ht hn => ?_, fun t g' hg' => ?_⟩
  · unfold delM at hn
    by_cases he : scmp t s = 0
    · obtain rfl := (scmp_zero t s).1 he
      exact Maps.has_del_same
    · rw [if_neg he] at hn
      have hl : t.lit ≠ s.lit := fun e => he ((scmp_zero t s).2 (Sl.lit_inj ht hs e))
      rw [Maps.has_del_other hl]
      exact h2 t ht hn
  · unfold delM at hg'
    split at hg'
    · cases hg'
    · rename_i hne
      obtain ⟨ht, hh, ha⟩ := h3 t g' hg'
      have hl : t.lit ≠ s.lit := fun e => hne ((scmp_zero t s).2 (Sl.lit_inj ht hs e))
      exact ⟨ht, by rw [Maps.has_del_other hl]; exact hh, fun z => by rw [Maps.atKey_del_other hl]; exact ha z⟩

/-- While the keys 'left' are still to come. -/
def Narrowed (M N : Sl → Option Gr) (kind : Int) (key : ByteArray) (left : Lit → Bool) : Prop := ∀ s, N s = if left s.lit then M s else narrowM M kind key s

theorem Narrowed.done {M N : Sl → Option Gr} {kind : Int} {key : ByteArray} {left : Lit → Bool} (h : Narrowed M N kind key left) (hl : ∀ kl, left kl = false) : N = narrowM M kind key := by
  funext s
  rw [h s, hl, if_neg (by simp)]
theorem Narrowed.start {M : Sl → Option Gr} {kind : Int} {key : ByteArray} {left : Lit → Bool} (h : ∀ s g, M s = some g → left s.lit = true) : Narrowed M M kind key left := by
  intro s
  split
  · rfl
  · rename_i hl
    unfold narrowM
    cases hM : M s with
    | some g => exact absurd (h s g hM) hl
    | none => simp
theorem Narrowed.step {M N N' : Sl → Option Gr} {kind : Int} {key : ByteArray} {left : Lit → Bool} (h : Narrowed M N kind key left) {x : Sl} (hx : x.ok) (hok : ∀ s g, M s = some g → s.ok)
    (h1 : N' x = narrowM M kind key x) (h2 : ∀ s, s ≠ x → N' s = N s) : Narrowed M N' kind key (fun z => left z && !z.sameKey x.lit) := by
  intro s
  by_cases e : s = x
  · subst e
    simp [lit_same, h1]
  · rw [h2 s e, h s]
    by_cases el : s.lit = x.lit
    · have hn : M s = none := by
        cases hM : M s with
        | none => rfl
        | some g => exact absurd (Sl.lit_inj (hok s g hM) hx el) e
      have ht : narrowM M kind key s = none := by unfold narrowM; rw [hn]; simp
      rw [hn, ht]
      simp
    · simp [Maps.sameKey_ne el]

theorem str_ne2 {a b : ByteArray} (h : ¬ a = b) : (a.toList == b.toList) = false := by
  rw [beq_eq_false_iff_ne, Go.Lib.toList_data, Go.Lib.toList_data]
  exact fun e => h (ByteArray.ext (Array.toList_inj.1 e))

set_option maxRecDepth 100000 in
set_option maxHeartbeats 2000000 in
theorem narrow_any (b n : Nat) (M : Sl → Option Gr) (kind : Int) (key : ByteArray) (w : World) (hm : StMap w b n M) :
    Calls Tryd.prog 52 #[.map (some b), .int .i64 kind, .string key] w fun e w' => e = .returned (.tuple #[]) ∧ Hid (StMap w' b n (narrowM M kind key)) ∧ w.grownBy w' (some b) := by
  obtain ⟨D, hown, h2, h3⟩ := hm
  have HSD : Hid (StD D M) := ⟨h2, h3⟩
  have HOK : Hid (∀ s g, M s = some g → s.ok) := fun s g h => (h3 s g h).1
  clear h2 h3
  have hlb := hown.lt
  go_enter Tryd.func52, Tryd.ntmps52
  go_wp2_with (at_range; refine wpList_range_own _ rfl _ 62 rfl 117 119 slotKeyed Tryd.underlying62 grElem b n D rfl hown ?_; intro w0 hrg0 hg0 hs0)
  go_frame
  have hg0' : w.grownBy w0 (some b) := ⟨hg0.os, hg0.tape, hg0.output, hg0.size, fun i hi _ => hg0.block i hi (by simp)⟩
  go_loopw [6] (fun _ wr => ∃ (left : Lit → Bool) (cnt : Nat) (N : Sl → Option Gr) (E : DataW Unit), wr.ranges Tryd.prog 117 grElem b w.heap.size n E left cnt ∧ Hid (StD E N) ∧ Hid (Narrowed M N kind key left) ∧ w.grownBy wr (some b)) (fun _ wr => wr.rangeLeft b w.heap.size)
  case atStart => exact ⟨_, _, M, D, hrg0, HSD, Narrowed.start (fun s g h => (HSD.out.2 s g h).2.1), hg0'⟩
  case round =>
    obtain ⟨left, cnt, N, E, hrg, hsd, hna, hgw⟩ := hrel
    go_wp2_with (at_next; refine wpList_next_ranges _ rfl _ rfl 117 slotKeyed grElem (fun s : Sl => .agg #[.int .i64 s.ty, .string s.key, .int .i64 s.side, .int .i64 s.who, .string s.elem]) (fun g : Gr => .agg #[.int .i64 g.n, .int .i64 g.who, .string g.elem]) slot_key_inv (fun v y hv => by obtain ⟨g, rfl, _⟩ := grElem_inv hv; exact ⟨g, rfl⟩) b w.heap.size n E left cnt rfl hrg ?_ ?_)
    · intro _ hl0
      have HST : Hid (StMap wr b n (narrowM M kind key)) := by rw [← hna.out.done hl0]; exact ⟨E, hrg.owns, hsd.out.1, hsd.out.2⟩
      clear hl0 hna hsd hrg
      go_wp2
      go_end0
      exact ⟨rfl, HST, hgw⟩
    · intro x g kl yd yp w2 cnt2 hkey hlk hv hat hrg2 hlt hg2 hs2 hen
      obtain ⟨hxok, rfl⟩ := slot_ok_of_key x kl hkey
      have hNx : N x = M x := by rw [hna.out x, hlk, if_pos rfl]
      have HSTEP : Hid (∀ N', N' x = narrowM M kind key x → (∀ s, s ≠ x → N' s = N s) → Narrowed M N' kind key (fun z => left z && !z.sameKey x.lit)) := fun N' h1 h2 => hna.out.step hxok HOK.out h1 h2
      have hsz2 : wr.heap.size ≤ w2.heap.size := by omega
      have HL : Hid (wr.rangeLeft b w.heap.size = cnt) := hrg.left_eq
      have hgw2 : w.grownBy w2 (some b) := grown_past hgw hg2 (Nat.le_refl _)
      have hrl := hrg2.lt
      clear hat hv hs2 hlk hg2 hrg hna hgw
      by_cases hkeep : x.ty = kind ∧ x.key = key
      · have HT : Hid (Narrowed M N kind key (fun z => left z && !z.sameKey x.lit)) := HSTEP.out N (by rw [hNx]; unfold narrowM; rw [if_pos hkeep]) (fun _ _ => rfl)
        obtain ⟨rfl, rfl⟩ := hkeep
        clear HSTEP hNx hkey
        generalize x.lit = kl at *
        go_wp2
        have hrg3 := hrg2.alloc (.cells #[.int .i64 x.ty, .string x.key, .int .i64 x.side, .int .i64 x.who, .string x.elem] 117)
        refine ⟨⟨_, cnt2, N, E, hrg3, hsd, HT, grown_alloc hgw2 _⟩, ?_⟩
        rw [hrg3.left_eq, HL.out]
        exact hlt
      · have HT : Hid (Narrowed M (delM N x) kind key (fun z => left z && !z.sameKey x.lit)) := HSTEP.out (delM N x) (by unfold delM narrowM; rw [if_pos ((scmp_zero x x).2 rfl), if_neg hkeep]) (fun s hs => by unfold delM; rw [if_neg (fun e => hs ((scmp_zero s x).1 e))])
        have HSD2 : Hid (StD (E.del x.lit) (delM N x)) := hsd.out.del hxok
        clear HSTEP hNx
        by_cases hty : x.ty = kind
        · have hke : ¬ x.key = key := fun e => hkeep ⟨hty, e⟩
          have hke2 := str_ne2 hke
          subst hty
          go_wp2_with (at_delete; refine wpList_delete_ranges _ rfl _ _ 62 117 rfl 119 slotKeyed Tryd.underlying62 grElem b w.heap.size n E _ cnt2 rfl (hrg2.alloc _) x.val x.lit rfl (keyOf_slot x hxok) ?_; intro w3 cnt3 hrg3 hle3 hmt3)
          have e3 : (fun z : Lit => (left z && !z.sameKey x.lit) && !z.sameKey x.lit) = fun z => left z && !z.sameKey x.lit := by
            funext z
            cases left z <;> cases z.sameKey x.lit <;> rfl
          rw [e3] at hrg3
          have hfin : w.grownBy w3 (some b) := grown_trans (grown_alloc hgw2 _) hmt3.grown
          clear hkey hrg2
          generalize x.lit = kl at *
          go_wp2
          refine ⟨⟨_, cnt3, delM N x, _, hrg3, HSD2, HT, hfin⟩, ?_⟩
          rw [hrg3.left_eq, HL.out]
          omega
        · go_wp2_with (at_delete; refine wpList_delete_ranges _ rfl _ _ 62 117 rfl 119 slotKeyed Tryd.underlying62 grElem b w.heap.size n E _ cnt2 rfl (hrg2.alloc _) x.val x.lit rfl (keyOf_slot x hxok) ?_; intro w3 cnt3 hrg3 hle3 hmt3)
          have e3 : (fun z : Lit => (left z && !z.sameKey x.lit) && !z.sameKey x.lit) = fun z => left z && !z.sameKey x.lit := by
            funext z
            cases left z <;> cases z.sameKey x.lit <;> rfl
          rw [e3] at hrg3
          have hfin : w.grownBy w3 (some b) := grown_trans (grown_alloc hgw2 _) hmt3.grown
          clear hkey hrg2
          generalize x.lit = kl at *
          go_wp2
          refine ⟨⟨_, _, _, _, _, _, _, _, _, _, _, _, _, _, _, _, _, ⟨_, cnt3, delM N x, _, hrg3, HSD2, HT, hfin⟩, rfl⟩, ?_⟩
          rw [hrg3.left_eq, HL.out]
          omega
end Go.Proofs.YtfddkkkkehbecaaDoor
