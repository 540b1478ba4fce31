/- Walk of the program's total: the sum of a state's numbers. -/
import Derived.Test.YtfddkkkkehbecaaDoorNarrow
namespace Go.Proofs.YtfddkkkkehbecaaDoor
open Go.RowKit Go.Maps

/-- What an atom counts. -/
def sv (a : At) : Int := if (slot a).side = 0 then (grade a).n else - (grade a).n
def svs (l : List At) : Int := (l.map sv).sum
theorem svs_snoc (l : List At) (a : At) : svs (l ++ [a]) = svs l + sv a := by simp [svs]
theorem grade_n (a : At) : (grade a).n = a.n := by unfold grade; split <;> rfl
theorem sv_bound {a : At} (h : mayB a = true) : -2147483648 ≤ sv a ∧ sv a ≤ 2147483648 := by
  have : 0 ≤ a.n ∧ a.n ≤ 2147483647 := by
    simp only [mayB, decide_eq_true_eq] at h
    omega
  unfold sv
  rw [grade_n]
  split <;> omega
theorem svs_bound : ∀ {l : List At}, (∀ a ∈ l, mayB a = true) → -2147483648 * (l.length : Int) ≤ svs l ∧ svs l ≤ 2147483648 * (l.length : Int)
  | [], _ => by simp [svs]
  | a :: l, h => by
    have h1 := svs_bound (l := l) (fun x hx => h x (by simp [hx]))
    have h2 := sv_bound (h a (by simp))
    have e : svs (a :: l) = sv a + svs l := by simp [svs]
    rw [e, List.length_cons]
    push_cast
    omega

set_option maxRecDepth 100000 in
set_option maxHeartbeats 2000000 in
theorem total_any (b n : Nat) (M : Sl → Option Gr) (w : World) (hm : StMap w b n M) (hmm : MayMap M) (hn : n ≤ 8388608) :
    Calls Tryd.prog 53 #[.map (some b)] w fun e w' => ∃ C, e = .returned (.int .i64 (svs C)) ∧ Hid (Coll M (fun _ => false) C) ∧ Below w.heap.size w w' := by
  obtain ⟨D, hown, h2, h3⟩ := hm
  have HMM : Hid (MayMap M) := hmm
  have H2 : Hid (∀ s : Sl, s.ok → M s = none → Maps.has D s.lit = false) := h2
  have H3 : Hid (∀ s g, M s = some g → s.ok ∧ Maps.has D s.lit = true ∧ ∀ z, D.atKey s.lit z = g.dat) := h3
  have hsz := hown.size_le
  clear hmm h2 h3
  have hbw := hown.lt
  go_enter Tryd.func53, Tryd.ntmps53
  go_wp2_with (at_range; refine wpList_range_own _ rfl _ 62 rfl 117 119 slotKeyed Tryd.underlying62 grElem b n D rfl hown ?_; intro w0 hrg0 hg0 hs0)
  go_frame
  have hb0 : Below w.heap.size w w0 := (Below.refl _ w).grown hg0 (Nat.le_refl _) (fun k hk => by cases hk)
  go_loopw [3] (fun v wr => ∃ (left : Lit → Bool) (cnt : Nat) (C : List At), wr.ranges Tryd.prog 117 grElem b w.heap.size n D left cnt ∧ v = .int .i64 (svs C) ∧ Hid (Coll M left C) ∧ C.length + cnt ≤ n ∧ Below w.heap.size w wr) (fun _ wr => wr.rangeLeft b w.heap.size)
  case atStart =>
    refine ⟨Maps.has D, Maps.size D, [], hrg0, rfl, ⟨.nil, fun a => ?_⟩, by simpa using hsz, hb0⟩
    constructor
    · intro h; cases h
    · rintro ⟨h1, h2⟩
      have := (H3.out _ _ h1.2).2.1
      rw [this] at h2; cases h2
  case round =>
    obtain ⟨left, cnt, C, hrg, rfl, hC, hcnt, hbr⟩ := hrel
    go_wp2_with (at_next; refine wpList_next_ranges _ rfl _ rfl 117 slotKeyed grElem (fun s : Sl => .agg #[.int .i64 s.ty, .string s.key, .int .i64 s.side, .int .i64 s.who, .string s.elem]) (fun g : Gr => .agg #[.int .i64 g.n, .int .i64 g.who, .string g.elem]) slot_key_inv (fun v y hv => by obtain ⟨g, rfl, _⟩ := grElem_inv hv; exact ⟨g, rfl⟩) b w.heap.size n D left cnt rfl hrg ?_ ?_)
    · intro _ hl0
      have HC0 : Hid (Coll M (fun _ => false) C) := by
        have e : left = fun _ => false := funext hl0
        rw [e] at hC
        exact hC
      clear hl0 hC hrg
      go_wp2
      go_ret
      exact ⟨C, rfl, HC0, hbr⟩
    · intro x c kl yd yp w2 cnt2 hkey hlk hv hat hrg2 hlt hg2 hs2 hen
      obtain ⟨hxok, rfl⟩ := slot_ok_of_key x kl hkey
      have hMx : M x = some c := by
        obtain ⟨g', hg', hz'⟩ := grElem_inv hv
        cases hM : M x with
        | none =>
          have hh := H2.out x hxok hM
          rw [Maps.has_true_of_atKey hat] at hh
          cases hh
        | some g0 =>
          have := (H3.out x g0 hM).2.2 .nil
          rw [hat] at this
          have hcc : grElem c.val = some (c.dat, []) := grElem_mk c
          have hv' : grElem c.val = some (yd, yp) := hv
          rw [hcc] at hv'
          simp only [Option.some.injEq, Prod.mk.injEq] at hv'
          rw [Gr.dat_inj (hv'.1.trans this)]
      obtain ⟨a, ha, rfl, rfl⟩ := HMM.out x c hMx
      have HC2 : Hid (Coll M (fun z => left z && !z.sameKey (slot a).lit) (C ++ [a])) := hC.out.step ⟨ha, hMx⟩ hlk (fun s g h => (H3.out s g h).1)
      have hbC := svs_bound (l := C) (fun z hz => ((hC.out.mem z).1 hz).1.1)
      have hba := sv_bound ha
      have HSN : Hid (svs (C ++ [a]) = svs C + sv a) := svs_snoc C a
      have hsz2 : wr.heap.size ≤ w2.heap.size := by omega
      clear hkey hat hv hMx hs2 hxok hlk
      have hbr2 : Below w.heap.size w w2 := hbr.grown hg2 hbr.size (fun k hk => by cases hk; exact Nat.le_refl _)
      have HL : Hid (wr.rangeLeft b w.heap.size = cnt) := hrg.left_eq
      clear hg2 hrg ha
      generalize (slot a).lit = kl at *
      by_cases hsd : (slot a).side = 0
      · have hsv : sv a = (grade a).n := by unfold sv; rw [if_pos hsd]
        rw [hsv] at hba
        generalize slot a = x at *
        generalize grade a = c at *
        go_wp2
        refine ⟨⟨_, cnt2, C ++ [a], (hrg2.alloc _).alloc _, by rw [HSN.out, hsv], HC2, by simp; omega, below_alloc (below_alloc hbr2 _) _⟩, ?_⟩
        rw [((hrg2.alloc _).alloc _).left_eq, HL.out]
        exact hlt
      · have hsv : sv a = - (grade a).n := by unfold sv; rw [if_neg hsd]
        rw [hsv] at hba
        generalize slot a = x at *
        generalize grade a = c at *
        go_wp2
        refine ⟨⟨_, cnt2, C ++ [a], (hrg2.alloc _).alloc _, by rw [HSN.out, hsv]; rfl, HC2, by simp; omega, below_alloc (below_alloc hbr2 _) _⟩, ?_⟩
        rw [((hrg2.alloc _).alloc _).left_eq, HL.out]
        exact hlt
end Go.Proofs.YtfddkkkkehbecaaDoor
