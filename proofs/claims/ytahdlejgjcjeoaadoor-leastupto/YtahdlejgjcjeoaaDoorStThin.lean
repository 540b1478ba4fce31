/- Walk of the program's Thin: what is nothing new to another state is taken out. -/
import Derived.Test.YtahdlejgjcjeoaaDoorStTellW
import Derived.Test.YtahdlejgjcjeoaaDoorNews
namespace Go.Proofs.YtahdlejgjcjeoaaDoor
open Go.RowKit Go.Maps

def delM (M : Sl → Option Gr) (s : Sl) : Sl → Option Gr := fun t => if scmp t s = 0 then none else M t

theorem del_stMap {w' : World} {b n : Nat} {D : DataW Unit} {M : Sl → Option Gr} {s : Sl} (hs : s.ok)
    (h2 : ∀ t, t.ok → M t = none → Maps.has D t.lit = false) (h3 : ∀ t g, M t = some g → t.ok ∧ Maps.has D t.lit = true ∧ ∀ z, D.atKey t.lit z = g.dat)
    (h1 : w'.ownsMap Tryd.prog 117 grElem b n (D.del s.lit)) : StMap w' b n (delM M s) := by
  refine ⟨_, h1, fun t ht hn => ?_, fun t g' hg' => ?_⟩
  · unfold delM at hn
    by_cases he : scmp t s = 0
    · obtain rfl := (scmp_zero t s).1 he
      exact Maps.has_del_same
    · rw [if_neg he] at hn
      have hl : t.lit ≠ s.lit := fun e => he ((scmp_zero t s).2 (Sl.lit_inj ht hs e))
      rw [Maps.has_del_other hl]
      exact h2 t ht hn
  · unfold delM at hg'
    split at hg'
    · cases hg'
    · rename_i hne
      obtain ⟨ht, hh, ha⟩ := h3 t g' hg'
      have hl : t.lit ≠ s.lit := fun e => hne ((scmp_zero t s).2 (Sl.lit_inj ht hs e))
      exact ⟨ht, by rw [Maps.has_del_other hl]; exact hh, fun z => by rw [Maps.atKey_del_other hl]; exact ha z⟩

section
variable (w : World) {ops : Array Oper} {rest : List Oper} {o : Oper} {a : Act} {Q : Exit → Act → World → Prop}
theorem wpList_st_del (hg : o.guard = none) (m x : Operand) (t : TypeId) (hop : o.op = Op.call { callee := Callee.builtin Builtin.delete, args := #[m, x], argTypes := #[t, 117] }) (ht : Tryd.prog.underlying t = some (.map 117 119)) (b n : Nat) (M : Sl → Option Gr)
    (hd : o.dst = none) (hm : a.eval m = .map (some b)) (hown : StMap w b n M) (s : Sl) (hs : s.ok) (hx : a.eval x = s.val)
    (hK : ∀ w', StMap w' b n (delM M s) → w.grownBy w' (some b) → wpList Tryd.prog ops Q rest a w') :
    wpList Tryd.prog ops Q (o :: rest) a w := by
  obtain ⟨D, h1, h2, h3⟩ := hown
  refine wpList_delete_own w hg m x t 117 hop 119 slotKeyed ht grElem b n D hm h1 s.val s.lit hx (keyOf_slot s hs) ?_
  intro w' r1 r2
  rw [hd]
  exact hK w' (del_stMap hs h2 h3 r1) r2.grown
end

theorem grown_past {a b c : World} {p q : Nat} (h : a.grownBy b (some p)) (k : b.grownBy c (some q)) (hq : a.heap.size ≤ q) : a.grownBy c (some p) :=
  ⟨k.os.trans h.os, k.tape.trans h.tape, k.output.trans h.output, Nat.le_trans h.size k.size, fun i hi hne => (k.block i (Nat.lt_of_lt_of_le hi h.size) (fun e => by cases e; omega)).trans (h.block i hi hne)⟩

theorem StMap.alloc {w : World} {b n : Nat} {M : Sl → Option Gr} (h : StMap w b n M) (o : Obj) : StMap (w.alloc o) b n M := h.kept (World.grownBy_alloc _ _ none) (by simp)
theorem grown_alloc {a b : World} {row : Option Nat} (h : a.grownBy b row) (o : Obj) : a.grownBy (b.alloc o) row := grown_trans h (World.grownBy_alloc _ _ row)

/-- While the keys 'left' of the other are still to come. -/
def Thinned (M O N : Sl → Option Gr) (left : Lit → Bool) : Prop := ∀ s, N s = if left s.lit then M s else thinM M O s

theorem Thinned.start {M O : Sl → Option Gr} {left : Lit → Bool} (h : ∀ s g, O s = some g → left s.lit = true) : Thinned M O M left := by
  intro s
  split
  · rfl
  · rename_i hl
    unfold thinM
    cases hO : O s with
    | some g => exact absurd (h s g hO) hl
    | none => cases M s <;> rfl
theorem Thinned.done {M O N : Sl → Option Gr} {left : Lit → Bool} (h : Thinned M O N left) (hl : ∀ kl, left kl = false) : N = thinM M O := by
  funext s
  rw [h s, hl, if_neg (by simp)]
theorem Thinned.step {M O N N' : Sl → Option Gr} {left : Lit → Bool} (h : Thinned M O N left) {x : Sl} (hx : x.ok) (hok : ∀ s g, M s = some g → s.ok)
    (h1 : N' x = thinM M O x) (h2 : ∀ s, s ≠ x → N' s = N s) : Thinned M O N' (fun z => left z && !z.sameKey x.lit) := by
  intro s
  by_cases e : s = x
  · subst e
    simp [lit_same, h1]
  · rw [h2 s e, h s]
    by_cases el : s.lit = x.lit
    · have hn : M s = none := by
        cases hM : M s with
        | none => rfl
        | some g => exact absurd (Sl.lit_inj (hok s g hM) hx el) e
      have ht : thinM M O s = none := by unfold thinM; rw [hn]
      rw [hn, ht]
      simp
    · simp [Maps.sameKey_ne el]

theorem compareGrades_exp (g h : Gr) (w : World) :
    Calls Tryd.prog 76 #[.agg #[.int .i64 g.n, .int .i64 g.who, .string g.elem], .agg #[.int .i64 h.n, .int .i64 h.who, .string h.elem]] w fun e w' => e = .returned (.int .i64 (gcmp g h)) ∧ Below w.heap.size w w' := compareGrades_any g h w

theorem thinM_drop {M O : Sl → Option Gr} {s : Sl} {g h : Gr} (hM : M s = some g) (hO : O s = some h) (hle : gcmp g h ≤ 0) : thinM M O s = none := by
  unfold thinM; rw [hM, hO]; simp only; rw [if_pos hle]
theorem thinM_keep {M O : Sl → Option Gr} {s : Sl} {g h : Gr} (hM : M s = some g) (hO : O s = some h) (hle : ¬ gcmp g h ≤ 0) : thinM M O s = some g := by
  unfold thinM; rw [hM, hO]; simp only; rw [if_neg hle]

set_option maxRecDepth 100000 in
set_option maxHeartbeats 2000000 in
theorem thin_any (b c n n' : Nat) (M O : Sl → Option Gr) (w : World) (hm : StMap w b n M) (ho : StMap w c n' O) (hbc : b ≠ c) :
    Calls Tryd.prog 44 #[.map (some b), .map (some c)] w fun e w' => e = .returned (.tuple #[]) ∧ StMap w' b n (thinM M O) ∧ w.grownBy w' (some b) := by
  have hlb := hm.lt
  have HM : Hid (StMap w b n M) := hm
  have HOK : Hid (∀ s g, M s = some g → s.ok) := by
    obtain ⟨_, _, _, h3⟩ := hm
    exact fun s g h => (h3 s g h).1
  obtain ⟨D, hown, h2, h3⟩ := ho
  have H2 : Hid (∀ s : Sl, s.ok → O s = none → Maps.has D s.lit = false) := h2
  have H3 : Hid (∀ s g, O s = some g → s.ok ∧ Maps.has D s.lit = true ∧ ∀ z, D.atKey s.lit z = g.dat) := h3
  clear h2 h3 hm
  have hlc := hown.lt
  go_enter Tryd.func44, Tryd.ntmps44
  go_wp2_with (at_range; refine wpList_range_own _ rfl _ 62 rfl 117 119 slotKeyed Tryd.underlying62 grElem c n' D rfl hown ?_; intro w0 hrg0 hg0 hs0)
  go_frame
  have hg0' : w.grownBy w0 (some b) := ⟨hg0.os, hg0.tape, hg0.output, hg0.size, fun i hi _ => hg0.block i hi (by simp)⟩
  have HM0 : Hid (StMap w0 b n M) := HM.out.kept hg0 (by simp)
  clear HM
  go_loopw [4] (fun _ wr => ∃ (left : Lit → Bool) (cnt : Nat) (N : Sl → Option Gr), wr.ranges Tryd.prog 117 grElem c w.heap.size n' D left cnt ∧ Hid (StMap wr b n N) ∧ Hid (Thinned M O N left) ∧ w.grownBy wr (some b)) (fun _ wr => wr.rangeLeft c w.heap.size)
  case atStart => exact ⟨_, _, M, hrg0, HM0, Thinned.start (fun s g h => (H3.out s g h).2.1), hg0'⟩
  case round =>
    obtain ⟨left, cnt, N, hrg, hst, hth, hgw⟩ := hrel
    go_wp2_with (at_next; refine wpList_next_ranges _ rfl _ rfl 117 slotKeyed grElem (fun s : Sl => .agg #[.int .i64 s.ty, .string s.key, .int .i64 s.side, .int .i64 s.who, .string s.elem]) (fun g : Gr => .agg #[.int .i64 g.n, .int .i64 g.who, .string g.elem]) slot_key_inv (fun v y hv => by obtain ⟨g, rfl, _⟩ := grElem_inv hv; exact ⟨g, rfl⟩) c w.heap.size n' D left cnt rfl hrg ?_ ?_)
    · intro _ hl0
      have HST : Hid (StMap wr b n (thinM M O)) := by rw [← hth.out.done hl0]; exact hst.out
      clear hl0 hst hth hrg
      go_wp2
      go_end0
      exact ⟨rfl, HST, hgw⟩
    · intro x g kl yd yp w2 cnt2 hkey hlk hv hat hrg2 hlt hg2 hs2 hen
      obtain ⟨hxok, rfl⟩ := slot_ok_of_key x kl hkey
      have hOx : O x = some g := by
        cases hO : O x with
        | none =>
          have hh := H2.out x hxok hO
          rw [Maps.has_true_of_atKey hat] at hh
          cases hh
        | some g0 =>
          have := (H3.out x g0 hO).2.2 .nil
          rw [hat] at this
          have hcc : grElem g.val = some (g.dat, []) := grElem_mk g
          have hv' : grElem g.val = some (yd, yp) := hv
          rw [hcc] at hv'
          simp only [Option.some.injEq, Prod.mk.injEq] at hv'
          rw [Gr.dat_inj (hv'.1.trans this)]
      have hNx : N x = M x := by rw [hth.out x, hlk, if_pos rfl]
      have HSTEP : Hid (∀ N', N' x = thinM M O x → (∀ s, s ≠ x → N' s = N s) → Thinned M O N' (fun z => left z && !z.sameKey x.lit)) := fun N' h1 h2 => hth.out.step hxok HOK.out h1 h2
      have hsz2 : wr.heap.size ≤ w2.heap.size := by omega
      have HL : Hid (wr.rangeLeft c w.heap.size = cnt) := hrg.left_eq
      have hst2 := hst.out.kept hg2 (by simp; omega)
      have hgw2 : w.grownBy w2 (some b) := grown_past hgw hg2 (Nat.le_refl _)
      have hrl := hrg2.lt
      clear hkey hat hv hs2 hlk hg2 hrg hst hth hgw
      generalize x.lit = kl at *
      cases hM : M x with
      | none =>
        have hgot : got N x = ⟨0, 0, ByteArray.empty⟩ := by unfold got; rw [hNx, hM]; rfl
        have hsome : (N x).isSome = false := by rw [hNx, hM]; rfl
        have HT : Hid (Thinned M O N (fun z => left z && !z.sameKey kl)) := HSTEP.out N (by rw [hNx, hM]; unfold thinM; rw [hM]) (fun _ _ => rfl)
        clear HSTEP hNx hM hOx
        go_wp2_with (at_lookup; refine wpList_st_look_exp _ rfl _ _ 62 rfl Tryd.underlying62 b n N rfl ((hst2.kept (World.grownBy_alloc _ _ none) (by simp)).kept (World.grownBy_alloc _ _ none) (by simp)) x hxok rfl ⟨0, 0, ByteArray.empty⟩ false hgot hsome ?_)
        have hrg3 := ((hrg2.alloc (.cells #[.int .i64 x.ty, .string x.key, .int .i64 x.side, .int .i64 x.who, .string x.elem] 117)).alloc (.cells #[.int .i64 g.n, .int .i64 g.who, .string g.elem] 119)).alloc (.cells #[.int .i64 0, .int .i64 0, .string ByteArray.empty] 119)
        exact ⟨⟨_, cnt2, N, hrg3, ((hst2.alloc _).alloc _).alloc _, HT, grown_alloc (grown_alloc (grown_alloc hgw2 _) _) _⟩, by rw [hrg3.left_eq, HL.out]; exact hlt⟩
      | some g0 =>
        have hgot : got N x = g0 := by unfold got; rw [hNx, hM]; rfl
        have hsome : (N x).isSome = true := by rw [hNx, hM]; rfl
        go_wp2_with (at_lookup; refine wpList_st_look_exp _ rfl _ _ 62 rfl Tryd.underlying62 b n N rfl ((hst2.alloc _).alloc _) x hxok rfl g0 true hgot hsome ?_)
        refine (compareGrades_exp g0 g _).mono ?_
        rintro e w3 ⟨rfl, hb3⟩
        have hst3 := (((hst2.alloc _).alloc _).alloc _).below hb3
        have hrg3 := (((hrg2.alloc _).alloc _).alloc _).kept (below_grown hb3 none) (by simp) (by simp)
        have hgw3 := grown_trans (grown_alloc (grown_alloc (grown_alloc hgw2 _) _) _) (below_grown hb3 (some b))
        obtain ⟨hc3, hf3⟩ := bcell hb3
        have hz3 : w2.heap.size + 1 + 1 < w3.heap.size := by have := hb3.size; simp at this; omega
        clear hb3 hst2 hrg2 hgw2 hen
        by_cases hle : gcmp g0 g ≤ 0
        · have HT : Hid (Thinned M O (delM N x) (fun z => left z && !z.sameKey kl)) := HSTEP.out _ (by rw [thinM_drop hM hOx hle]; unfold delM; rw [if_pos ((scmp_zero x x).2 rfl)]) (fun s hs => by unfold delM; rw [if_neg (fun e => hs ((scmp_zero s x).1 e))])
          clear HSTEP hNx hM hOx hgot hsome
          generalize gcmp g0 g = q at *
          go_wp2_with (at_delete; refine wpList_st_del _ rfl _ _ 62 rfl Tryd.underlying62 b n N rfl rfl hst3 x hxok rfl ?_; intro w4 hst4 hg4)
          have hrg4 := hrg3.kept hg4 (by simp; omega) (by simp; omega)
          go_roundw
          case rel => exact ⟨_, cnt2, _, hrg4, hst4, HT, grown_trans hgw3 hg4⟩
          case measure => rw [hrg4.left_eq, HL.out]; exact hlt
        · have HT : Hid (Thinned M O N (fun z => left z && !z.sameKey kl)) := HSTEP.out N (by rw [hNx, hM, thinM_keep hM hOx hle]) (fun _ _ => rfl)
          clear HSTEP hNx hM hOx hgot hsome
          generalize gcmp g0 g = q at *
          go_wp2
          exact ⟨⟨_, cnt2, N, hrg3, hst3, HT, hgw3⟩, by rw [hrg3.left_eq, HL.out]; exact hlt⟩
end Go.Proofs.YtahdlejgjcjeoaaDoor
