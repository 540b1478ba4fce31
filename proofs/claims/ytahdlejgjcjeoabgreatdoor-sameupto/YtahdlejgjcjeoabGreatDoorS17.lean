/- The program's change: a replica, and what an operation makes there. -/
import Derived.Test.YtahdlejgjcjeoabGreatDoorS13
import Derived.Test.YtahdlejgjcjeoabGreatDoorS16
import Derived.Test.YtahdlejgjcjeoabGreatDoorS04
import Derived.Test.YtahdlejgjcjeoabGreatDoorS08
import Derived.Test.YtahdlejgjcjeoabGreatDoorS12
namespace Go.Proofs.YtahdlejgjcjeoabGreatDoor
open Go.RowKit Go.Maps

def delM (M : Sl → Option Gr) (s : Sl) : Sl → Option Gr := fun t => if scmp t s = 0 then none else M t

theorem del_stMap {w' : World} {b n : Nat} {D : DataW Unit} {M : Sl → Option Gr} {s : Sl} (hs : s.ok)
    (h2 : ∀ t, t.ok → M t = none → Maps.has D t.lit = false) (h3 : ∀ t g, M t = some g → t.ok ∧ Maps.has D t.lit = true ∧ ∀ z, D.atKey t.lit z = g.dat)
    (h1 : w'.ownsMap Tryz.prog 211 grElem b n (D.del s.lit)) : StMap w' b n (delM M s) := by
  refine ⟨_, h1, fun t ht hn => ?_, fun t g' hg' => ?_⟩
  · unfold delM at hn
    by_cases he : scmp t s = 0
    · obtain rfl := (scmp_zero t s).1 he
      exact Maps.has_del_same
    · rw [if_neg he] at hn
      have hl : t.lit ≠ s.lit := fun e => he ((scmp_zero t s).2 (Sl.lit_inj ht hs e))
      rw [Maps.has_del_other hl]
      exact h2 t ht hn
  · unfold delM at hg'
    split at hg'
    · cases hg'
    · rename_i hne
      obtain ⟨ht, hh, ha⟩ := h3 t g' hg'
      have hl : t.lit ≠ s.lit := fun e => hne ((scmp_zero t s).2 (Sl.lit_inj ht hs e))
      exact ⟨ht, by rw [Maps.has_del_other hl]; exact hh, fun z => by rw [Maps.atKey_del_other hl]; exact ha z⟩

section
variable (w : World) {ops : Array Oper} {rest : List Oper} {o : Oper} {a : Act} {Q : Exit → Act → World → Prop}
theorem wpList_st_del (hg : o.guard = none) (m x : Operand) (t : TypeId) (hop : o.op = Op.call { callee := Callee.builtin Builtin.delete, args := #[m, x], argTypes := #[t, 211] }) (ht : Tryz.prog.underlying t = some (.map 211 213)) (b n : Nat) (M : Sl → Option Gr)
    (hd : o.dst = none) (hm : a.eval m = .map (some b)) (hown : StMap w b n M) (s : Sl) (hs : s.ok) (hx : a.eval x = s.val)
    (hK : ∀ w', StMap w' b n (delM M s) → w.grownBy w' (some b) → wpList Tryz.prog ops Q rest a w') :
    wpList Tryz.prog ops Q (o :: rest) a w := by
  obtain ⟨D, h1, h2, h3⟩ := hown
  refine wpList_delete_own w hg m x t 211 hop 213 slotKeyed ht grElem b n D hm h1 s.val s.lit hx (keyOf_slot s hs) ?_
  intro w' r1 r2
  rw [hd]
  exact hK w' (del_stMap hs h2 h3 r1) r2.grown
end

theorem grown_past {a b c : World} {p q : Nat} (h : a.grownBy b (some p)) (k : b.grownBy c (some q)) (hq : a.heap.size ≤ q) : a.grownBy c (some p) :=
  ⟨k.os.trans h.os, k.tape.trans h.tape, k.output.trans h.output, Nat.le_trans h.size k.size, fun i hi hne => (k.block i (Nat.lt_of_lt_of_le hi h.size) (fun e => by cases e; omega)).trans (h.block i hi hne)⟩

theorem StMap.alloc {w : World} {b n : Nat} {M : Sl → Option Gr} (h : StMap w b n M) (o : Obj) : StMap (w.alloc o) b n M := h.kept (World.grownBy_alloc _ _ none) (by simp)
theorem grown_alloc {a b : World} {row : Option Nat} (h : a.grownBy b row) (o : Obj) : a.grownBy (b.alloc o) row := grown_trans h (World.grownBy_alloc _ _ row)

/-- While the keys 'left' of the other are still to come. -/
def Thinned (M O N : Sl → Option Gr) (left : Lit → Bool) : Prop := ∀ s, N s = if left s.lit then M s else thinM M O s

theorem Thinned.start {M O : Sl → Option Gr} {left : Lit → Bool} (h : ∀ s g, O s = some g → left s.lit = true) : Thinned M O M left := by
  intro s
  split
  · rfl
  · rename_i hl
    unfold thinM
    cases hO : O s with
    | some g => exact absurd (h s g hO) hl
    | none => cases M s <;> rfl
theorem Thinned.done {M O N : Sl → Option Gr} {left : Lit → Bool} (h : Thinned M O N left) (hl : ∀ kl, left kl = false) : N = thinM M O := by
  funext s
  rw [h s, hl, if_neg (by simp)]
theorem Thinned.step {M O N N' : Sl → Option Gr} {left : Lit → Bool} (h : Thinned M O N left) {x : Sl} (hx : x.ok) (hok : ∀ s g, M s = some g → s.ok)
    (h1 : N' x = thinM M O x) (h2 : ∀ s, s ≠ x → N' s = N s) : Thinned M O N' (fun z => left z && !z.sameKey x.lit) := by
  intro s
  by_cases e : s = x
  · subst e
    simp [lit_same, h1]
  · rw [h2 s e, h s]
    by_cases el : s.lit = x.lit
    · have hn : M s = none := by
        cases hM : M s with
        | none => rfl
        | some g => exact absurd (Sl.lit_inj (hok s g hM) hx el) e
      have ht : thinM M O s = none := by unfold thinM; rw [hn]
      rw [hn, ht]
      simp
    · simp [Maps.sameKey_ne el]

theorem compareGrades_exp (g h : Gr) (w : World) :
    Calls Tryz.prog 195 #[.agg #[.int .i64 g.n, .int .i64 g.who, .string g.elem], .agg #[.int .i64 h.n, .int .i64 h.who, .string h.elem]] w fun e w' => e = .returned (.int .i64 (gcmp g h)) ∧ Below w.heap.size w w' := compareGrades_any g h w

theorem thinM_drop {M O : Sl → Option Gr} {s : Sl} {g h : Gr} (hM : M s = some g) (hO : O s = some h) (hle : gcmp g h ≤ 0) : thinM M O s = none := by
  unfold thinM; rw [hM, hO]; simp only; rw [if_pos hle]
theorem thinM_keep {M O : Sl → Option Gr} {s : Sl} {g h : Gr} (hM : M s = some g) (hO : O s = some h) (hle : ¬ gcmp g h ≤ 0) : thinM M O s = some g := by
  unfold thinM; rw [hM, hO]; simp only; rw [if_neg hle]

set_option maxRecDepth 100000 in
set_option maxHeartbeats 2000000 in
theorem thin_any (b c n n' : Nat) (M O : Sl → Option Gr) (w : World) (hm : StMap w b n M) (ho : StMap w c n' O) (hbc : b ≠ c) :
    Calls Tryz.prog 183 #[.map (some b), .map (some c)] w fun e w' => e = .returned (.tuple #[]) ∧ StMap w' b n (thinM M O) ∧ w.grownBy w' (some b) := by
  have hlb := hm.lt
  have HM : Hid (StMap w b n M) := hm
  have HOK : Hid (∀ s g, M s = some g → s.ok) := by
    obtain ⟨_, _, _, h3⟩ := hm
    exact fun s g h => (h3 s g h).1
  obtain ⟨D, hown, h2, h3⟩ := ho
  have H2 : Hid (∀ s : Sl, s.ok → O s = none → Maps.has D s.lit = false) := h2
  have H3 : Hid (∀ s g, O s = some g → s.ok ∧ Maps.has D s.lit = true ∧ ∀ z, D.atKey s.lit z = g.dat) := h3
  clear h2 h3 hm
  have hlc := hown.lt
  go_enter Tryz.func183, Tryz.ntmps183
  go_wp2_with (at_range; refine wpList_range_own _ rfl _ 122 rfl 211 213 slotKeyed Tryz.underlying122 grElem c n' D rfl hown ?_; intro w0 hrg0 hg0 hs0)
  go_frame
  have hg0' : w.grownBy w0 (some b) := ⟨hg0.os, hg0.tape, hg0.output, hg0.size, fun i hi _ => hg0.block i hi (by simp)⟩
  have HM0 : Hid (StMap w0 b n M) := HM.out.kept hg0 (by simp)
  clear HM
  go_loopw [4] (fun _ wr => ∃ (left : Lit → Bool) (cnt : Nat) (N : Sl → Option Gr), wr.ranges Tryz.prog 211 grElem c w.heap.size n' D left cnt ∧ Hid (StMap wr b n N) ∧ Hid (Thinned M O N left) ∧ w.grownBy wr (some b)) (fun _ wr => wr.rangeLeft c w.heap.size)
  case atStart => exact ⟨_, _, M, hrg0, HM0, Thinned.start (fun s g h => (H3.out s g h).2.1), hg0'⟩
  case round =>
    obtain ⟨left, cnt, N, hrg, hst, hth, hgw⟩ := hrel
    go_wp2_with (at_next; refine wpList_next_ranges _ rfl _ rfl 211 slotKeyed grElem (fun s : Sl => .agg #[.int .i64 s.ty, .string s.key, .int .i64 s.side, .int .i64 s.who, .string s.elem]) (fun g : Gr => .agg #[.int .i64 g.n, .int .i64 g.who, .string g.elem]) slot_key_inv (fun v y hv => by obtain ⟨g, rfl, _⟩ := grElem_inv hv; exact ⟨g, rfl⟩) c w.heap.size n' D left cnt rfl hrg ?_ ?_)
    · intro _ hl0
      have HST : Hid (StMap wr b n (thinM M O)) := by rw [← hth.out.done hl0]; exact hst.out
      clear hl0 hst hth hrg
      go_wp2
      go_end0
      exact ⟨rfl, HST, hgw⟩
    · intro x g kl yd yp w2 cnt2 hkey hlk hv hat hrg2 hlt hg2 hs2 hen
      obtain ⟨hxok, rfl⟩ := slot_ok_of_key x kl hkey
      have hOx : O x = some g := by
        cases hO : O x with
        | none =>
          have hh := H2.out x hxok hO
          rw [Maps.has_true_of_atKey hat] at hh
          cases hh
        | some g0 =>
          have := (H3.out x g0 hO).2.2 .nil
          rw [hat] at this
          have hcc : grElem g.val = some (g.dat, []) := grElem_mk g
          have hv' : grElem g.val = some (yd, yp) := hv
          rw [hcc] at hv'
          simp only [Option.some.injEq, Prod.mk.injEq] at hv'
          rw [Gr.dat_inj (hv'.1.trans this)]
      have hNx : N x = M x := by rw [hth.out x, hlk, if_pos rfl]
      have HSTEP : Hid (∀ N', N' x = thinM M O x → (∀ s, s ≠ x → N' s = N s) → Thinned M O N' (fun z => left z && !z.sameKey x.lit)) := fun N' h1 h2 => hth.out.step hxok HOK.out h1 h2
      have hsz2 : wr.heap.size ≤ w2.heap.size := by omega
      have HL : Hid (wr.rangeLeft c w.heap.size = cnt) := hrg.left_eq
      have hst2 := hst.out.kept hg2 (by simp; omega)
      have hgw2 : w.grownBy w2 (some b) := grown_past hgw hg2 (Nat.le_refl _)
      have hrl := hrg2.lt
      clear hkey hat hv hs2 hlk hg2 hrg hst hth hgw
      generalize x.lit = kl at *
      cases hM : M x with
      | none =>
        have hgot : got N x = ⟨0, 0, ByteArray.empty⟩ := by unfold got; rw [hNx, hM]; rfl
        have hsome : (N x).isSome = false := by rw [hNx, hM]; rfl
        have HT : Hid (Thinned M O N (fun z => left z && !z.sameKey kl)) := HSTEP.out N (by rw [hNx, hM]; unfold thinM; rw [hM]) (fun _ _ => rfl)
        clear HSTEP hNx hM hOx
        go_wp2_with (at_lookup; refine wpList_st_look_exp _ rfl _ _ 122 rfl Tryz.underlying122 b n N rfl ((hst2.kept (World.grownBy_alloc _ _ none) (by simp)).kept (World.grownBy_alloc _ _ none) (by simp)) x hxok rfl ⟨0, 0, ByteArray.empty⟩ false hgot hsome ?_)
        have hrg3 := ((hrg2.alloc (.cells #[.int .i64 x.ty, .string x.key, .int .i64 x.side, .int .i64 x.who, .string x.elem] 211)).alloc (.cells #[.int .i64 g.n, .int .i64 g.who, .string g.elem] 213)).alloc (.cells #[.int .i64 0, .int .i64 0, .string ByteArray.empty] 213)
        exact ⟨⟨_, cnt2, N, hrg3, ((hst2.alloc _).alloc _).alloc _, HT, grown_alloc (grown_alloc (grown_alloc hgw2 _) _) _⟩, by rw [hrg3.left_eq, HL.out]; exact hlt⟩
      | some g0 =>
        have hgot : got N x = g0 := by unfold got; rw [hNx, hM]; rfl
        have hsome : (N x).isSome = true := by rw [hNx, hM]; rfl
        go_wp2_with (at_lookup; refine wpList_st_look_exp _ rfl _ _ 122 rfl Tryz.underlying122 b n N rfl ((hst2.alloc _).alloc _) x hxok rfl g0 true hgot hsome ?_)
        refine (compareGrades_exp g0 g _).mono ?_
        rintro e w3 ⟨rfl, hb3⟩
        have hst3 := (((hst2.alloc _).alloc _).alloc _).below hb3
        have hrg3 := (((hrg2.alloc _).alloc _).alloc _).kept (below_grown hb3 none) (by simp) (by simp)
        have hgw3 := grown_trans (grown_alloc (grown_alloc (grown_alloc hgw2 _) _) _) (below_grown hb3 (some b))
        obtain ⟨hc3, hf3⟩ := bcell hb3
        have hz3 : w2.heap.size + 1 + 1 < w3.heap.size := by have := hb3.size; simp at this; omega
        clear hb3 hst2 hrg2 hgw2 hen
        by_cases hle : gcmp g0 g ≤ 0
        · have HT : Hid (Thinned M O (delM N x) (fun z => left z && !z.sameKey kl)) := HSTEP.out _ (by rw [thinM_drop hM hOx hle]; unfold delM; rw [if_pos ((scmp_zero x x).2 rfl)]) (fun s hs => by unfold delM; rw [if_neg (fun e => hs ((scmp_zero s x).1 e))])
          clear HSTEP hNx hM hOx hgot hsome
          generalize gcmp g0 g = q at *
          go_wp2_with (at_delete; refine wpList_st_del _ rfl _ _ 122 rfl Tryz.underlying122 b n N rfl rfl hst3 x hxok rfl ?_; intro w4 hst4 hg4)
          have hrg4 := hrg3.kept hg4 (by simp; omega) (by simp; omega)
          go_roundw
          case rel => exact ⟨_, cnt2, _, hrg4, hst4, HT, grown_trans hgw3 hg4⟩
          case measure => rw [hrg4.left_eq, HL.out]; exact hlt
        · have HT : Hid (Thinned M O N (fun z => left z && !z.sameKey kl)) := HSTEP.out N (by rw [hNx, hM, thinM_keep hM hOx hle]) (fun _ _ => rfl)
          clear HSTEP hNx hM hOx hgot hsome
          generalize gcmp g0 g = q at *
          go_wp2
          exact ⟨⟨_, cnt2, N, hrg3, hst3, HT, hgw3⟩, by rw [hrg3.left_eq, HL.out]; exact hlt⟩
end Go.Proofs.YtahdlejgjcjeoabGreatDoor

namespace Go.Proofs.YtahdlejgjcjeoabGreatDoor
open Go.RowKit Go.Maps

def narrowM (M : Sl → Option Gr) (kind : Int) (key : ByteArray) : Sl → Option Gr := fun s => if s.ty = kind ∧ s.key = key then M s else none

/-- The data of a state's map. -/
def StD (D : DataW Unit) (M : Sl → Option Gr) : Prop :=
  (∀ t : Sl, t.ok → M t = none → Maps.has D t.lit = false) ∧ (∀ t g, M t = some g → t.ok ∧ Maps.has D t.lit = true ∧ ∀ z, D.atKey t.lit z = g.dat)

theorem StD.del {D : DataW Unit} {M : Sl → Option Gr} {s : Sl} (h : StD D M) (hs : s.ok) : StD (D.del s.lit) (delM M s) := by
  obtain ⟨h2, h3⟩ := h
  refine ⟨fun t ht hn => ?_, fun t g' hg' => ?_⟩
  · unfold delM at hn
    by_cases he : scmp t s = 0
    · obtain rfl := (scmp_zero t s).1 he
      exact Maps.has_del_same
    · rw [if_neg he] at hn
      have hl : t.lit ≠ s.lit := fun e => he ((scmp_zero t s).2 (Sl.lit_inj ht hs e))
      rw [Maps.has_del_other hl]
      exact h2 t ht hn
  · unfold delM at hg'
    split at hg'
    · cases hg'
    · rename_i hne
      obtain ⟨ht, hh, ha⟩ := h3 t g' hg'
      have hl : t.lit ≠ s.lit := fun e => hne ((scmp_zero t s).2 (Sl.lit_inj ht hs e))
      exact ⟨ht, by rw [Maps.has_del_other hl]; exact hh, fun z => by rw [Maps.atKey_del_other hl]; exact ha z⟩

/-- While the keys 'left' are still to come. -/
def Narrowed (M N : Sl → Option Gr) (kind : Int) (key : ByteArray) (left : Lit → Bool) : Prop := ∀ s, N s = if left s.lit then M s else narrowM M kind key s

theorem Narrowed.done {M N : Sl → Option Gr} {kind : Int} {key : ByteArray} {left : Lit → Bool} (h : Narrowed M N kind key left) (hl : ∀ kl, left kl = false) : N = narrowM M kind key := by
  funext s
  rw [h s, hl, if_neg (by simp)]
theorem Narrowed.start {M : Sl → Option Gr} {kind : Int} {key : ByteArray} {left : Lit → Bool} (h : ∀ s g, M s = some g → left s.lit = true) : Narrowed M M kind key left := by
  intro s
  split
  · rfl
  · rename_i hl
    unfold narrowM
    cases hM : M s with
    | some g => exact absurd (h s g hM) hl
    | none => simp
theorem Narrowed.step {M N N' : Sl → Option Gr} {kind : Int} {key : ByteArray} {left : Lit → Bool} (h : Narrowed M N kind key left) {x : Sl} (hx : x.ok) (hok : ∀ s g, M s = some g → s.ok)
    (h1 : N' x = narrowM M kind key x) (h2 : ∀ s, s ≠ x → N' s = N s) : Narrowed M N' kind key (fun z => left z && !z.sameKey x.lit) := by
  intro s
  by_cases e : s = x
  · subst e
    simp [lit_same, h1]
  · rw [h2 s e, h s]
    by_cases el : s.lit = x.lit
    · have hn : M s = none := by
        cases hM : M s with
        | none => rfl
        | some g => exact absurd (Sl.lit_inj (hok s g hM) hx el) e
      have ht : narrowM M kind key s = none := by unfold narrowM; rw [hn]; simp
      rw [hn, ht]
      simp
    · simp [Maps.sameKey_ne el]

theorem str_ne2 {a b : ByteArray} (h : ¬ a = b) : (a.toList == b.toList) = false := by
  rw [beq_eq_false_iff_ne, Go.Lib.toList_data, Go.Lib.toList_data]
  exact fun e => h (ByteArray.ext (Array.toList_inj.1 e))

set_option maxRecDepth 100000 in
set_option maxHeartbeats 2000000 in
theorem narrow_any (b n : Nat) (M : Sl → Option Gr) (kind : Int) (key : ByteArray) (w : World) (hm : StMap w b n M) :
    Calls Tryz.prog 154 #[.map (some b), .int .i64 kind, .string key] w fun e w' => e = .returned (.tuple #[]) ∧ Hid (StMap w' b n (narrowM M kind key)) ∧ w.grownBy w' (some b) := by
  obtain ⟨D, hown, h2, h3⟩ := hm
  have HSD : Hid (StD D M) := ⟨h2, h3⟩
  have HOK : Hid (∀ s g, M s = some g → s.ok) := fun s g h => (h3 s g h).1
  clear h2 h3
  have hlb := hown.lt
  go_enter Tryz.func154, Tryz.ntmps154
  go_wp2_with (at_range; refine wpList_range_own _ rfl _ 122 rfl 211 213 slotKeyed Tryz.underlying122 grElem b n D rfl hown ?_; intro w0 hrg0 hg0 hs0)
  go_frame
  have hg0' : w.grownBy w0 (some b) := ⟨hg0.os, hg0.tape, hg0.output, hg0.size, fun i hi _ => hg0.block i hi (by simp)⟩
  go_loopw [6] (fun _ wr => ∃ (left : Lit → Bool) (cnt : Nat) (N : Sl → Option Gr) (E : DataW Unit), wr.ranges Tryz.prog 211 grElem b w.heap.size n E left cnt ∧ Hid (StD E N) ∧ Hid (Narrowed M N kind key left) ∧ w.grownBy wr (some b)) (fun _ wr => wr.rangeLeft b w.heap.size)
  case atStart => exact ⟨_, _, M, D, hrg0, HSD, Narrowed.start (fun s g h => (HSD.out.2 s g h).2.1), hg0'⟩
  case round =>
    obtain ⟨left, cnt, N, E, hrg, hsd, hna, hgw⟩ := hrel
    go_wp2_with (at_next; refine wpList_next_ranges _ rfl _ rfl 211 slotKeyed grElem (fun s : Sl => .agg #[.int .i64 s.ty, .string s.key, .int .i64 s.side, .int .i64 s.who, .string s.elem]) (fun g : Gr => .agg #[.int .i64 g.n, .int .i64 g.who, .string g.elem]) slot_key_inv (fun v y hv => by obtain ⟨g, rfl, _⟩ := grElem_inv hv; exact ⟨g, rfl⟩) b w.heap.size n E left cnt rfl hrg ?_ ?_)
    · intro _ hl0
      have HST : Hid (StMap wr b n (narrowM M kind key)) := by rw [← hna.out.done hl0]; exact ⟨E, hrg.owns, hsd.out.1, hsd.out.2⟩
      clear hl0 hna hsd hrg
      go_wp2
      go_end0
      exact ⟨rfl, HST, hgw⟩
    · intro x g kl yd yp w2 cnt2 hkey hlk hv hat hrg2 hlt hg2 hs2 hen
      obtain ⟨hxok, rfl⟩ := slot_ok_of_key x kl hkey
      have hNx : N x = M x := by rw [hna.out x, hlk, if_pos rfl]
      have HSTEP : Hid (∀ N', N' x = narrowM M kind key x → (∀ s, s ≠ x → N' s = N s) → Narrowed M N' kind key (fun z => left z && !z.sameKey x.lit)) := fun N' h1 h2 => hna.out.step hxok HOK.out h1 h2
      have hsz2 : wr.heap.size ≤ w2.heap.size := by omega
      have HL : Hid (wr.rangeLeft b w.heap.size = cnt) := hrg.left_eq
      have hgw2 : w.grownBy w2 (some b) := grown_past hgw hg2 (Nat.le_refl _)
      have hrl := hrg2.lt
      clear hat hv hs2 hlk hg2 hrg hna hgw
      by_cases hkeep : x.ty = kind ∧ x.key = key
      · have HT : Hid (Narrowed M N kind key (fun z => left z && !z.sameKey x.lit)) := HSTEP.out N (by rw [hNx]; unfold narrowM; rw [if_pos hkeep]) (fun _ _ => rfl)
        obtain ⟨rfl, rfl⟩ := hkeep
        clear HSTEP hNx hkey
        generalize x.lit = kl at *
        go_wp2
        have hrg3 := hrg2.alloc (.cells #[.int .i64 x.ty, .string x.key, .int .i64 x.side, .int .i64 x.who, .string x.elem] 211)
        refine ⟨⟨_, cnt2, N, E, hrg3, hsd, HT, grown_alloc hgw2 _⟩, ?_⟩
        rw [hrg3.left_eq, HL.out]
        exact hlt
      · have HT : Hid (Narrowed M (delM N x) kind key (fun z => left z && !z.sameKey x.lit)) := HSTEP.out (delM N x) (by unfold delM narrowM; rw [if_pos ((scmp_zero x x).2 rfl), if_neg hkeep]) (fun s hs => by unfold delM; rw [if_neg (fun e => hs ((scmp_zero s x).1 e))])
        have HSD2 : Hid (StD (E.del x.lit) (delM N x)) := hsd.out.del hxok
        clear HSTEP hNx
        by_cases hty : x.ty = kind
        · have hke : ¬ x.key = key := fun e => hkeep ⟨hty, e⟩
          have hke2 := str_ne2 hke
          subst hty
          go_wp2_with (at_delete; refine wpList_delete_ranges _ rfl _ _ 122 211 rfl 213 slotKeyed Tryz.underlying122 grElem b w.heap.size n E _ cnt2 rfl (hrg2.alloc _) x.val x.lit rfl (keyOf_slot x hxok) ?_; intro w3 cnt3 hrg3 hle3 hmt3)
          have e3 : (fun z : Lit => (left z && !z.sameKey x.lit) && !z.sameKey x.lit) = fun z => left z && !z.sameKey x.lit := by
            funext z
            cases left z <;> cases z.sameKey x.lit <;> rfl
          rw [e3] at hrg3
          have hfin : w.grownBy w3 (some b) := grown_trans (grown_alloc hgw2 _) hmt3.grown
          clear hkey hrg2
          generalize x.lit = kl at *
          go_wp2
          refine ⟨⟨_, cnt3, delM N x, _, hrg3, HSD2, HT, hfin⟩, ?_⟩
          rw [hrg3.left_eq, HL.out]
          omega
        · go_wp2_with (at_delete; refine wpList_delete_ranges _ rfl _ _ 122 211 rfl 213 slotKeyed Tryz.underlying122 grElem b w.heap.size n E _ cnt2 rfl (hrg2.alloc _) x.val x.lit rfl (keyOf_slot x hxok) ?_; intro w3 cnt3 hrg3 hle3 hmt3)
          have e3 : (fun z : Lit => (left z && !z.sameKey x.lit) && !z.sameKey x.lit) = fun z => left z && !z.sameKey x.lit := by
            funext z
            cases left z <;> cases z.sameKey x.lit <;> rfl
          rw [e3] at hrg3
          have hfin : w.grownBy w3 (some b) := grown_trans (grown_alloc hgw2 _) hmt3.grown
          clear hkey hrg2
          generalize x.lit = kl at *
          go_wp2
          refine ⟨⟨_, _, _, _, _, _, _, _, _, _, _, _, _, _, _, _, _, ⟨_, cnt3, delM N x, _, hrg3, HSD2, HT, hfin⟩, rfl⟩, ?_⟩
          rw [hrg3.left_eq, HL.out]
          omega
end Go.Proofs.YtahdlejgjcjeoabGreatDoor

namespace Go.Proofs.YtahdlejgjcjeoabGreatDoor
open Go.RowKit Go.Maps

/-- What an atom counts. -/
def sv (a : At) : Int := if (slot a).side = 0 then (grade a).n else - (grade a).n
def svs (l : List At) : Int := (l.map sv).sum
theorem svs_snoc (l : List At) (a : At) : svs (l ++ [a]) = svs l + sv a := by simp [svs]
theorem grade_n (a : At) : (grade a).n = a.n := by unfold grade; split <;> rfl
theorem sv_bound {a : At} (h : mayB a = true) : -2147483648 ≤ sv a ∧ sv a ≤ 2147483648 := by
  have : 0 ≤ a.n ∧ a.n ≤ 2147483647 := by
    simp only [mayB, decide_eq_true_eq] at h
    omega
  unfold sv
  rw [grade_n]
  split <;> omega
theorem svs_bound : ∀ {l : List At}, (∀ a ∈ l, mayB a = true) → -2147483648 * (l.length : Int) ≤ svs l ∧ svs l ≤ 2147483648 * (l.length : Int)
  | [], _ => by simp [svs]
  | a :: l, h => by
    have h1 := svs_bound (l := l) (fun x hx => h x (by simp [hx]))
    have h2 := sv_bound (h a (by simp))
    have e : svs (a :: l) = sv a + svs l := by simp [svs]
    rw [e, List.length_cons]
    push_cast
    omega

set_option maxRecDepth 100000 in
set_option maxHeartbeats 2000000 in
theorem total_any (b n : Nat) (M : Sl → Option Gr) (w : World) (hm : StMap w b n M) (hmm : MayMap M) (hn : n ≤ 8388608) :
    Calls Tryz.prog 155 #[.map (some b)] w fun e w' => ∃ C, e = .returned (.int .i64 (svs C)) ∧ Hid (Coll M (fun _ => false) C) ∧ Below w.heap.size w w' := by
  obtain ⟨D, hown, h2, h3⟩ := hm
  have HMM : Hid (MayMap M) := hmm
  have H2 : Hid (∀ s : Sl, s.ok → M s = none → Maps.has D s.lit = false) := h2
  have H3 : Hid (∀ s g, M s = some g → s.ok ∧ Maps.has D s.lit = true ∧ ∀ z, D.atKey s.lit z = g.dat) := h3
  have hsz := hown.size_le
  clear hmm h2 h3
  have hbw := hown.lt
  go_enter Tryz.func155, Tryz.ntmps155
  go_wp2_with (at_range; refine wpList_range_own _ rfl _ 122 rfl 211 213 slotKeyed Tryz.underlying122 grElem b n D rfl hown ?_; intro w0 hrg0 hg0 hs0)
  go_frame
  have hb0 : Below w.heap.size w w0 := (Below.refl _ w).grown hg0 (Nat.le_refl _) (fun k hk => by cases hk)
  go_loopw [3] (fun v wr => ∃ (left : Lit → Bool) (cnt : Nat) (C : List At), wr.ranges Tryz.prog 211 grElem b w.heap.size n D left cnt ∧ v = .int .i64 (svs C) ∧ Hid (Coll M left C) ∧ C.length + cnt ≤ n ∧ Below w.heap.size w wr) (fun _ wr => wr.rangeLeft b w.heap.size)
  case atStart =>
    refine ⟨Maps.has D, Maps.size D, [], hrg0, rfl, ⟨.nil, fun a => ?_⟩, by simpa using hsz, hb0⟩
    constructor
    · intro h; cases h
    · rintro ⟨h1, h2⟩
      have := (H3.out _ _ h1.2).2.1
      rw [this] at h2; cases h2
  case round =>
    obtain ⟨left, cnt, C, hrg, rfl, hC, hcnt, hbr⟩ := hrel
    go_wp2_with (at_next; refine wpList_next_ranges _ rfl _ rfl 211 slotKeyed grElem (fun s : Sl => .agg #[.int .i64 s.ty, .string s.key, .int .i64 s.side, .int .i64 s.who, .string s.elem]) (fun g : Gr => .agg #[.int .i64 g.n, .int .i64 g.who, .string g.elem]) slot_key_inv (fun v y hv => by obtain ⟨g, rfl, _⟩ := grElem_inv hv; exact ⟨g, rfl⟩) b w.heap.size n D left cnt rfl hrg ?_ ?_)
    · intro _ hl0
      have HC0 : Hid (Coll M (fun _ => false) C) := by
        have e : left = fun _ => false := funext hl0
        rw [e] at hC
        exact hC
      clear hl0 hC hrg
      go_wp2
      go_ret
      exact ⟨C, rfl, HC0, hbr⟩
    · intro x c kl yd yp w2 cnt2 hkey hlk hv hat hrg2 hlt hg2 hs2 hen
      obtain ⟨hxok, rfl⟩ := slot_ok_of_key x kl hkey
      have hMx : M x = some c := by
        obtain ⟨g', hg', hz'⟩ := grElem_inv hv
        cases hM : M x with
        | none =>
          have hh := H2.out x hxok hM
          rw [Maps.has_true_of_atKey hat] at hh
          cases hh
        | some g0 =>
          have := (H3.out x g0 hM).2.2 .nil
          rw [hat] at this
          have hcc : grElem c.val = some (c.dat, []) := grElem_mk c
          have hv' : grElem c.val = some (yd, yp) := hv
          rw [hcc] at hv'
          simp only [Option.some.injEq, Prod.mk.injEq] at hv'
          rw [Gr.dat_inj (hv'.1.trans this)]
      obtain ⟨a, ha, rfl, rfl⟩ := HMM.out x c hMx
      have HC2 : Hid (Coll M (fun z => left z && !z.sameKey (slot a).lit) (C ++ [a])) := hC.out.step ⟨ha, hMx⟩ hlk (fun s g h => (H3.out s g h).1)
      have hbC := svs_bound (l := C) (fun z hz => ((hC.out.mem z).1 hz).1.1)
      have hba := sv_bound ha
      have HSN : Hid (svs (C ++ [a]) = svs C + sv a) := svs_snoc C a
      have hsz2 : wr.heap.size ≤ w2.heap.size := by omega
      clear hkey hat hv hMx hs2 hxok hlk
      have hbr2 : Below w.heap.size w w2 := hbr.grown hg2 hbr.size (fun k hk => by cases hk; exact Nat.le_refl _)
      have HL : Hid (wr.rangeLeft b w.heap.size = cnt) := hrg.left_eq
      clear hg2 hrg ha
      generalize (slot a).lit = kl at *
      by_cases hsd : (slot a).side = 0
      · have hsv : sv a = (grade a).n := by unfold sv; rw [if_pos hsd]
        rw [hsv] at hba
        generalize slot a = x at *
        generalize grade a = c at *
        go_wp2
        refine ⟨⟨_, cnt2, C ++ [a], (hrg2.alloc _).alloc _, by rw [HSN.out, hsv], HC2, by simp; omega, below_alloc (below_alloc hbr2 _) _⟩, ?_⟩
        rw [((hrg2.alloc _).alloc _).left_eq, HL.out]
        exact hlt
      · have hsv : sv a = - (grade a).n := by unfold sv; rw [if_neg hsd]
        rw [hsv] at hba
        generalize slot a = x at *
        generalize grade a = c at *
        go_wp2
        refine ⟨⟨_, cnt2, C ++ [a], (hrg2.alloc _).alloc _, by rw [HSN.out, hsv]; rfl, HC2, by simp; omega, below_alloc (below_alloc hbr2 _) _⟩, ?_⟩
        rw [((hrg2.alloc _).alloc _).left_eq, HL.out]
        exact hlt
end Go.Proofs.YtahdlejgjcjeoabGreatDoor

namespace Go.Proofs.YtahdlejgjcjeoabGreatDoor
open Go.RowKit

theorem ci_lt {x y : Int} : (ci x y < 0 → x < y) ∧ (ci x y = 0 → x = y) ∧ (0 < ci x y → y < x) := by
  simp only [ci, sgn]
  split
  · omega
  · split <;> omega
theorem gcmp_n {g h : Gr} : (gcmp g h < 0 → g.n ≤ h.n) ∧ (0 ≤ gcmp g h → h.n ≤ g.n) := by
  have := ci_lt (x := g.n) (y := h.n)
  unfold gcmp
  constructor
  · intro k
    split at k
    · have := this.1 k; omega
    · rename_i hz
      have : ci g.n h.n = 0 := by omega
      have := (ci_lt (x := g.n) (y := h.n)).2.1 this
      omega
  · intro k
    split at k
    · by_cases e : ci g.n h.n = 0
      · have := (ci_lt (x := g.n) (y := h.n)).2.1 e; omega
      · have := (ci_lt (x := g.n) (y := h.n)).2.2 (by omega); omega
    · have : ci g.n h.n = 0 := by omega
      have := (ci_lt (x := g.n) (y := h.n)).2.1 this
      omega
theorem hadN_snoc (l : List At) (x a : At) : hadN (l ++ [x]) a = if plc x a = 0 ∧ hadN l a < x.n then x.n else hadN l a := by unfold hadN; rw [List.foldl_append]; rfl
theorem got_go (a : At) : ∀ (k : Nat) (l : List At), l.length = k → (∀ x ∈ l, 0 ≤ x.n) → (got (addTo (fun _ => none) l) (slot a)).n = hadN l a := by
  intro k
  induction k with
  | zero => intro l hk _; rw [List.length_eq_zero_iff.1 hk]; rfl
  | succ k ihk =>
    intro l' hk hl
    obtain ⟨l, x, rfl⟩ : ∃ l x, l' = l ++ [x] := ⟨l'.dropLast, l'.getLast (by intro e; rw [e] at hk; simp at hk), (List.dropLast_concat_getLast _).symm⟩
    have ih := ihk l (by simpa using hk) (fun y hy => hl y (by simp [hy]))
    have hx := hl x (by simp)
    rw [addTo_append, hadN_snoc]
    show (got (addA (addTo (fun _ => none) l) x) (slot a)).n = _
    generalize addTo (fun _ => none) l = M at *
    unfold addA upd got at *
    dsimp only
    by_cases he : plc x a = 0
    · have hs := plc_slot he
      rw [if_pos ((scmp_zero _ _).2 hs.symm), Option.getD_some]
      rw [← hs] at ih
      cases hM : M (slot x) with
      | none =>
        rw [hM] at ih
        simp only [Option.getD_none] at ih
        rw [← ih, grade_n]
        split <;> omega
      | some g =>
        rw [hM] at ih
        simp only [Option.getD_some] at ih
        rw [← ih]
        dsimp only
        have hg := gcmp_n (g := g) (h := grade x)
        rw [grade_n] at hg
        split
        · rename_i h1
          have := hg.1 h1
          rw [grade_n]
          split <;> omega
        · rename_i h1
          have := hg.2 (by omega)
          split <;> omega
    · have hne : ¬ scmp (slot a) (slot x) = 0 := fun h => he (by rw [plc_eq, scmp_zero]; exact ((scmp_zero _ _).1 h).symm)
      rw [if_neg hne, if_neg (fun h => he h.1)]
      exact ih
theorem got_had (l : List At) (a : At) (hl : ∀ x ∈ l, 0 ≤ x.n) : (got (addTo (fun _ => none) l) (slot a)).n = hadN l a := got_go a l.length l rfl hl
theorem hadN_plc (l : List At) {a b : At} (h : ∀ x, plc x a = plc x b) : hadN l a = hadN l b := by
  unfold hadN
  congr 1
  funext n x
  rw [h x]
theorem plc_n (x : At) (ty : Int) (key : ByteArray) (side who : Int) (elem : ByteArray) (n m : Int) : plc x ⟨ty, key, side, who, elem, n⟩ = plc x ⟨ty, key, side, who, elem, m⟩ := by
  rw [plc_eq, plc_eq]
  rfl
theorem hadN_zero {l : List At} {a : At} (h : ∀ x ∈ l, plc x a = 0 → x.n = 0) : hadN l a = 0 := by
  have : ∀ (l : List At), (∀ x ∈ l, plc x a = 0 → x.n = 0) → l.foldl (fun n x => if plc x a = 0 ∧ n < x.n then x.n else n) 0 = 0 := by
    intro l
    induction l with
    | nil => intro _; rfl
    | cons x l ih =>
      intro h
      rw [List.foldl_cons, if_neg (fun k => by have := h x (by simp) k.1; omega)]
      exact ih fun y hy => h y (by simp [hy])
  exact this l h
theorem n_zero {x : At} (h : mayB x = true) (ht : x.ty = 3 ∨ x.ty = 4) : x.n = 0 := by
  simp only [mayB, decide_eq_true_eq] at h
  omega
/-- What Change makes is what the document says. -/
theorem chg_is {l : List At} {r : Nat} {o : OpV} (hl : ∀ x ∈ l, mayB x = true) (hf : fineOp o = true) : { movedAt r o with n := chgN (addTo (fun _ => none) l) r o } = opAtom l r o := by
  have h0 : ∀ x ∈ l, 0 ≤ x.n := fun x hx => by have := hl x hx; simp only [mayB, decide_eq_true_eq] at this; omega
  unfold chgN
  rw [got_had l _ h0]
  obtain ⟨ty, key, side, elem, n⟩ := o
  simp only [fineOp, decide_eq_true_eq] at hf
  unfold movedAt opAtom
  dsimp only
  by_cases h1 : ty = 1
  · subst h1
    rw [if_pos rfl, if_pos rfl]
    have hs : side = 0 := by omega
    subst hs
    rw [hadN_plc l (fun x => plc_n x 1 key 0 r elem n 0), Int.add_comm]
  · rw [if_neg h1, if_neg h1]
    by_cases h2 : ty = 2
    · subst h2
      rw [if_pos rfl, if_pos rfl]
      have hs : side = 0 := by omega
      subst hs
      by_cases hn : n < 0
      · rw [if_pos hn, if_pos hn]
        have hm : max n (-n) = -n := by omega
        dsimp only
        rw [hm, hadN_plc l (fun x => plc_n x 2 key 1 r elem (-n) 0), Int.add_comm]
      · rw [if_neg hn, if_neg hn]
        have hm : max n (-n) = n := by omega
        dsimp only
        rw [hm, hadN_plc l (fun x => plc_n x 2 key 0 r elem n 0), Int.add_comm]
    · rw [if_neg h2, if_neg h2]
      by_cases h5 : ty = 5
      · subst h5
        rw [if_pos rfl, if_pos rfl]
        dsimp only
        rw [hadN_plc l (fun x => plc_n x 5 key side r elem 1 0), Int.add_comm]
      · rw [if_neg h5, if_neg h5]
        dsimp only
        rw [hadN_zero (fun x hx hp => n_zero (hl x hx) (by have := plc_ty hp; simp only at this; omega))]
        rfl
theorem chgErr_is {l : List At} {r : Nat} {o : OpV} (hl : ∀ x ∈ l, mayB x = true) : chgErr (addTo (fun _ => none) l) r o = if fineOp o = false then 6 else if 2147483647 < (opAtom l r o).n then 2 else 0 := by
  unfold chgErr
  cases hf : fineOp o
  · rfl
  · have e : (opAtom l r o).n = chgN (addTo (fun _ => none) l) r o := by rw [← chg_is hl hf]
    rw [e]
theorem chgAt_is {l : List At} {r : Nat} {o : OpV} (hl : ∀ x ∈ l, mayB x = true) (h : chgErr (addTo (fun _ => none) l) r o = 0) : chgAt (addTo (fun _ => none) l) r o = opAtom l r o := by
  unfold chgAt
  rw [if_pos h]
  refine chg_is hl ?_
  cases hf : fineOp o
  · simp [chgErr, hf] at h
  · rfl
theorem got_bound {l : List At} (hl : ∀ x ∈ l, mayB x = true) (s : Sl) : 0 ≤ (got (addTo (fun _ => none) l) s).n ∧ (got (addTo (fun _ => none) l) s).n ≤ 2147483647 := by
  unfold got
  cases h : addTo (fun _ => none) l s with
  | none => simp
  | some g =>
    obtain ⟨a, ha, _, h2⟩ := (holds_list l).only s g h
    have := hl a ha
    simp only [mayB, decide_eq_true_eq] at this
    rw [Option.getD_some, ← h2, grade_n]
    omega
end Go.Proofs.YtahdlejgjcjeoabGreatDoor

namespace Go.Proofs.YtahdlejgjcjeoabGreatDoor
open Go.RowKit

theorem opErr_cases {c : Clu} {r : Int} {o : OpV} : (c.works r = 5 ∧ c.opErr r o = 5 ∧ ¬ (0 ≤ r ∧ r < c.reps.length)) ∨ (∃ i : Nat, r = i ∧ i < c.reps.length ∧ ((c.works r = 8 ∧ c.opErr r o = 8 ∧ (c.rep i).down = true) ∨ (c.works r = 0 ∧ (c.rep i).down = false ∧ c.opErr r o = if fineOp o = false then 6 else if 2147483647 < (opAtom (c.rep i).atoms i o).n then 2 else 0))) := by
  rcases works_cases c r with ⟨hw, hr⟩ | ⟨i, rfl, hi, ⟨hw, hd⟩ | ⟨hw, hd⟩⟩
  · exact .inl ⟨hw, by simp [Clu.opErr, hw], hr⟩
  · exact .inr ⟨i, rfl, hi, .inl ⟨hw, by simp [Clu.opErr, hw], hd⟩⟩
  · exact .inr ⟨i, rfl, hi, .inr ⟨hw, hd, by unfold Clu.opErr; rw [if_neg (by simp [hw])]; rfl⟩⟩

theorem al6o {w w' : World} {z0 z1 z2 z3 z4 z5 : Value} {A : Obj} {e : TypeId} (hb : Below ((w.alloc A).alloc (.cells #[z0, z1, z2, z3, z4, z5] e)).drew.heap.size ((w.alloc A).alloc (.cells #[z0, z1, z2, z3, z4, z5] e)).drew w') :
    w'.cell? ⟨w.heap.size + 1, 0, none⟩ = some z0 ∧ w'.cell? ⟨w.heap.size + 1, 1, none⟩ = some z1 ∧ w'.cell? ⟨w.heap.size + 1, 2, none⟩ = some z2 ∧ w'.cell? ⟨w.heap.size + 1, 3, none⟩ = some z3 ∧ w'.cell? ⟨w.heap.size + 1, 4, none⟩ = some z4 ∧ w'.cell? ⟨w.heap.size + 1, 5, none⟩ = some z5 ∧ ∀ k, w'.frozen? ⟨w.heap.size + 1, k, none⟩ = false := by
  have := al6 (w := w.alloc A) (w' := w') (z0 := z0) (z1 := z1) (z2 := z2) (z3 := z3) (z4 := z4) (z5 := z5) (e := e) ⟨hb.os, hb.tape, hb.output, hb.size, hb.block⟩
  simpa using this

theorem chA {w W w2 : World} {z0 z1 z2 z3 z4 z5 : Value} {e : TypeId} (h1 : Below w.heap.size w W) (h2 : Below W.heap.size W w2) : Below w.heap.size w (w2.alloc (.cells #[z0, z1, z2, z3, z4, z5] e)) ∧ (w2.alloc (.cells #[z0, z1, z2, z3, z4, z5] e)).heap[w2.heap.size]? = some (.cells #[z0, z1, z2, z3, z4, z5] e (0, 0)) :=
  ⟨below_alloc (h1.trans (h2.mono h1.size)) _, heap_alloc_new w2 _⟩
theorem chB {w w2 : World} {y0 y1 y2 y3 y4 y5 z0 z1 z2 z3 z4 z5 : Value} {A : Obj} {e : TypeId} (hb : Below ((w.alloc A).alloc (.cells #[y0, y1, y2, y3, y4, y5] e)).drew.heap.size ((w.alloc A).alloc (.cells #[y0, y1, y2, y3, y4, y5] e)).drew w2) :
    Below w.heap.size w ((((((w2.setCell ⟨w.heap.size + 1, 0, none⟩ z0).setCell ⟨w.heap.size + 1, 1, none⟩ z1).setCell ⟨w.heap.size + 1, 2, none⟩ z2).setCell ⟨w.heap.size + 1, 3, none⟩ z3).setCell ⟨w.heap.size + 1, 4, none⟩ z4).setCell ⟨w.heap.size + 1, 5, none⟩ z5) ∧ ((((((w2.setCell ⟨w.heap.size + 1, 0, none⟩ z0).setCell ⟨w.heap.size + 1, 1, none⟩ z1).setCell ⟨w.heap.size + 1, 2, none⟩ z2).setCell ⟨w.heap.size + 1, 3, none⟩ z3).setCell ⟨w.heap.size + 1, 4, none⟩ z4).setCell ⟨w.heap.size + 1, 5, none⟩ z5).heap[w.heap.size + 1]? = some (.cells #[z0, z1, z2, z3, z4, z5] e (0, 0)) := by
  have hd : ((w.alloc A).alloc (.cells #[y0, y1, y2, y3, y4, y5] e)).drew.heap.size = w.heap.size + 2 := by simp [World.drew]
  have h0 : Below w.heap.size w w2 := (below_alloc (below_alloc (Below.refl _ w) A) (.cells #[y0, y1, y2, y3, y4, y5] e)).drew.trans (hb.mono (by omega))
  have h1 : w2.heap[w.heap.size + 1]? = some (.cells #[y0, y1, y2, y3, y4, y5] e (0, 0)) := by
    rw [hb.block _ (by omega)]
    have := heap_alloc_new (w.alloc A) (.cells #[y0, y1, y2, y3, y4, y5] e)
    rw [World.size_alloc] at this
    exact this
  exact ⟨setA6_below h0 (by omega), setA6_heap h1⟩

set_option maxRecDepth 100000 in
set_option maxHeartbeats 1000000 in
theorem change_in {w : World} {col : Col} {o x N : Nat} {U : List At} {K : PrK} {c : Clu} (h : PrAt w col o x K) (hT : Tab w col) (hlen : K.Ds.length = c.reps.length) (hD : ∀ i (h : i < K.Ds.length), (K.Ds[i]).is (c.rep i)) (hok : c.ok U N) (r : Int) (op : OpV) (hop : op.short) :
    Calls Tryz.prog 61 #[.pointer (some ⟨x, 0, none⟩), .int .i64 r, op.val] w fun e w' => Below w.heap.size w w' ∧ Hid ((c.opErr r op ≠ 0 ∧ e = .returned (.tuple #[.pointer none, .slice none 0 0, .int .i64 (c.opErr r op)])) ∨ (c.opErr r op = 0 ∧ ∃ i b : Nat, r = i ∧ i < c.reps.length ∧ w.heap.size ≤ b ∧ e = .returned (.tuple #[.pointer (some ⟨K.R, i * 14, none⟩), .slice (some ⟨b, 0, none⟩) 1 1, .int .i64 0]) ∧ w'.heap[b]? = some (.cells (enc (opAtom (c.rep i).atoms i op)).toArray 76 (0, 0)))) := by
  obtain ⟨_, _, _, _, c41, _, _⟩ := h.cl
  have hb0 : ∀ ob, Below w.heap.size w (w.alloc ob) := fun ob => below_alloc (Below.refl _ _) ob
  have k41 := fun ob => ((hb0 ob).cell (p := ⟨x, 41, none⟩) (blk_lt h.blk)).trans c41
  rcases opErr_cases (c := c) (r := r) (o := op) with ⟨hw, he, hr⟩ | ⟨i, rfl, hi, ⟨hw, he, hd⟩ | ⟨hw, hd, he⟩⟩
  · rw [he]
    obtain ⟨ty, key, side, elem, n⟩ := op
    unfold OpV.val
    dsimp only
    go_enter Tryz.func61, Tryz.ntmps61
    go_wp2_with fail
    refine (upOne_no x r _ _ _ _ (k41 _) (by rw [hlen]; exact hr)).mono ?_
    rintro e w1 ⟨rfl, rfl⟩
    go_wp2
    refine bodyPost_ret (v := .tuple #[.pointer none, .slice none 0 0, .int .i64 5]) (by simp [results, Tryz.results61, go_sem]) rfl ⟨hb0 _, .inl ⟨by decide, rfl⟩⟩
  · have hi' : i < K.Ds.length := by rw [hlen]; exact hi
    have kup := fun ob => ((hb0 ob).cell (p := ⟨K.R, i * 14, none⟩) (blk_lt h.row)).trans (h.cells hi').c0
    rw [(hD i hi').up, hd] at kup
    rw [he]
    obtain ⟨ty, key, side, elem, n⟩ := op
    unfold OpV.val
    dsimp only
    go_enter Tryz.func61, Tryz.ntmps61
    go_wp2_with fail
    refine (upOne_yes x K.R i K.Ds.length K.Ds.length false _ (k41 _) hi' (kup _)).mono ?_
    rintro e w1 ⟨rfl, rfl⟩
    go_wp2
    refine bodyPost_ret (v := .tuple #[.pointer none, .slice none 0 0, .int .i64 8]) (by simp [results, Tryz.results61, go_sem]) rfl ⟨hb0 _, .inl ⟨by decide, rfl⟩⟩
  · have hi' : i < K.Ds.length := by rw [hlen]; exact hi
    have hi6 : i < 6 := Nat.lt_of_lt_of_le hi hok.n6
    have kup := fun ob => ((hb0 ob).cell (p := ⟨K.R, i * 14, none⟩) (blk_lt h.row)).trans (h.cells hi').c0
    rw [(hD i hi').up, hd] at kup
    have c3 := fun ob => ((hb0 ob).cell (p := ⟨K.R, i * 14 + 3, none⟩) (blk_lt h.row)).trans (h.cells hi').c3
    have hmay : ∀ a ∈ (c.rep i).atoms, mayB a = true := fun a ha => hok.may a ((hok.rep hi).sub a ha)
    have hst := (h.reps i hi' (by simp)).st
    rw [(hD i hi').M] at hst
    have HCH : Hid (∀ W, Below w.heap.size w W → Calls Tryz.prog 108 #[.map (some (K.Ds[i]).b), .int .i64 i, op.val] W fun e w' => e = .returned (.tuple #[(chgAt (addTo (fun _ => none) (c.rep i).atoms) i op).val, .int .i64 (c.opErr i op)]) ∧ Below W.heap.size W w') := by
      intro W hW
      have := change_any (K.Ds[i]).b (K.Ds[i]).n _ i op W (hT.below hW).rules (hT.below hW).steps (hst.below hW) hop hi6 (fun s => got_bound hmay s)
      rw [chgErr_is hmay, ← he] at this
      exact this
    have HAT : Hid (c.opErr i op = 0 → chgAt (addTo (fun _ => none) (c.rep i).atoms) i op = opAtom (c.rep i).atoms i op) := fun h0 => chgAt_is hmay (by rw [chgErr_is hmay, ← he]; exact h0)
    have hltR := blk_lt h.row
    have c3' := (h.cells hi').c3
    generalize hat : chgAt (addTo (fun _ => none) (c.rep i).atoms) i op = at1 at *
    have HAT2 : Hid (c.opErr i op = 0 → at1 = opAtom (c.rep i).atoms i op) := HAT.out
    clear hat HAT hst hmay he hd hw h hT hD
    generalize c.opErr i op = er at *
    obtain ⟨ty, key, side, elem, n⟩ := op
    unfold OpV.val At.val at *
    dsimp only at *
    go_enter Tryz.func61, Tryz.ntmps61
    go_wp2_with fail
    refine (upOne_yes x K.R i K.Ds.length K.Ds.length true _ (k41 _) hi' (kup _)).mono ?_
    rintro e w1 ⟨rfl, rfl⟩
    have e3 := fun ob ob2 => ((below_alloc (hb0 ob) ob2).cell (p := ⟨K.R, i * 14 + 3, none⟩) hltR).trans (c3' )
    have hw1 : Below w.heap.size w (w.alloc (.cells #[.int .i64 ty, .string key, .int .i64 side, .string elem, .int .i64 n] 31)).drew := (hb0 _).drew
    have hw2 : Below w.heap.size w ((w.alloc (.cells #[.int .i64 ty, .string key, .int .i64 side, .string elem, .int .i64 n] 31)).alloc (.cells #[.int .i64 0, .string ⟨#[]⟩, .int .i64 0, .int .i64 0, .string ⟨#[]⟩, .int .i64 0] 76)).drew := (below_alloc (hb0 _) _).drew
    go_wp2_with fail
    go_cut [10, 11] from 12 (fun s10 s11 wc => ∃ ba : Nat, s10 = .int .i64 er ∧ s11 = .pointer (some ⟨ba, 0, none⟩) ∧ Hid (Below w.heap.size w wc ∧ wc.heap[ba]? = some (.cells #[.int .i64 at1.ty, .string at1.key, .int .i64 at1.side, .int .i64 at1.who, .string at1.elem, .int .i64 at1.n] 76 (0, 0))))
    case first =>
      go_region_law (first | (go_simp; go_at_call 108; (first | refine (HCH.out _ hw1).mono ?_ | refine (HCH.out _ hw2).mono ?_); rintro e w2 ⟨rfl, hb2⟩; (first | (with_reducible refine cps (al6o hb2) ?_; rintro ⟨e0, e1, e2, e3, e4, e5, ef⟩) | skip)) | fail)
      all_goals go_wp2
      all_goals go_meet
      all_goals (case rel => first | with_reducible exact ⟨_, rfl, rfl, hid_of (chA hw1 hb2)⟩ | with_reducible exact ⟨_, rfl, rfl, hid_of (chB hb2)⟩ | with_reducible exact ⟨_, rfl, rfl, hid_of (chA hw2 hb2)⟩)
    case rest =>
      obtain ⟨ba, rfl, rfl, hq⟩ := hcut
      have HB3 : Hid (Below w.heap.size w wc) := hq.out.1
      obtain ⟨a0, a1, a2, a3, a4, a5⟩ := six_cells hq.out.2
      clear hq HCH hw1 hw2 e3 c3 c3'
      generalize wc = w3 at *
      by_cases h0 : er = 0
      · subst h0
        have HX2 := hid_of (HAT2.out rfl)
        clear HAT2
        go_wp2
        go_region
        all_goals go_wp2
        all_goals refine bodyPost_ret (v := .tuple #[.pointer (some ⟨K.R, i * 14, none⟩), .slice (some ⟨w3.heap.size, 0, none⟩) 1 1, .int .i64 0]) (by simp [results, Tryz.results61, go_sem]) rfl ⟨(below_alloc HB3.out _).drew, ?_⟩
        all_goals exact ⟨i, rfl, hi, w3.heap.size, HB3.out.size, rfl, by rw [← HX2.out]; exact heap_alloc_new w3 _⟩
      · go_wp2
        refine bodyPost_ret (v := .tuple #[.pointer none, .slice none 0 0, .int .i64 er]) (by simp [results, Tryz.results61, go_sem]) rfl ⟨HB3.out, .inl ⟨h0, rfl⟩⟩
end Go.Proofs.YtahdlejgjcjeoabGreatDoor
