/- Walk of the program's Thin: what is nothing new to another state is taken out. -/
import Derived.Test.YtahdlejgjcjeoaaGreatDoorP16
import Derived.Test.YtahdlejgjcjeoaaGreatDoorP08
import Derived.Test.YtahdlejgjcjeoaaGreatDoorP17
namespace Go.Proofs.YtahdlejgjcjeoaaGreatDoor
open Go.RowKit

structure Holds2 (M : Sl → Option Gr) (l : List At) : Prop where
  only : ∀ s g, M s = some g → ∃ a ∈ l, slot a = s ∧ grade a = g
  top : ∀ a ∈ l, ∃ g, M (slot a) = some g ∧ gcmp (grade a) g ≤ 0

theorem holds_none : Holds2 (fun _ => none) [] := ⟨fun s g h => (by cases h), fun a h => (by cases h)⟩
theorem Holds2.add {M : Sl → Option Gr} {l : List At} (h : Holds2 M l) (a : At) : Holds2 (addA M a) (l ++ [a]) where
  only s g hs := by
    unfold addA upd at hs
    split at hs
    · rename_i he
      obtain rfl := (scmp_zero _ _).1 he
      cases hs
      split
      · exact ⟨a, by simp, rfl, rfl⟩
      · rename_i g0 hM
        split
        · exact ⟨a, by simp, rfl, rfl⟩
        · obtain ⟨b, hb, h1, h2⟩ := h.only _ _ hM
          exact ⟨b, by simp [hb], h1, h2⟩
    · obtain ⟨b, hb, h1, h2⟩ := h.only _ _ hs
      exact ⟨b, by simp [hb], h1, h2⟩
  top b hb := by
    rw [List.mem_append, List.mem_singleton] at hb
    unfold addA upd
    by_cases he : slot b = slot a
    · rw [if_pos ((scmp_zero _ _).2 he)]
      refine ⟨_, rfl, ?_⟩
      rcases hb with hb | rfl
      · obtain ⟨g, hg, hle⟩ := h.top b hb
        rw [he] at hg
        rw [hg]
        dsimp only
        split
        · rename_i hlt; exact gcmp_tp.trans _ _ _ hle (by omega)
        · exact hle
      · split
        · rw [gcmp_tp.refl]; omega
        · rename_i g0 _
          split
          · rw [gcmp_tp.refl]; omega
          · have := gcmp_tp.anti (grade b) g0; omega
    · rw [if_neg (fun e => he ((scmp_zero _ _).1 e))]
      rcases hb with hb | rfl
      · exact h.top b hb
      · exact absurd rfl he
theorem addTo_append (M : Sl → Option Gr) (l r : List At) : addTo M (l ++ r) = addTo (addTo M l) r := by simp [addTo]
theorem Holds2.addTo {M : Sl → Option Gr} {l : List At} (h : Holds2 M l) : ∀ r : List At, Holds2 (addTo M r) (l ++ r) := by
  intro r
  induction r generalizing M l with
  | nil => simpa [Go.Proofs.YtahdlejgjcjeoaaGreatDoor.addTo] using h
  | cons a r ih =>
    have := ih (h.add a)
    rw [List.append_assoc] at this
    exact this
theorem holds_list (l : List At) : Holds2 (addTo (fun _ => none) l) l := by simpa using holds_none.addTo l

theorem Holds2.mayMap {M : Sl → Option Gr} {l : List At} (h : Holds2 M l) (hl : ∀ a ∈ l, mayB a = true) : MayMap M := by
  intro s g hs
  obtain ⟨a, ha, h1, h2⟩ := h.only s g hs
  exact ⟨a, hl a ha, h1, h2⟩

theorem Holds2.told {M : Sl → Option Gr} {l out : List At} (h : Holds2 M l) (hl : ∀ a ∈ l, mayB a = true) (ht : TellOf M out) : IsTold l out where
  sorted := ht.sorted
  great x hx := by
    obtain ⟨hmx, hMx⟩ := (ht.mem x).1 hx
    obtain ⟨a, ha, h1, h2⟩ := h.only _ _ hMx
    have hax : a = x := by rw [← unite_eq a (hl a ha), ← unite_eq x hmx, h1, h2]
    refine ⟨hax ▸ ha, fun y hy hp => ?_⟩
    obtain ⟨g, hg, hle⟩ := h.top y hy
    rw [plc_slot hp, hMx] at hg
    rw [grd_eq y x (plc_ty hp), Option.some.inj hg]
    exact hle
  all y hy := by
    obtain ⟨g, hg, _⟩ := h.top y hy
    obtain ⟨a, ha, h1, h2⟩ := h.only _ _ hg
    refine ⟨a, (ht.mem a).2 ⟨hl a ha, by rw [h1, h2]; exact hg⟩, ?_⟩
    rw [plc_eq, scmp_zero, h1]

end Go.Proofs.YtahdlejgjcjeoaaGreatDoor

namespace Go.Proofs.YtahdlejgjcjeoaaGreatDoor
open Go.RowKit

/-- A state without what another has as well. -/
def thinM (M O : Sl → Option Gr) (s : Sl) : Option Gr :=
  match M s, O s with
  | some g, some h => if gcmp g h ≤ 0 then none else some g
  | some g, none => some g
  | none, _ => none
theorem thinM_some {M O : Sl → Option Gr} {s : Sl} {g : Gr} (h : thinM M O s = some g) : M s = some g ∧ ∀ k, O s = some k → 0 < gcmp g k := by
  unfold thinM at h
  split at h
  · rename_i g' k' hM hO
    split at h
    · cases h
    · rename_i hn
      cases h
      exact ⟨hM, fun k hk => by rw [hO] at hk; cases hk; omega⟩
  · rename_i g' hM hO
    cases h
    exact ⟨hM, fun k hk => by rw [hO] at hk; cases hk⟩
  · cases h
theorem thinM_mk {M O : Sl → Option Gr} {s : Sl} {g : Gr} (h : M s = some g) (k : ∀ k, O s = some k → 0 < gcmp g k) : thinM M O s = some g := by
  unfold thinM
  rw [h]
  cases hO : O s with
  | none => rfl
  | some k' => 
    have := k k' hO
    simp only
    rw [if_neg (by omega)]

theorem thin_may {M O : Sl → Option Gr} (h : MayMap M) : MayMap (thinM M O) := fun s g hs => h s g (thinM_some hs).1

theorem Holds2.news {M O : Sl → Option Gr} {l m out : List At} (h : Holds2 M l) (k : Holds2 O m) (hl : ∀ a ∈ l, mayB a = true) (ht : TellOf (thinM M O) out) : IsNews l m out where
  sorted := ht.sorted
  mem x := by
    rw [ht.mem]
    constructor
    · rintro ⟨hmx, hx⟩
      obtain ⟨hMx, hOx⟩ := thinM_some hx
      obtain ⟨a, ha, h1, h2⟩ := h.only _ _ hMx
      have hax : a = x := by rw [← unite_eq a (hl a ha), ← unite_eq x hmx, h1, h2]
      refine ⟨hax ▸ ha, fun y hy hp => ?_, fun y hy hp => ?_⟩
      · obtain ⟨g, hg, hle⟩ := h.top y hy
        rw [plc_slot hp, hMx] at hg
        rw [grd_eq y x (plc_ty hp), Option.some.inj hg]
        exact hle
      · obtain ⟨g, hg, hle⟩ := k.top y hy
        rw [← plc_slot hp] at hg
        have h3 := hOx g hg
        rw [grd_eq x y (plc_ty hp)]
        have h4 := gcmp_tp.anti (grade x) g
        have h5 := gcmp_tp.le_lt hle (z := grade x) (by omega)
        have h6 := gcmp_tp.anti (grade y) (grade x)
        omega
    · rintro ⟨h1, h2, h3⟩
      refine ⟨hl x h1, thinM_mk ?_ ?_⟩
      · obtain ⟨g, hg, hle⟩ := h.top x h1
        obtain ⟨b, hb, e1, rfl⟩ := h.only _ _ hg
        have hp : plc b x = 0 := by rw [plc_eq, scmp_zero, e1]
        have h4 := h2 b hb hp
        rw [grd_eq b x (plc_ty hp)] at h4
        have h5 := gcmp_tp.anti (grade x) (grade b)
        rw [hg, (gcmp_zero (grade x) (grade b)).1 (by omega)]
      · intro g hg
        obtain ⟨y, hy, e1, rfl⟩ := k.only _ _ hg
        have hp : plc x y = 0 := by rw [plc_eq, scmp_zero, e1]
        have := h3 y hy hp
        rwa [grd_eq x y (plc_ty hp)] at this

end Go.Proofs.YtahdlejgjcjeoaaGreatDoor

namespace Go.Proofs.YtahdlejgjcjeoaaGreatDoor
open Go.RowKit Go.Maps

def delM (M : Sl → Option Gr) (s : Sl) : Sl → Option Gr := fun t => if scmp t s = 0 then none else M t

theorem del_stMap {w' : World} {b n : Nat} {D : DataW Unit} {M : Sl → Option Gr} {s : Sl} (hs : s.ok)
    (h2 : ∀ t, t.ok → M t = none → Maps.has D t.lit = false) (h3 : ∀ t g, M t = some g → t.ok ∧ Maps.has D t.lit = true ∧ ∀ z, D.atKey t.lit z = g.dat)
    (h1 : w'.ownsMap Tryz.prog 172 grElem b n (D.del s.lit)) : StMap w' b n (delM M s) := by
  refine ⟨_, h1, fun t ht hn => ?_, fun t g' hg' => ?_⟩
  · unfold delM at hn
    by_cases he : scmp t s = 0
    · obtain rfl := (scmp_zero t s).1 he
      exact Maps.has_del_same
    · rw [if_neg he] at hn
      have hl : t.lit ≠ s.lit := fun e => he ((scmp_zero t s).2 (Sl.lit_inj ht hs e))
      rw [Maps.has_del_other hl]
      exact h2 t ht hn
  · unfold delM at hg'
    split at hg'
    · cases hg'
    · rename_i hne
      obtain ⟨ht, hh, ha⟩ := h3 t g' hg'
      have hl : t.lit ≠ s.lit := fun e => hne ((scmp_zero t s).2 (Sl.lit_inj ht hs e))
      exact ⟨ht, by rw [Maps.has_del_other hl]; exact hh, fun z => by rw [Maps.atKey_del_other hl]; exact ha z⟩

section
variable (w : World) {ops : Array Oper} {rest : List Oper} {o : Oper} {a : Act} {Q : Exit → Act → World → Prop}
theorem wpList_st_del (hg : o.guard = none) (m x : Operand) (t : TypeId) (hop : o.op = Op.call { callee := Callee.builtin Builtin.delete, args := #[m, x], argTypes := #[t, 172] }) (ht : Tryz.prog.underlying t = some (.map 172 174)) (b n : Nat) (M : Sl → Option Gr)
    (hd : o.dst = none) (hm : a.eval m = .map (some b)) (hown : StMap w b n M) (s : Sl) (hs : s.ok) (hx : a.eval x = s.val)
    (hK : ∀ w', StMap w' b n (delM M s) → w.grownBy w' (some b) → wpList Tryz.prog ops Q rest a w') :
    wpList Tryz.prog ops Q (o :: rest) a w := by
  obtain ⟨D, h1, h2, h3⟩ := hown
  refine wpList_delete_own w hg m x t 172 hop 174 slotKeyed ht grElem b n D hm h1 s.val s.lit hx (keyOf_slot s hs) ?_
  intro w' r1 r2
  rw [hd]
  exact hK w' (del_stMap hs h2 h3 r1) r2.grown
end

theorem grown_past {a b c : World} {p q : Nat} (h : a.grownBy b (some p)) (k : b.grownBy c (some q)) (hq : a.heap.size ≤ q) : a.grownBy c (some p) :=
  ⟨k.os.trans h.os, k.tape.trans h.tape, k.output.trans h.output, Nat.le_trans h.size k.size, fun i hi hne => (k.block i (Nat.lt_of_lt_of_le hi h.size) (fun e => by cases e; omega)).trans (h.block i hi hne)⟩

theorem StMap.alloc {w : World} {b n : Nat} {M : Sl → Option Gr} (h : StMap w b n M) (o : Obj) : StMap (w.alloc o) b n M := h.kept (World.grownBy_alloc _ _ none) (by simp)
theorem grown_alloc {a b : World} {row : Option Nat} (h : a.grownBy b row) (o : Obj) : a.grownBy (b.alloc o) row := grown_trans h (World.grownBy_alloc _ _ row)

/-- While the keys 'left' of the other are still to come. -/
def Thinned (M O N : Sl → Option Gr) (left : Lit → Bool) : Prop := ∀ s, N s = if left s.lit then M s else thinM M O s

theorem Thinned.start {M O : Sl → Option Gr} {left : Lit → Bool} (h : ∀ s g, O s = some g → left s.lit = true) : Thinned M O M left := by
  intro s
  split
  · rfl
  · rename_i hl
    unfold thinM
    cases hO : O s with
    | some g => exact absurd (h s g hO) hl
    | none => cases M s <;> rfl
theorem Thinned.done {M O N : Sl → Option Gr} {left : Lit → Bool} (h : Thinned M O N left) (hl : ∀ kl, left kl = false) : N = thinM M O := by
  funext s
  rw [h s, hl, if_neg (by simp)]
theorem Thinned.step {M O N N' : Sl → Option Gr} {left : Lit → Bool} (h : Thinned M O N left) {x : Sl} (hx : x.ok) (hok : ∀ s g, M s = some g → s.ok)
    (h1 : N' x = thinM M O x) (h2 : ∀ s, s ≠ x → N' s = N s) : Thinned M O N' (fun z => left z && !z.sameKey x.lit) := by
  intro s
  by_cases e : s = x
  · subst e
    simp [lit_same, h1]
  · rw [h2 s e, h s]
    by_cases el : s.lit = x.lit
    · have hn : M s = none := by
        cases hM : M s with
        | none => rfl
        | some g => exact absurd (Sl.lit_inj (hok s g hM) hx el) e
      have ht : thinM M O s = none := by unfold thinM; rw [hn]
      rw [hn, ht]
      simp
    · simp [Maps.sameKey_ne el]

theorem compareGrades_exp (g h : Gr) (w : World) :
    Calls Tryz.prog 192 #[.agg #[.int .i64 g.n, .int .i64 g.who, .string g.elem], .agg #[.int .i64 h.n, .int .i64 h.who, .string h.elem]] w fun e w' => e = .returned (.int .i64 (gcmp g h)) ∧ Below w.heap.size w w' := compareGrades_any g h w

theorem thinM_drop {M O : Sl → Option Gr} {s : Sl} {g h : Gr} (hM : M s = some g) (hO : O s = some h) (hle : gcmp g h ≤ 0) : thinM M O s = none := by
  unfold thinM; rw [hM, hO]; simp only; rw [if_pos hle]
theorem thinM_keep {M O : Sl → Option Gr} {s : Sl} {g h : Gr} (hM : M s = some g) (hO : O s = some h) (hle : ¬ gcmp g h ≤ 0) : thinM M O s = some g := by
  unfold thinM; rw [hM, hO]; simp only; rw [if_neg hle]

set_option maxRecDepth 100000 in
set_option maxHeartbeats 2000000 in
theorem thin_any (b c n n' : Nat) (M O : Sl → Option Gr) (w : World) (hm : StMap w b n M) (ho : StMap w c n' O) (hbc : b ≠ c) :
    Calls Tryz.prog 209 #[.map (some b), .map (some c)] w fun e w' => e = .returned (.tuple #[]) ∧ StMap w' b n (thinM M O) ∧ w.grownBy w' (some b) := by
  have hlb := hm.lt
  have HM : Hid (StMap w b n M) := hm
  have HOK : Hid (∀ s g, M s = some g → s.ok) := by
    obtain ⟨_, _, _, h3⟩ := hm
    exact fun s g h => (h3 s g h).1
  obtain ⟨D, hown, h2, h3⟩ := ho
  have H2 : Hid (∀ s : Sl, s.ok → O s = none → Maps.has D s.lit = false) := h2
  have H3 : Hid (∀ s g, O s = some g → s.ok ∧ Maps.has D s.lit = true ∧ ∀ z, D.atKey s.lit z = g.dat) := h3
  clear h2 h3 hm
  have hlc := hown.lt
  go_enter Tryz.func209, Tryz.ntmps209
  go_wp2_with (at_range; refine wpList_range_own _ rfl _ 122 rfl 172 174 slotKeyed Tryz.underlying122 grElem c n' D rfl hown ?_; intro w0 hrg0 hg0 hs0)
  go_frame
  have hg0' : w.grownBy w0 (some b) := ⟨hg0.os, hg0.tape, hg0.output, hg0.size, fun i hi _ => hg0.block i hi (by simp)⟩
  have HM0 : Hid (StMap w0 b n M) := HM.out.kept hg0 (by simp)
  clear HM
  go_loopw [4] (fun _ wr => ∃ (left : Lit → Bool) (cnt : Nat) (N : Sl → Option Gr), wr.ranges Tryz.prog 172 grElem c w.heap.size n' D left cnt ∧ Hid (StMap wr b n N) ∧ Hid (Thinned M O N left) ∧ w.grownBy wr (some b)) (fun _ wr => wr.rangeLeft c w.heap.size)
  case atStart => exact ⟨_, _, M, hrg0, HM0, Thinned.start (fun s g h => (H3.out s g h).2.1), hg0'⟩
  case round =>
    obtain ⟨left, cnt, N, hrg, hst, hth, hgw⟩ := hrel
    go_wp2_with (at_next; refine wpList_next_ranges _ rfl _ rfl 172 slotKeyed grElem (fun s : Sl => .agg #[.int .i64 s.ty, .string s.key, .int .i64 s.side, .int .i64 s.who, .string s.elem]) (fun g : Gr => .agg #[.int .i64 g.n, .int .i64 g.who, .string g.elem]) slot_key_inv (fun v y hv => by obtain ⟨g, rfl, _⟩ := grElem_inv hv; exact ⟨g, rfl⟩) c w.heap.size n' D left cnt rfl hrg ?_ ?_)
    · intro _ hl0
      have HST : Hid (StMap wr b n (thinM M O)) := by rw [← hth.out.done hl0]; exact hst.out
      clear hl0 hst hth hrg
      go_wp2
      go_end0
      exact ⟨rfl, HST, hgw⟩
    · intro x g kl yd yp w2 cnt2 hkey hlk hv hat hrg2 hlt hg2 hs2 hen
      obtain ⟨hxok, rfl⟩ := slot_ok_of_key x kl hkey
      have hOx : O x = some g := by
        cases hO : O x with
        | none =>
          have hh := H2.out x hxok hO
          rw [Maps.has_true_of_atKey hat] at hh
          cases hh
        | some g0 =>
          have := (H3.out x g0 hO).2.2 .nil
          rw [hat] at this
          have hcc : grElem g.val = some (g.dat, []) := grElem_mk g
          have hv' : grElem g.val = some (yd, yp) := hv
          rw [hcc] at hv'
          simp only [Option.some.injEq, Prod.mk.injEq] at hv'
          rw [Gr.dat_inj (hv'.1.trans this)]
      have hNx : N x = M x := by rw [hth.out x, hlk, if_pos rfl]
      have HSTEP : Hid (∀ N', N' x = thinM M O x → (∀ s, s ≠ x → N' s = N s) → Thinned M O N' (fun z => left z && !z.sameKey x.lit)) := fun N' h1 h2 => hth.out.step hxok HOK.out h1 h2
      have hsz2 : wr.heap.size ≤ w2.heap.size := by omega
      have HL : Hid (wr.rangeLeft c w.heap.size = cnt) := hrg.left_eq
      have hst2 := hst.out.kept hg2 (by simp; omega)
      have hgw2 : w.grownBy w2 (some b) := grown_past hgw hg2 (Nat.le_refl _)
      have hrl := hrg2.lt
      clear hkey hat hv hs2 hlk hg2 hrg hst hth hgw
      generalize x.lit = kl at *
      cases hM : M x with
      | none =>
        have hgot : got N x = ⟨0, 0, ByteArray.empty⟩ := by unfold got; rw [hNx, hM]; rfl
        have hsome : (N x).isSome = false := by rw [hNx, hM]; rfl
        have HT : Hid (Thinned M O N (fun z => left z && !z.sameKey kl)) := HSTEP.out N (by rw [hNx, hM]; unfold thinM; rw [hM]) (fun _ _ => rfl)
        clear HSTEP hNx hM hOx
        go_wp2_with (at_lookup; refine wpList_st_look_exp _ rfl _ _ 122 rfl Tryz.underlying122 b n N rfl ((hst2.kept (World.grownBy_alloc _ _ none) (by simp)).kept (World.grownBy_alloc _ _ none) (by simp)) x hxok rfl ⟨0, 0, ByteArray.empty⟩ false hgot hsome ?_)
        have hrg3 := ((hrg2.alloc (.cells #[.int .i64 x.ty, .string x.key, .int .i64 x.side, .int .i64 x.who, .string x.elem] 172)).alloc (.cells #[.int .i64 g.n, .int .i64 g.who, .string g.elem] 174)).alloc (.cells #[.int .i64 0, .int .i64 0, .string ByteArray.empty] 174)
        exact ⟨⟨_, cnt2, N, hrg3, ((hst2.alloc _).alloc _).alloc _, HT, grown_alloc (grown_alloc (grown_alloc hgw2 _) _) _⟩, by rw [hrg3.left_eq, HL.out]; exact hlt⟩
      | some g0 =>
        have hgot : got N x = g0 := by unfold got; rw [hNx, hM]; rfl
        have hsome : (N x).isSome = true := by rw [hNx, hM]; rfl
        go_wp2_with (at_lookup; refine wpList_st_look_exp _ rfl _ _ 122 rfl Tryz.underlying122 b n N rfl ((hst2.alloc _).alloc _) x hxok rfl g0 true hgot hsome ?_)
        refine (compareGrades_exp g0 g _).mono ?_
        rintro e w3 ⟨rfl, hb3⟩
        have hst3 := (((hst2.alloc _).alloc _).alloc _).below hb3
        have hrg3 := (((hrg2.alloc _).alloc _).alloc _).kept (below_grown hb3 none) (by simp) (by simp)
        have hgw3 := grown_trans (grown_alloc (grown_alloc (grown_alloc hgw2 _) _) _) (below_grown hb3 (some b))
        obtain ⟨hc3, hf3⟩ := bcell hb3
        have hz3 : w2.heap.size + 1 + 1 < w3.heap.size := by have := hb3.size; simp at this; omega
        clear hb3 hst2 hrg2 hgw2 hen
        by_cases hle : gcmp g0 g ≤ 0
        · have HT : Hid (Thinned M O (delM N x) (fun z => left z && !z.sameKey kl)) := HSTEP.out _ (by rw [thinM_drop hM hOx hle]; unfold delM; rw [if_pos ((scmp_zero x x).2 rfl)]) (fun s hs => by unfold delM; rw [if_neg (fun e => hs ((scmp_zero s x).1 e))])
          clear HSTEP hNx hM hOx hgot hsome
          generalize gcmp g0 g = q at *
          go_wp2_with (at_delete; refine wpList_st_del _ rfl _ _ 122 rfl Tryz.underlying122 b n N rfl rfl hst3 x hxok rfl ?_; intro w4 hst4 hg4)
          have hrg4 := hrg3.kept hg4 (by simp; omega) (by simp; omega)
          go_roundw
          case rel => exact ⟨_, cnt2, _, hrg4, hst4, HT, grown_trans hgw3 hg4⟩
          case measure => rw [hrg4.left_eq, HL.out]; exact hlt
        · have HT : Hid (Thinned M O N (fun z => left z && !z.sameKey kl)) := HSTEP.out N (by rw [hNx, hM, thinM_keep hM hOx hle]) (fun _ _ => rfl)
          clear HSTEP hNx hM hOx hgot hsome
          generalize gcmp g0 g = q at *
          go_wp2
          exact ⟨⟨_, cnt2, N, hrg3, hst3, HT, hgw3⟩, by rw [hrg3.left_eq, HL.out]; exact hlt⟩
end Go.Proofs.YtahdlejgjcjeoaaGreatDoor
