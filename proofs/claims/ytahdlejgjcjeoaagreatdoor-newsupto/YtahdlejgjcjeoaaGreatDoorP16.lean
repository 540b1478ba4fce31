/- Walk of the program's Tell: a state told as a sorted list. -/
import Derived.Test.YtahdlejgjcjeoaaGreatDoorP15
import Derived.Test.YtahdlejgjcjeoaaGreatDoorP02
import Derived.Deep.DeepCutAuto
namespace Go.Proofs.YtahdlejgjcjeoaaGreatDoor
open Go.RowKit

theorem cellsAt_grown {w w' : World} {row : Option Nat} (hg : w.grownBy w' row) {b o : Nat} {a : At} (hne : some b ≠ row) (h : cellsAt w b o a) : cellsAt w' b o a := by
  obtain ⟨c0, c1, c2, c3, c4, c5⟩ := h
  exact ⟨hg.cell c0 hne, hg.cell c1 hne, hg.cell c2 hne, hg.cell c3 hne, hg.cell c4 hne, hg.cell c5 hne⟩
theorem RowAt.grown {w w' : World} {row : Option Nat} (hg : w.grownBy w' row) {b off : Nat} {l : List At} (hne : some b ≠ row) (h : RowAt w b off l) : RowAt w' b off l :=
  fun k hk => cellsAt_grown hg hne (h k hk)
theorem ruleAt.grown {w w' : World} {row : Option Nat} (hg : w.grownBy w' row) (hne : some 0 ≠ row) {o : Nat} {a b c d e : Int} {r : Bool} (h : ruleAt w o a b c d e r) : ruleAt w' o a b c d e r := by
  obtain ⟨c0, c1, c2, c3, c4, c5⟩ := h
  exact ⟨hg.cell c0 hne, hg.cell c1 hne, hg.cell c2 hne, hg.cell c3 hne, hg.cell c4 hne, hg.cell c5 hne⟩
theorem RulesAt.grown {w w' : World} {row : Option Nat} (h : RulesAt w) (hg : w.grownBy w' row) (hne : some 0 ≠ row) : RulesAt w' := by
  obtain ⟨h1, r1, r2, r3, r4, r5⟩ := h
  exact ⟨Nat.lt_of_lt_of_le h1 hg.size, r1.grown hg hne, r2.grown hg hne, r3.grown hg hne, r4.grown hg hne, r5.grown hg hne⟩

theorem split_exp (a : At) (w : World) (h : RulesAt w) (h1 : 1 ≤ a.ty) (h5 : a.ty ≤ 5) :
    Calls Tryz.prog 157 #[a.val] w fun e w' => e = .returned (.tuple #[.agg #[.int .i64 (slot a).ty, .string (slot a).key, .int .i64 (slot a).side, .int .i64 (slot a).who, .string (slot a).elem], .agg #[.int .i64 (grade a).n, .int .i64 (grade a).who, .string (grade a).elem]]) ∧ Below w.heap.size w w' := split_any a w h h1 h5
theorem greater_exp (g h : Gr) (w : World) :
    Calls Tryz.prog 158 #[.agg #[.int .i64 g.n, .int .i64 g.who, .string g.elem], .agg #[.int .i64 h.n, .int .i64 h.who, .string h.elem]] w fun e w' => e = .returned (.agg #[.int .i64 (mxG g h).n, .int .i64 (mxG g h).who, .string (mxG g h).elem]) ∧ Below w.heap.size w w' := greater_any g h w

section
variable (w : World) {ops : Array Oper} {rest : List Oper} {o : Oper} {a : Act} {Q : Exit → Act → World → Prop}
theorem wpList_st_look_exp (hg : o.guard = none) (m x : Operand) (t : TypeId) (hop : o.op = Op.lookup t m x true) (ht : Tryz.prog.underlying t = some (.map 172 174)) (b n : Nat) (M : Sl → Option Gr)
    (hm : a.eval m = .map (some b)) (hown : StMap w b n M) (s : Sl) (hs : s.ok) (hx : a.eval x = s.val) (g : Gr) (c : Bool) (hgot : got M s = g) (hc : (M s).isSome = c)
    (hK : wpList Tryz.prog ops Q rest (a.put o.dst (.tuple #[.agg #[.int .i64 g.n, .int .i64 g.who, .string g.elem], .bool c])) w) :
    wpList Tryz.prog ops Q (o :: rest) a w := by
  subst hgot hc
  exact wpList_st_look w hg m x t hop ht b n M hm hown s hs hx hK
end

theorem StMap.setCell {w : World} {b n : Nat} {M : Sl → Option Gr} (h : StMap w b n M) {a : Addr} (ha : b ≠ a.block) (u : Value) : StMap (w.setCell a u) b n M := by
  obtain ⟨D, h1, h2⟩ := h
  exact ⟨D, h1.setCell ha u, h2⟩
theorem ty_of_may {a : At} (h : mayB a = true) : 1 ≤ a.ty ∧ a.ty ≤ 5 := by
  simp only [mayB, decide_eq_true_eq] at h
  omega

set_option maxRecDepth 100000 in
set_option maxHeartbeats 2000000 in
theorem add_any (v : Value) (l : List At) (b n : Nat) (M : Sl → Option Gr) (w : World) (hr : RulesAt w) (hm : StMap w b n M) (hv : SliceOf w v l) (hmay : ∀ a ∈ l, mayB a = true) (hlen : n + l.length ≤ 1099511627776) :
    Calls Tryz.prog 102 #[.map (some b), v] w fun e w' => e = .returned (.tuple #[]) ∧ StMap w' b (n + l.length) (addTo M l) ∧ w.grownBy w' (some b) := by
  obtain ⟨ad, cap, rfl, hcap, H⟩ := hv
  have HR : Hid (0 < l.length → ∃ b off, ad = some ⟨b, off, none⟩ ∧ b < w.heap.size ∧ RowAt w b off l) := H
  clear H
  have HS : Hid (∀ a ∈ l, mayB a = true) := hmay
  clear hmay
  have h0b : (some 0 : Option Nat) ≠ some b := fun e => hm.ne_cell hr.2.1.1 (by simpa using e)
  have HT : Hid (RulesAt w) := hr
  clear hr
  have HB0 : Hid ((some 0 : Option Nat) ≠ some b) := h0b
  clear h0b
  have HMW : Hid (StMap w b n M) := hm
  clear hm
  go_enter Tryz.func102, Tryz.ntmps102
  go_wp2
  go_loopw [12] (fun i wr => ∃ k : Nat, k ≤ l.length ∧ i = .int .i64 k ∧ Hid (StMap wr b (n + k) (addTo M (l.take k))) ∧ w.grownBy wr (some b)) (fun i _ => l.length - (intOf i).toNat)
  case atStart => exact ⟨0, Nat.zero_le _, rfl, by simpa [Hid, addTo] using HMW.out, below_grown (Below.refl _ _) _⟩
  case round =>
    obtain ⟨k, hk, rfl, hst, hgw⟩ := hrel
    by_cases hl : k < l.length
    · obtain ⟨bs, off, rfl, hb, hrow⟩ := HR.out (by omega)
      have hbs : (some bs : Option Nat) ≠ some b := fun e => HMW.out.ne_cell (hrow k hl).1 (by simpa using e)
      obtain ⟨c0, c1, c2, c3, c4, c5⟩ := (hrow.grown hgw hbs) k hl
      have hmk := HS.out (l[k]) (List.getElem_mem hl)
      have HTr : Hid (RulesAt wr) := HT.out.grown hgw HB0.out
      have hsucc := addTo_succ M l k hl
      clear hrow HR
      generalize hak : l[k] = a at *
      clear hak
      have hty := ty_of_may hmk
      have hok := slot_ok (fits_of_may hmk)
      have HSU : Hid (addTo M (l.take (k + 1)) = addA (addTo M (l.take k)) a) := hsucc
      clear hsucc hmk
      generalize addTo M (l.take k) = N at *
      have HN : Hid (addA N a = upd N (slot a) (match N (slot a) with | none => grade a | some g => if gcmp g (grade a) < 0 then grade a else g)) := rfl
      go_wp2_with fail
      refine (split_exp a _ ?hrl hty.1 hty.2).mono ?_
      case hrl => exact HTr.out.below ((Below.refl _ wr).alloc (Nat.le_refl _) _) HTr.out.1
      rintro e w1 ⟨rfl, hb1⟩
      have hbw1 : Below wr.heap.size wr w1 := (below_alloc (Below.refl _ wr) _).trans (hb1.mono (by simp))
      have hst1 := hst.out.below hbw1
      have hsz1 : wr.heap.size < w1.heap.size := by have := hb1.size; simp at this; omega
      clear hb1 hst c0 c1 c2 c3 c4 c5 hty
      generalize slot a = s at *
      generalize grade a = g at *
      cases hN : N s with
      | none =>
        have HU : Hid (addA N a = upd N s g) := by rw [Hid, HN.out, hN]
        have hgot : got N s = ⟨0, 0, ByteArray.empty⟩ := by unfold got; rw [hN]; rfl
        have hsome : (N s).isSome = false := by rw [hN]; rfl
        clear hN HN
        go_wp2_with (first | (at_lookup; refine wpList_st_look_exp _ rfl _ _ 122 rfl Tryz.underlying122 b (n + k) N rfl ((hst1.kept (World.grownBy_alloc _ _ none) (by simp)).kept (World.grownBy_alloc _ _ none) (by simp)) s hok rfl ⟨0, 0, ByteArray.empty⟩ false hgot hsome ?_) | (at_mapUpdate; refine wpList_st_put _ rfl _ _ _ 122 rfl Tryz.underlying122 b (n + k) N rfl (((hst1.kept (World.grownBy_alloc _ _ none) (by simp)).kept (World.grownBy_alloc _ _ none) (by simp)).kept (World.grownBy_alloc _ _ none) (by simp)) (by unfold maxLen; omega) s g hok rfl rfl ?_; intro w2 hst2 hg2))
        go_roundw
        case rel => exact ⟨k + 1, by omega, by go_num, by rw [Hid, HSU.out, HU.out]; exact hst2, grown_trans hgw (grown_trans (below_grown (below_alloc (below_alloc (below_alloc hbw1 _) _) _) _) hg2)⟩
        case measure => simp [intOf]; omega
      | some g0 =>
        have HU : Hid (addA N a = upd N s (mxG g0 g)) := by rw [Hid, HN.out, hN]; rfl
        have hgot : got N s = g0 := by unfold got; rw [hN]; rfl
        have hsome : (N s).isSome = true := by rw [hN]; rfl
        clear hN HN
        go_wp2_with (at_lookup; refine wpList_st_look_exp _ rfl _ _ 122 rfl Tryz.underlying122 b (n + k) N rfl ((hst1.kept (World.grownBy_alloc _ _ none) (by simp)).kept (World.grownBy_alloc _ _ none) (by simp)) s hok rfl g0 true hgot hsome ?_)
        refine (greater_exp g0 g _).mono ?_
        rintro e w3 ⟨rfl, hb3⟩
        have hbw3 : Below wr.heap.size wr w3 := (below_alloc (below_alloc (below_alloc hbw1 _) _) _).trans (hb3.mono (by simp; omega))
        have hst3 := (((hst1.kept (World.grownBy_alloc _ _ none) (by simp)).kept (World.grownBy_alloc _ _ none) (by simp)).kept (World.grownBy_alloc _ _ none) (by simp)).below hb3
        obtain ⟨hc3, hf3⟩ := bcell hb3
        have hz3 : w1.heap.size + 1 + 1 < w3.heap.size := by have := hb3.size; simp at this; omega
        have hlt1 := hst1.lt
        clear hb3 hst1
        generalize mxG g0 g = gm at *
        go_wp2_with (at_mapUpdate; refine wpList_st_put _ rfl _ _ _ 122 rfl Tryz.underlying122 b (n + k) N rfl (((hst3.setCell (by dsimp only; omega) _).setCell (by dsimp only; omega) _).setCell (by dsimp only; omega) _) (by unfold maxLen; omega) s gm hok rfl rfl ?_; intro w2 hst2 hg2)
        go_roundw
        case rel => exact ⟨k + 1, by omega, by go_num, by rw [Hid, HSU.out, HU.out]; exact hst2, grown_trans hgw (grown_trans (below_grown (Below.setCell (Below.setCell (Below.setCell hbw3 (by dsimp only; omega) _) (by dsimp only; omega) _) (by dsimp only; omega) _) _) hg2)⟩
        case measure => simp [intOf]; omega
    · have hkl : k = l.length := by omega
      subst hkl
      have hst' := hst.out
      rw [List.take_of_length_le (Nat.le_refl _)] at hst'
      have HST : Hid (StMap wr b (n + l.length) (addTo M l)) := hst'
      clear hst'
      go_wp2
      go_end0
      exact ⟨rfl, HST, hgw⟩
end Go.Proofs.YtahdlejgjcjeoaaGreatDoor

namespace Go.Proofs.YtahdlejgjcjeoaaGreatDoor
open Go.RowKit

theorem short_of_may {a : At} (h : mayB a = true) : short a := by
  simp only [mayB, decide_eq_true_eq] at h
  unfold short
  omega

theorem below_of_grown {w w1 w' : World} {b : Nat} (h : Below w.heap.size w w1) (hg : w1.grownBy w' (some b)) (hb : w.heap.size ≤ b) : Below w.heap.size w w' :=
  h.grown hg h.size (fun k hk => by cases hk; exact hb)

set_option maxRecDepth 100000 in
set_option maxHeartbeats 1000000 in
theorem of_yes (v : Value) (l : List At) (w : World) (hr : RulesAt w) (hv : SliceOf w v l) (hs : ∀ a ∈ l, short a) (hlen : l.length ≤ 1099511627776) (hall : l.all mayB = true) :
    Calls Tryz.prog 139 #[v] w fun e w' => ∃ b, e = .returned (.tuple #[.map (some b), .int .i64 0]) ∧ w.heap.size ≤ b ∧ StMap w' b l.length (addTo (fun _ => none) l) ∧ Below w.heap.size w w' := by
  have hcon := allMayBe_any v l w hr hv hs (by omega)
  have hmay : ∀ a ∈ l, mayB a = true := List.all_eq_true.1 hall
  rw [hall] at hcon
  have HR : Hid (RulesAt w) := hr
  have HV : Hid (SliceOf w v l) := hv
  have HS : Hid (∀ a ∈ l, mayB a = true) := hmay
  clear hr hv hs hmay hall
  have hmm := @run_makeMap Tryz.prog
  go_enter Tryz.func139, Tryz.ntmps139
  go_wp2_with fail
  refine hcon.mono ?_
  rintro e w1 ⟨rfl, hb1⟩
  clear hcon
  go_wp2_with fail
  have hb2 : Below w.heap.size w (w1.alloc (.map #[] 0)) := below_alloc hb1 _
  refine (add_any v l w1.heap.size 0 (fun _ => none) _ (HR.out.below hb2 HR.out.1) (stMap_made w1) (HV.out.below hb2) HS.out (by omega)).mono ?_
  rintro e w2 ⟨rfl, hst, hg⟩
  rw [Nat.zero_add] at hst
  have hb3 := below_of_grown hb2 hg hb1.size
  have HB : Hid (StMap w2 w1.heap.size l.length (addTo (fun _ => none) l)) := hst
  have hsz := hb1.size
  clear hst hg hb2
  go_wp2
  go_ret2
  exact ⟨_, rfl, hsz, HB, hb3⟩

set_option maxHeartbeats 1000000 in
theorem of_no (v : Value) (l : List At) (w : World) (hr : RulesAt w) (hv : SliceOf w v l) (hs : ∀ a ∈ l, short a) (hlen : l.length ≤ 1099511627776) (hall : l.all mayB = false) :
    Calls Tryz.prog 139 #[v] w fun e w' => e = .returned (.tuple #[.map none, .int .i64 1]) ∧ Below w.heap.size w w' := by
  have hcon := allMayBe_any v l w hr hv hs (by omega)
  rw [hall] at hcon
  clear hr hv hs hall
  go_enter Tryz.func139, Tryz.ntmps139
  go_wp2_with fail
  refine hcon.mono ?_
  rintro e w1 ⟨rfl, hb1⟩
  clear hcon
  go_wp2
  go_ret2
  exact ⟨rfl, hb1⟩
end Go.Proofs.YtahdlejgjcjeoaaGreatDoor

namespace Go.Proofs.YtahdlejgjcjeoaaGreatDoor
open Go.RowKit Go.Maps

/-- All that a state has are slots and grades of atoms that may be. -/
def MayMap (M : Sl → Option Gr) : Prop := ∀ s g, M s = some g → ∃ a, mayB a = true ∧ slot a = s ∧ grade a = g
/-- An atom of a state. -/
def InM (M : Sl → Option Gr) (a : At) : Prop := mayB a = true ∧ M (slot a) = some (grade a)

theorem int_cell_wf (d : Nat) (n : Int) (ls : List Lit) (h : Tryz.prog.keyLits (d + 1) 3 [.int .i64 n] = some ls) : (Lit.int .i64 n).wf = true := by
  unfold Program.keyLits at h
  simp only [Tryz.underlying3] at h
  split at h
  · rename_i hc; exact hc.2
  · cases h
theorem string_cell_le (d : Nat) (s : ByteArray) (ls : List Lit) (h : Tryz.prog.keyLits (d + 1) 9 [.string s] = some ls) : s.size ≤ maxLen := by
  unfold Program.keyLits at h
  simp only [Tryz.underlying9] at h
  split at h
  · assumption
  · cases h
theorem slot_ok_of_key (s : Sl) (kl : Lit) (h : keyOf Tryz.prog 172 s.val = some kl) : s.ok ∧ kl = s.lit := by
  have hok : s.ok := by
    unfold keyOf at h
    simp only [Tryz.underlying172, keyTypeSlot, Bool.true_and] at h
    split at h
    · obtain ⟨d, hd⟩ := typesSize
      rw [hd, Option.map_eq_some_iff] at h
      obtain ⟨ls, hls, _⟩ := h
      simp only [Sl.val, Value.cells] at hls
      unfold Program.keyLits at hls
      simp only [Tryz.underlying172, cellsSlot] at hls
      split at hls
      · simp only [List.mapM_cons, List.mapM_nil, Option.map_eq_some_iff, Option.bind_eq_bind, Option.bind_eq_some_iff, cellsInt, cellsString, List.drop_zero, List.take_succ_cons, List.take_zero, List.drop_succ_cons, Option.pure_def] at hls
        obtain ⟨xs, ⟨x0, k0, y0, ⟨x1, k1, y1, ⟨x2, k2, y2, ⟨x3, k3, y3, ⟨x4, k4, _⟩, _⟩, _⟩, _⟩, _⟩, _⟩ := hls
        exact ⟨int_cell_wf d _ _ k0, string_cell_le d _ _ k1, int_cell_wf d _ _ k2, int_cell_wf d _ _ k3, string_cell_le d _ _ k4⟩
      · cases hls
    · cases h
  exact ⟨hok, by have := keyOf_slot s hok; rw [h] at this; exact Option.some.inj this⟩

theorem lit_same (s : Sl) : s.lit.sameKey s.lit = true := by simp [Sl.lit, Lit.sameKey]

/-- What has been gathered while the keys 'left' are still to come. -/
structure Coll (M : Sl → Option Gr) (left : Lit → Bool) (C : List At) : Prop where
  apart : C.Pairwise (fun x y => plc x y ≠ 0)
  mem : ∀ a, a ∈ C ↔ InM M a ∧ left (slot a).lit = false

theorem plc_slot {a b : At} (h : plc a b = 0) : slot a = slot b := by rw [plc_eq, scmp_zero] at h; exact h

theorem Coll.step {M : Sl → Option Gr} {left : Lit → Bool} {C : List At} (h : Coll M left C) {a : At} (ha : InM M a) (hl : left (slot a).lit = true) (hok : ∀ s g, M s = some g → s.ok) :
    Coll M (fun z => left z && !z.sameKey (slot a).lit) (C ++ [a]) where
  apart := by
    rw [List.pairwise_append]
    refine ⟨h.apart, List.pairwise_singleton _ _, fun x hx y hy => ?_⟩
    rw [List.mem_singleton] at hy
    subst hy
    intro e
    have := ((h.mem x).1 hx).2
    rw [plc_slot e, hl] at this
    cases this
  mem b := by
    rw [List.mem_append, List.mem_singleton, h.mem b]
    constructor
    · rintro (⟨h1, h2⟩ | rfl)
      · exact ⟨h1, by rw [h2]; rfl⟩
      · exact ⟨ha, by rw [lit_same]; simp⟩
    · rintro ⟨h1, h2⟩
      by_cases e : slot b = slot a
      · right
        obtain ⟨hb1, hb2⟩ := h1
        obtain ⟨ha1, ha2⟩ := ha
        rw [e, ha2] at hb2
        rw [← unite_eq b hb1, ← unite_eq a ha1, e, Option.some.inj hb2]
      · left
        refine ⟨h1, ?_⟩
        have hne : (slot b).lit ≠ (slot a).lit := fun e' => e (Sl.lit_inj (hok _ _ h1.2) (hok _ _ ha.2) e')
        rw [Maps.sameKey_ne hne] at h2
        simpa using h2

/-- The sorted list of a state's atoms. -/
structure TellOf (M : Sl → Option Gr) (out : List At) : Prop where
  sorted : out.Pairwise (fun x y => plc x y < 0)
  mem : ∀ a, a ∈ out ↔ InM M a

theorem tell_of {M : Sl → Option Gr} {left : Lit → Bool} {C C' : List At} (h : Coll M left C) (hl : ∀ kl, left kl = false) (hp : C'.Perm C) (hs : C'.Pairwise (fun x y => 0 ≤ acmp y x)) : TellOf M C' where
  sorted := by
    have hap : C'.Pairwise (fun x y => plc x y ≠ 0) := (hp.pairwise_iff (fun {x y} hxy e => hxy (plc_symm e))).2 h.apart
    refine List.Pairwise.imp₂ (fun {x y} h1 h2 => ?_) hap hs
    have h3 : plc y x ≠ 0 := fun e => h1 (plc_symm e)
    rw [acmp_plc y x h3] at h2
    have := plc_tp.anti x y
    omega
  mem a := by
    rw [hp.mem_iff, h.mem a]
    exact ⟨fun h => h.1, fun h => ⟨h, hl _⟩⟩

end Go.Proofs.YtahdlejgjcjeoaaGreatDoor
