/- The program's cluster: asked of a replica that is not there; of one that is up. -/
import Derived.Test.YtahdlejgjcjeoaaGreatDoorP09
import Derived.Test.YtahdlejgjcjeoaaGreatDoorP02
import Derived.Test.YtahdlejgjcjeoaaGreatDoorP03
import Derived.Deep.DeepCutAuto
import Derived.Shelf.SlSortCmp.NoneTotal
import Derived.Test.YtahdlejgjcjeoaaGreatDoorP07
import Derived.Test.YtahdlejgjcjeoaaGreatDoorP05
namespace Go.Proofs.YtahdlejgjcjeoaaGreatDoor
open Go.RowKit

def mxG (g h : Gr) : Gr := if gcmp g h < 0 then h else g

set_option maxHeartbeats 1000000 in
theorem greater_any (g h : Gr) (w : World) :
    Calls Tryz.prog 158 #[g.val, h.val] w fun e w' => e = .returned (mxG g h).val ∧ Below w.heap.size w w' := by
  have hcon := fun W => compareGrades_any g h W
  obtain ⟨n1, w1, e1⟩ := g
  obtain ⟨n2, w2, e2⟩ := h
  have HM : Hid (mxG ⟨n1, w1, e1⟩ ⟨n2, w2, e2⟩ = if gcmp ⟨n1, w1, e1⟩ ⟨n2, w2, e2⟩ < 0 then ⟨n2, w2, e2⟩ else ⟨n1, w1, e1⟩) := rfl
  generalize gcmp ⟨n1, w1, e1⟩ ⟨n2, w2, e2⟩ = c at *
  unfold Gr.val at *
  simp only at *
  go_enter Tryz.func158, Tryz.ntmps158
  go_wp2_with fail
  refine (hcon _).mono ?_
  rintro e w3 ⟨rfl, hb3⟩
  obtain ⟨hc3, hf3⟩ := bcell hb3
  have hz : w.heap.size + 1 + 1 < w3.heap.size := by have := hb3.size; simp at this; omega
  have hbw : Below w.heap.size w w3 := (below_alloc (below_alloc (below_alloc (Below.refl _ w) _) _) _).trans (hb3.mono (by simp; omega))
  clear hcon
  by_cases hlt : c < 0
  · go_wp2
    refine bodyPost_ret (v := Gr.val ⟨n2, w2, e2⟩) (by simp [results, Tryz.results158, go_sem, Gr.val, hc3]) rfl ⟨by rw [HM.out, if_pos hlt]; rfl, ?_⟩
    refine Below.setCell (Below.setCell (Below.setCell hbw ?_ _) ?_ _) ?_ _ <;> (dsimp only; omega)
  · go_wp2
    refine bodyPost_ret (v := Gr.val ⟨n1, w1, e1⟩) (by simp [results, Tryz.results158, go_sem, Gr.val, hc3]) rfl ⟨by rw [HM.out, if_neg (by omega)]; rfl, ?_⟩
    refine Below.setCell (Below.setCell (Below.setCell hbw ?_ _) ?_ _) ?_ _ <;> (dsimp only; omega)

set_option maxHeartbeats 1000000 in
theorem unite_any (s : Sl) (g : Gr) (w : World) (h : RulesAt w) (h1 : 1 ≤ s.ty) (h5 : s.ty ≤ 5) :
    Calls Tryz.prog 103 #[s.val, g.val] w fun e w' => e = .returned (unite s g).val ∧ Below w.heap.size w w' := by
  obtain ⟨ty, key, side, who, elem⟩ := s
  obtain ⟨n, who', elem'⟩ := g
  simp only at h1 h5
  have HT : Hid (RulesAt w) := h
  clear h
  unfold Sl.val Gr.val
  simp only
  by_cases ht : ty = 5
  · subst ht
    go_enter Tryz.func103, Tryz.ntmps103
    go_wp2_with fail
    refine (isRegister_any 5 _ ?hrl (by omega) (by omega)).mono ?_
    case hrl => exact HT.out.below (B := w.heap.size) (by repeat (first | exact Below.refl _ _ | refine below_alloc ?_ _)) HT.out.1
    rintro e w1 ⟨rfl, rfl⟩
    go_wp2
    refine bodyPost_ret (v := At.val ⟨5, key, 0, who', elem', n⟩) (by simp [results, Tryz.results103, go_sem, At.val]) rfl ⟨by simp [unite], ?_⟩
    go_light
    exact below_alloc (below_alloc (below_alloc (Below.refl _ w) _) _) _
  · have hk : (ty == 5) = false := by simp [ht]
    go_enter Tryz.func103, Tryz.ntmps103
    go_wp2_with fail
    refine (isRegister_any ty _ ?hrl (by omega) (by omega)).mono ?_
    case hrl => exact HT.out.below (B := w.heap.size) (by repeat (first | exact Below.refl _ _ | refine below_alloc ?_ _)) HT.out.1
    rintro e w1 ⟨rfl, rfl⟩
    go_wp2
    refine bodyPost_ret (v := At.val ⟨ty, key, side, who, elem, n⟩) (by simp [results, Tryz.results103, go_sem, At.val]) rfl ⟨by simp [unite, ht], ?_⟩
    go_light
    exact below_alloc (below_alloc (below_alloc (Below.refl _ w) _) _) _

end Go.Proofs.YtahdlejgjcjeoaaGreatDoor

namespace Go.Proofs.YtahdlejgjcjeoaaGreatDoor
open Go.RowKit

set_option maxHeartbeats 1000000 in
theorem split_any (a : At) (w : World) (h : RulesAt w) (h1 : 1 ≤ a.ty) (h5 : a.ty ≤ 5) :
    Calls Tryz.prog 157 #[a.val] w fun e w' => e = .returned (.tuple #[(slot a).val, (grade a).val]) ∧ Below w.heap.size w w' := by
  obtain ⟨ty, key, side, who, elem, n⟩ := a
  simp only at h1 h5
  have HT : Hid (RulesAt w) := h
  clear h
  unfold At.val
  simp only
  by_cases ht : ty = 5
  · subst ht
    go_enter Tryz.func157, Tryz.ntmps157
    go_wp2_with fail
    refine (isRegister_any 5 _ ?hrl (by omega) (by omega)).mono ?_
    case hrl => exact HT.out.below (B := w.heap.size) (by repeat (first | exact Below.refl _ _ | refine below_alloc ?_ _)) HT.out.1
    rintro e w1 ⟨rfl, rfl⟩
    go_wp2
    go_region
    all_goals go_wp2
    refine bodyPost_ret (v := .tuple #[Sl.val ⟨5, key, 0, 0, ByteArray.empty⟩, Gr.val ⟨n, who, elem⟩]) (by simp [results, Tryz.results157, go_sem, Sl.val, Gr.val]; rfl) rfl ⟨by simp [slot, grade], ?_⟩
    go_light
    repeat (first | exact Below.refl _ _ | refine below_drewN ?_ _ | refine Below.drew ?_ | refine Below.setCell ?_ (by simp) _ | refine below_alloc ?_ _)
  · have hk : (ty == 5) = false := by simp [ht]
    go_enter Tryz.func157, Tryz.ntmps157
    go_wp2_with fail
    refine (isRegister_any ty _ ?hrl (by omega) (by omega)).mono ?_
    case hrl => exact HT.out.below (B := w.heap.size) (by repeat (first | exact Below.refl _ _ | refine below_alloc ?_ _)) HT.out.1
    rintro e w1 ⟨rfl, rfl⟩
    go_wp2
    go_region
    all_goals go_wp2
    refine bodyPost_ret (v := .tuple #[Sl.val ⟨ty, key, side, who, elem⟩, Gr.val ⟨n, 0, ByteArray.empty⟩]) (by simp [results, Tryz.results157, go_sem, Sl.val, Gr.val]; rfl) rfl ⟨by simp [slot, grade, ht], ?_⟩
    go_light
    repeat (first | exact Below.refl _ _ | refine below_drewN ?_ _ | refine Below.drew ?_ | refine Below.setCell ?_ (by simp) _ | refine below_alloc ?_ _)
end Go.Proofs.YtahdlejgjcjeoaaGreatDoor

namespace Go.Proofs.YtahdlejgjcjeoaaGreatDoor
open Go.RowKit

theorem cellsAt_grown {w w' : World} {row : Option Nat} (hg : w.grownBy w' row) {b o : Nat} {a : At} (hne : some b ≠ row) (h : cellsAt w b o a) : cellsAt w' b o a := by
  obtain ⟨c0, c1, c2, c3, c4, c5⟩ := h
  exact ⟨hg.cell c0 hne, hg.cell c1 hne, hg.cell c2 hne, hg.cell c3 hne, hg.cell c4 hne, hg.cell c5 hne⟩
theorem RowAt.grown {w w' : World} {row : Option Nat} (hg : w.grownBy w' row) {b off : Nat} {l : List At} (hne : some b ≠ row) (h : RowAt w b off l) : RowAt w' b off l :=
  fun k hk => cellsAt_grown hg hne (h k hk)
theorem ruleAt.grown {w w' : World} {row : Option Nat} (hg : w.grownBy w' row) (hne : some 0 ≠ row) {o : Nat} {a b c d e : Int} {r : Bool} (h : ruleAt w o a b c d e r) : ruleAt w' o a b c d e r := by
  obtain ⟨c0, c1, c2, c3, c4, c5⟩ := h
  exact ⟨hg.cell c0 hne, hg.cell c1 hne, hg.cell c2 hne, hg.cell c3 hne, hg.cell c4 hne, hg.cell c5 hne⟩
theorem RulesAt.grown {w w' : World} {row : Option Nat} (h : RulesAt w) (hg : w.grownBy w' row) (hne : some 0 ≠ row) : RulesAt w' := by
  obtain ⟨h1, r1, r2, r3, r4, r5⟩ := h
  exact ⟨Nat.lt_of_lt_of_le h1 hg.size, r1.grown hg hne, r2.grown hg hne, r3.grown hg hne, r4.grown hg hne, r5.grown hg hne⟩

theorem split_exp (a : At) (w : World) (h : RulesAt w) (h1 : 1 ≤ a.ty) (h5 : a.ty ≤ 5) :
    Calls Tryz.prog 157 #[a.val] w fun e w' => e = .returned (.tuple #[.agg #[.int .i64 (slot a).ty, .string (slot a).key, .int .i64 (slot a).side, .int .i64 (slot a).who, .string (slot a).elem], .agg #[.int .i64 (grade a).n, .int .i64 (grade a).who, .string (grade a).elem]]) ∧ Below w.heap.size w w' := split_any a w h h1 h5
theorem greater_exp (g h : Gr) (w : World) :
    Calls Tryz.prog 158 #[.agg #[.int .i64 g.n, .int .i64 g.who, .string g.elem], .agg #[.int .i64 h.n, .int .i64 h.who, .string h.elem]] w fun e w' => e = .returned (.agg #[.int .i64 (mxG g h).n, .int .i64 (mxG g h).who, .string (mxG g h).elem]) ∧ Below w.heap.size w w' := greater_any g h w

section
variable (w : World) {ops : Array Oper} {rest : List Oper} {o : Oper} {a : Act} {Q : Exit → Act → World → Prop}
theorem wpList_st_look_exp (hg : o.guard = none) (m x : Operand) (t : TypeId) (hop : o.op = Op.lookup t m x true) (ht : Tryz.prog.underlying t = some (.map 172 174)) (b n : Nat) (M : Sl → Option Gr)
    (hm : a.eval m = .map (some b)) (hown : StMap w b n M) (s : Sl) (hs : s.ok) (hx : a.eval x = s.val) (g : Gr) (c : Bool) (hgot : got M s = g) (hc : (M s).isSome = c)
    (hK : wpList Tryz.prog ops Q rest (a.put o.dst (.tuple #[.agg #[.int .i64 g.n, .int .i64 g.who, .string g.elem], .bool c])) w) :
    wpList Tryz.prog ops Q (o :: rest) a w := by
  subst hgot hc
  exact wpList_st_look w hg m x t hop ht b n M hm hown s hs hx hK
end

theorem StMap.setCell {w : World} {b n : Nat} {M : Sl → Option Gr} (h : StMap w b n M) {a : Addr} (ha : b ≠ a.block) (u : Value) : StMap (w.setCell a u) b n M := by
  obtain ⟨D, h1, h2⟩ := h
  exact ⟨D, h1.setCell ha u, h2⟩
theorem ty_of_may {a : At} (h : mayB a = true) : 1 ≤ a.ty ∧ a.ty ≤ 5 := by
  simp only [mayB, decide_eq_true_eq] at h
  omega

set_option maxRecDepth 100000 in
set_option maxHeartbeats 2000000 in
theorem add_any (v : Value) (l : List At) (b n : Nat) (M : Sl → Option Gr) (w : World) (hr : RulesAt w) (hm : StMap w b n M) (hv : SliceOf w v l) (hmay : ∀ a ∈ l, mayB a = true) (hlen : n + l.length ≤ 1099511627776) :
    Calls Tryz.prog 102 #[.map (some b), v] w fun e w' => e = .returned (.tuple #[]) ∧ StMap w' b (n + l.length) (addTo M l) ∧ w.grownBy w' (some b) := by
  obtain ⟨ad, cap, rfl, hcap, H⟩ := hv
  have HR : Hid (0 < l.length → ∃ b off, ad = some ⟨b, off, none⟩ ∧ b < w.heap.size ∧ RowAt w b off l) := H
  clear H
  have HS : Hid (∀ a ∈ l, mayB a = true) := hmay
  clear hmay
  have h0b : (some 0 : Option Nat) ≠ some b := fun e => hm.ne_cell hr.2.1.1 (by simpa using e)
  have HT : Hid (RulesAt w) := hr
  clear hr
  have HB0 : Hid ((some 0 : Option Nat) ≠ some b) := h0b
  clear h0b
  have HMW : Hid (StMap w b n M) := hm
  clear hm
  go_enter Tryz.func102, Tryz.ntmps102
  go_wp2
  go_loopw [12] (fun i wr => ∃ k : Nat, k ≤ l.length ∧ i = .int .i64 k ∧ Hid (StMap wr b (n + k) (addTo M (l.take k))) ∧ w.grownBy wr (some b)) (fun i _ => l.length - (intOf i).toNat)
  case atStart => exact ⟨0, Nat.zero_le _, rfl, by simpa [Hid, addTo] using HMW.out, below_grown (Below.refl _ _) _⟩
  case round =>
    obtain ⟨k, hk, rfl, hst, hgw⟩ := hrel
    by_cases hl : k < l.length
    · obtain ⟨bs, off, rfl, hb, hrow⟩ := HR.out (by omega)
      have hbs : (some bs : Option Nat) ≠ some b := fun e => HMW.out.ne_cell (hrow k hl).1 (by simpa using e)
      obtain ⟨c0, c1, c2, c3, c4, c5⟩ := (hrow.grown hgw hbs) k hl
      have hmk := HS.out (l[k]) (List.getElem_mem hl)
      have HTr : Hid (RulesAt wr) := HT.out.grown hgw HB0.out
      have hsucc := addTo_succ M l k hl
      clear hrow HR
      generalize hak : l[k] = a at *
      clear hak
      have hty := ty_of_may hmk
      have hok := slot_ok (fits_of_may hmk)
      have HSU : Hid (addTo M (l.take (k + 1)) = addA (addTo M (l.take k)) a) := hsucc
      clear hsucc hmk
      generalize addTo M (l.take k) = N at *
      have HN : Hid (addA N a = upd N (slot a) (match N (slot a) with | none => grade a | some g => if gcmp g (grade a) < 0 then grade a else g)) := rfl
      go_wp2_with fail
      refine (split_exp a _ ?hrl hty.1 hty.2).mono ?_
      case hrl => exact HTr.out.below ((Below.refl _ wr).alloc (Nat.le_refl _) _) HTr.out.1
      rintro e w1 ⟨rfl, hb1⟩
      have hbw1 : Below wr.heap.size wr w1 := (below_alloc (Below.refl _ wr) _).trans (hb1.mono (by simp))
      have hst1 := hst.out.below hbw1
      have hsz1 : wr.heap.size < w1.heap.size := by have := hb1.size; simp at this; omega
      clear hb1 hst c0 c1 c2 c3 c4 c5 hty
      generalize slot a = s at *
      generalize grade a = g at *
      cases hN : N s with
      | none =>
        have HU : Hid (addA N a = upd N s g) := by rw [Hid, HN.out, hN]
        have hgot : got N s = ⟨0, 0, ByteArray.empty⟩ := by unfold got; rw [hN]; rfl
        have hsome : (N s).isSome = false := by rw [hN]; rfl
        clear hN HN
        go_wp2_with (first | (at_lookup; refine wpList_st_look_exp _ rfl _ _ 122 rfl Tryz.underlying122 b (n + k) N rfl ((hst1.kept (World.grownBy_alloc _ _ none) (by simp)).kept (World.grownBy_alloc _ _ none) (by simp)) s hok rfl ⟨0, 0, ByteArray.empty⟩ false hgot hsome ?_) | (at_mapUpdate; refine wpList_st_put _ rfl _ _ _ 122 rfl Tryz.underlying122 b (n + k) N rfl (((hst1.kept (World.grownBy_alloc _ _ none) (by simp)).kept (World.grownBy_alloc _ _ none) (by simp)).kept (World.grownBy_alloc _ _ none) (by simp)) (by unfold maxLen; omega) s g hok rfl rfl ?_; intro w2 hst2 hg2))
        go_roundw
        case rel => exact ⟨k + 1, by omega, by go_num, by rw [Hid, HSU.out, HU.out]; exact hst2, grown_trans hgw (grown_trans (below_grown (below_alloc (below_alloc (below_alloc hbw1 _) _) _) _) hg2)⟩
        case measure => simp [intOf]; omega
      | some g0 =>
        have HU : Hid (addA N a = upd N s (mxG g0 g)) := by rw [Hid, HN.out, hN]; rfl
        have hgot : got N s = g0 := by unfold got; rw [hN]; rfl
        have hsome : (N s).isSome = true := by rw [hN]; rfl
        clear hN HN
        go_wp2_with (at_lookup; refine wpList_st_look_exp _ rfl _ _ 122 rfl Tryz.underlying122 b (n + k) N rfl ((hst1.kept (World.grownBy_alloc _ _ none) (by simp)).kept (World.grownBy_alloc _ _ none) (by simp)) s hok rfl g0 true hgot hsome ?_)
        refine (greater_exp g0 g _).mono ?_
        rintro e w3 ⟨rfl, hb3⟩
        have hbw3 : Below wr.heap.size wr w3 := (below_alloc (below_alloc (below_alloc hbw1 _) _) _).trans (hb3.mono (by simp; omega))
        have hst3 := (((hst1.kept (World.grownBy_alloc _ _ none) (by simp)).kept (World.grownBy_alloc _ _ none) (by simp)).kept (World.grownBy_alloc _ _ none) (by simp)).below hb3
        obtain ⟨hc3, hf3⟩ := bcell hb3
        have hz3 : w1.heap.size + 1 + 1 < w3.heap.size := by have := hb3.size; simp at this; omega
        have hlt1 := hst1.lt
        clear hb3 hst1
        generalize mxG g0 g = gm at *
        go_wp2_with (at_mapUpdate; refine wpList_st_put _ rfl _ _ _ 122 rfl Tryz.underlying122 b (n + k) N rfl (((hst3.setCell (by dsimp only; omega) _).setCell (by dsimp only; omega) _).setCell (by dsimp only; omega) _) (by unfold maxLen; omega) s gm hok rfl rfl ?_; intro w2 hst2 hg2)
        go_roundw
        case rel => exact ⟨k + 1, by omega, by go_num, by rw [Hid, HSU.out, HU.out]; exact hst2, grown_trans hgw (grown_trans (below_grown (Below.setCell (Below.setCell (Below.setCell hbw3 (by dsimp only; omega) _) (by dsimp only; omega) _) (by dsimp only; omega) _) _) hg2)⟩
        case measure => simp [intOf]; omega
    · have hkl : k = l.length := by omega
      subst hkl
      have hst' := hst.out
      rw [List.take_of_length_le (Nat.le_refl _)] at hst'
      have HST : Hid (StMap wr b (n + l.length) (addTo M l)) := hst'
      clear hst'
      go_wp2
      go_end0
      exact ⟨rfl, HST, hgw⟩
end Go.Proofs.YtahdlejgjcjeoaaGreatDoor

namespace Go.Proofs.YtahdlejgjcjeoaaGreatDoor
open Go.RowKit

theorem short_of_may {a : At} (h : mayB a = true) : short a := by
  simp only [mayB, decide_eq_true_eq] at h
  unfold short
  omega

theorem below_of_grown {w w1 w' : World} {b : Nat} (h : Below w.heap.size w w1) (hg : w1.grownBy w' (some b)) (hb : w.heap.size ≤ b) : Below w.heap.size w w' :=
  h.grown hg h.size (fun k hk => by cases hk; exact hb)

set_option maxRecDepth 100000 in
set_option maxHeartbeats 1000000 in
theorem of_yes (v : Value) (l : List At) (w : World) (hr : RulesAt w) (hv : SliceOf w v l) (hs : ∀ a ∈ l, short a) (hlen : l.length ≤ 1099511627776) (hall : l.all mayB = true) :
    Calls Tryz.prog 139 #[v] w fun e w' => ∃ b, e = .returned (.tuple #[.map (some b), .int .i64 0]) ∧ w.heap.size ≤ b ∧ StMap w' b l.length (addTo (fun _ => none) l) ∧ Below w.heap.size w w' := by
  have hcon := allMayBe_any v l w hr hv hs (by omega)
  have hmay : ∀ a ∈ l, mayB a = true := List.all_eq_true.1 hall
  rw [hall] at hcon
  have HR : Hid (RulesAt w) := hr
  have HV : Hid (SliceOf w v l) := hv
  have HS : Hid (∀ a ∈ l, mayB a = true) := hmay
  clear hr hv hs hmay hall
  have hmm := @run_makeMap Tryz.prog
  go_enter Tryz.func139, Tryz.ntmps139
  go_wp2_with fail
  refine hcon.mono ?_
  rintro e w1 ⟨rfl, hb1⟩
  clear hcon
  go_wp2_with fail
  have hb2 : Below w.heap.size w (w1.alloc (.map #[] 0)) := below_alloc hb1 _
  refine (add_any v l w1.heap.size 0 (fun _ => none) _ (HR.out.below hb2 HR.out.1) (stMap_made w1) (HV.out.below hb2) HS.out (by omega)).mono ?_
  rintro e w2 ⟨rfl, hst, hg⟩
  rw [Nat.zero_add] at hst
  have hb3 := below_of_grown hb2 hg hb1.size
  have HB : Hid (StMap w2 w1.heap.size l.length (addTo (fun _ => none) l)) := hst
  have hsz := hb1.size
  clear hst hg hb2
  go_wp2
  go_ret2
  exact ⟨_, rfl, hsz, HB, hb3⟩

set_option maxHeartbeats 1000000 in
theorem of_no (v : Value) (l : List At) (w : World) (hr : RulesAt w) (hv : SliceOf w v l) (hs : ∀ a ∈ l, short a) (hlen : l.length ≤ 1099511627776) (hall : l.all mayB = false) :
    Calls Tryz.prog 139 #[v] w fun e w' => e = .returned (.tuple #[.map none, .int .i64 1]) ∧ Below w.heap.size w w' := by
  have hcon := allMayBe_any v l w hr hv hs (by omega)
  rw [hall] at hcon
  clear hr hv hs hall
  go_enter Tryz.func139, Tryz.ntmps139
  go_wp2_with fail
  refine hcon.mono ?_
  rintro e w1 ⟨rfl, hb1⟩
  clear hcon
  go_wp2
  go_ret2
  exact ⟨rfl, hb1⟩
end Go.Proofs.YtahdlejgjcjeoaaGreatDoor

namespace Go.Proofs.YtahdlejgjcjeoaaGreatDoor
open Go.RowKit Go.Maps

/-- All that a state has are slots and grades of atoms that may be. -/
def MayMap (M : Sl → Option Gr) : Prop := ∀ s g, M s = some g → ∃ a, mayB a = true ∧ slot a = s ∧ grade a = g
/-- An atom of a state. -/
def InM (M : Sl → Option Gr) (a : At) : Prop := mayB a = true ∧ M (slot a) = some (grade a)

theorem int_cell_wf (d : Nat) (n : Int) (ls : List Lit) (h : Tryz.prog.keyLits (d + 1) 3 [.int .i64 n] = some ls) : (Lit.int .i64 n).wf = true := by
  unfold Program.keyLits at h
  simp only [Tryz.underlying3] at h
  split at h
  · rename_i hc; exact hc.2
  · cases h
theorem string_cell_le (d : Nat) (s : ByteArray) (ls : List Lit) (h : Tryz.prog.keyLits (d + 1) 9 [.string s] = some ls) : s.size ≤ maxLen := by
  unfold Program.keyLits at h
  simp only [Tryz.underlying9] at h
  split at h
  · assumption
  · cases h
theorem slot_ok_of_key (s : Sl) (kl : Lit) (h : keyOf Tryz.prog 172 s.val = some kl) : s.ok ∧ kl = s.lit := by
  have hok : s.ok := by
    unfold keyOf at h
    simp only [Tryz.underlying172, keyTypeSlot, Bool.true_and] at h
    split at h
    · obtain ⟨d, hd⟩ := typesSize
      rw [hd, Option.map_eq_some_iff] at h
      obtain ⟨ls, hls, _⟩ := h
      simp only [Sl.val, Value.cells] at hls
      unfold Program.keyLits at hls
      simp only [Tryz.underlying172, cellsSlot] at hls
      split at hls
      · simp only [List.mapM_cons, List.mapM_nil, Option.map_eq_some_iff, Option.bind_eq_bind, Option.bind_eq_some_iff, cellsInt, cellsString, List.drop_zero, List.take_succ_cons, List.take_zero, List.drop_succ_cons, Option.pure_def] at hls
        obtain ⟨xs, ⟨x0, k0, y0, ⟨x1, k1, y1, ⟨x2, k2, y2, ⟨x3, k3, y3, ⟨x4, k4, _⟩, _⟩, _⟩, _⟩, _⟩, _⟩ := hls
        exact ⟨int_cell_wf d _ _ k0, string_cell_le d _ _ k1, int_cell_wf d _ _ k2, int_cell_wf d _ _ k3, string_cell_le d _ _ k4⟩
      · cases hls
    · cases h
  exact ⟨hok, by have := keyOf_slot s hok; rw [h] at this; exact Option.some.inj this⟩

theorem lit_same (s : Sl) : s.lit.sameKey s.lit = true := by simp [Sl.lit, Lit.sameKey]

/-- What has been gathered while the keys 'left' are still to come. -/
structure Coll (M : Sl → Option Gr) (left : Lit → Bool) (C : List At) : Prop where
  apart : C.Pairwise (fun x y => plc x y ≠ 0)
  mem : ∀ a, a ∈ C ↔ InM M a ∧ left (slot a).lit = false

theorem plc_slot {a b : At} (h : plc a b = 0) : slot a = slot b := by rw [plc_eq, scmp_zero] at h; exact h

theorem Coll.step {M : Sl → Option Gr} {left : Lit → Bool} {C : List At} (h : Coll M left C) {a : At} (ha : InM M a) (hl : left (slot a).lit = true) (hok : ∀ s g, M s = some g → s.ok) :
    Coll M (fun z => left z && !z.sameKey (slot a).lit) (C ++ [a]) where
  apart := by
    rw [List.pairwise_append]
    refine ⟨h.apart, List.pairwise_singleton _ _, fun x hx y hy => ?_⟩
    rw [List.mem_singleton] at hy
    subst hy
    intro e
    have := ((h.mem x).1 hx).2
    rw [plc_slot e, hl] at this
    cases this
  mem b := by
    rw [List.mem_append, List.mem_singleton, h.mem b]
    constructor
    · rintro (⟨h1, h2⟩ | rfl)
      · exact ⟨h1, by rw [h2]; rfl⟩
      · exact ⟨ha, by rw [lit_same]; simp⟩
    · rintro ⟨h1, h2⟩
      by_cases e : slot b = slot a
      · right
        obtain ⟨hb1, hb2⟩ := h1
        obtain ⟨ha1, ha2⟩ := ha
        rw [e, ha2] at hb2
        rw [← unite_eq b hb1, ← unite_eq a ha1, e, Option.some.inj hb2]
      · left
        refine ⟨h1, ?_⟩
        have hne : (slot b).lit ≠ (slot a).lit := fun e' => e (Sl.lit_inj (hok _ _ h1.2) (hok _ _ ha.2) e')
        rw [Maps.sameKey_ne hne] at h2
        simpa using h2

/-- The sorted list of a state's atoms. -/
structure TellOf (M : Sl → Option Gr) (out : List At) : Prop where
  sorted : out.Pairwise (fun x y => plc x y < 0)
  mem : ∀ a, a ∈ out ↔ InM M a

theorem tell_of {M : Sl → Option Gr} {left : Lit → Bool} {C C' : List At} (h : Coll M left C) (hl : ∀ kl, left kl = false) (hp : C'.Perm C) (hs : C'.Pairwise (fun x y => 0 ≤ acmp y x)) : TellOf M C' where
  sorted := by
    have hap : C'.Pairwise (fun x y => plc x y ≠ 0) := (hp.pairwise_iff (fun {x y} hxy e => hxy (plc_symm e))).2 h.apart
    refine List.Pairwise.imp₂ (fun {x y} h1 h2 => ?_) hap hs
    have h3 : plc y x ≠ 0 := fun e => h1 (plc_symm e)
    rw [acmp_plc y x h3] at h2
    have := plc_tp.anti x y
    omega
  mem a := by
    rw [hp.mem_iff, h.mem a]
    exact ⟨fun h => h.1, fun h => ⟨h, hl _⟩⟩

end Go.Proofs.YtahdlejgjcjeoaaGreatDoor

namespace Go.Proofs.YtahdlejgjcjeoaaGreatDoor
open Go.RowKit Go.Maps

theorem owns_grown {w w' : World} {base r : Nat} {e : TypeId} {s n : Nat} {v : Value} {xs : List Value} (h : w.ownsRow base e s v n xs) (hg : w.grownBy w' (some r)) (hr : r < base) : w'.ownsRow base e s v n xs := by
  obtain ⟨h0, h⟩ := h
  refine ⟨h0, ?_⟩
  rcases h with h | ⟨g, cap, cur, hv, hgb, hh, k⟩
  · exact .inl h
  · exact .inr ⟨g, cap, cur, hv, hgb, by rw [hg.block g (Array.getElem?_eq_some_iff.1 hh).1 (fun e => by cases e; omega)]; exact hh, k⟩
theorem ne_own {w : World} {base : Nat} {e : TypeId} {s n : Nat} {v : Value} {xs : List Value} (h : w.ownsRow base e s v n xs) : ∀ q, q < base → some q ≠ v.ownBlock := by
  intro q hq e'
  have := owns_base h q e'.symm
  omega
theorem unite_exp (s : Sl) (g : Gr) (w : World) (h : RulesAt w) (h1 : 1 ≤ s.ty) (h5 : s.ty ≤ 5) :
    Calls Tryz.prog 103 #[.agg #[.int .i64 s.ty, .string s.key, .int .i64 s.side, .int .i64 s.who, .string s.elem], .agg #[.int .i64 g.n, .int .i64 g.who, .string g.elem]] w fun e w' => e = .returned (.agg #[.int .i64 (unite s g).ty, .string (unite s g).key, .int .i64 (unite s g).side, .int .i64 (unite s g).who, .string (unite s g).elem, .int .i64 (unite s g).n]) ∧ Below w.heap.size w w' := unite_any s g w h h1 h5

set_option maxRecDepth 100000 in
set_option maxHeartbeats 2000000 in
theorem tell_any (b n : Nat) (M : Sl → Option Gr) (w : World) (hr : RulesAt w) (hm : StMap w b n M) (hmm : MayMap M) (hn : n ≤ 8388608) :
    Calls Tryz.prog 55 #[.map (some b)] w fun e w' => ∃ v' out, e = .returned v' ∧ w'.ownsRow w.heap.size 77 6 v' out.length (flat out) ∧ Hid (TellOf M out) ∧ Below w.heap.size w w' := by
  obtain ⟨D, hown, h2, h3⟩ := hm
  have HR : Hid (RulesAt w) := hr
  have HMM : Hid (MayMap M) := hmm
  have H2 : Hid (∀ s : Sl, s.ok → M s = none → Maps.has D s.lit = false) := h2
  have H3 : Hid (∀ s g, M s = some g → s.ok ∧ Maps.has D s.lit = true ∧ ∀ z, D.atKey s.lit z = g.dat) := h3
  have hsz := hown.size_le
  clear hr hmm h2 h3
  obtain ⟨i0, hi, hz0, hz1, hz2⟩ := info_parts infoAtom
  have hbw := hown.lt
  go_enter Tryz.func55, Tryz.ntmps55
  go_wp2_with (at_range; refine wpList_range_own _ rfl _ 122 rfl 172 174 slotKeyed Tryz.underlying122 grElem b n D rfl hown ?_; intro w0 hrg0 hg0 hs0)
  go_frame
  have hb0 : Below w.heap.size w w0 := (Below.refl _ w).grown hg0 (Nat.le_refl _) (fun k hk => by cases hk)
  go_loopw [3, 4] (fun v _ wr => ∃ (left : Lit → Bool) (cnt : Nat) (C : List At), wr.ranges Tryz.prog 172 grElem b w.heap.size n D left cnt ∧ wr.ownsRow (w.heap.size + 1) 77 6 v C.length (flat C) ∧ Hid (Coll M left C) ∧ C.length + cnt ≤ n ∧ Below w.heap.size w wr) (fun _ _ wr => wr.rangeLeft b w.heap.size)
  case atStart =>
    refine ⟨Maps.has D, Maps.size D, [], hrg0, by simp [flat, World.ownsRow], ⟨.nil, fun a => ?_⟩, by simpa using hsz, hb0⟩
    constructor
    · intro h; cases h
    · rintro ⟨h1, h2⟩
      have := (H3.out _ _ h1.2).2.1
      rw [this] at h2; cases h2
  case round =>
    obtain ⟨left, cnt, C, hrg, hrow, hC, hcnt, hbr⟩ := hrel
    go_wp2_with (at_next; refine wpList_next_ranges _ rfl _ rfl 172 slotKeyed grElem (fun s : Sl => .agg #[.int .i64 s.ty, .string s.key, .int .i64 s.side, .int .i64 s.who, .string s.elem]) (fun g : Gr => .agg #[.int .i64 g.n, .int .i64 g.who, .string g.elem]) slot_key_inv (fun v y hv => by obtain ⟨g, rfl, _⟩ := grElem_inv hv; exact ⟨g, rfl⟩) b w.heap.size n D left cnt rfl hrg ?_ ?_)
    · intro _ hl0
      have HL0 : Hid (∀ kl, left kl = false) := hl0
      clear hl0 hi hz0 hz1 hz2
      rcases hrow.2 with ⟨hv, hC0⟩ | ⟨g, cap, cur, hv, hbase, hblk, h1, h2, h3, h4⟩
      · subst hv
        obtain rfl := List.length_eq_zero_iff.1 hC0
        have hsn := fun W => AnyF.slices_SortFunc_none (P := Tryz.prog) sortAtoms none 0 (.func (.func 105) #[] #[]) W
        go_wp2_with fail
        refine Calls.mono (show Calls Tryz.prog 104 _ _ _ from hsn _) ?_
        rintro e w5 ⟨rfl, rfl⟩
        clear hsn
        go_wp2
        go_ret
        exact ⟨_, [], rfl, by simp [flat, World.ownsRow], tell_of hC.out HL0.out (List.Perm.refl _) .nil, hbr⟩
      · subst hv
        have hso := sort_any (w.heap.size + 1) g cap C wr hrow (by omega)
        clear h4
        go_wp2_with fail
        refine hso.mono ?_
        rintro e w5 ⟨rfl, C', hperm, hsorted, hown5, hg5⟩
        have HTL : Hid (TellOf M C') := tell_of hC.out HL0.out hperm hsorted
        have hl5 : C.length = C'.length := hperm.length_eq.symm
        have hfin : w5.ownsRow w.heap.size 77 6 (.slice (some ⟨g, 0, none⟩) C.length cap) C'.length (flat C') := by rw [← hl5]; exact owns_mono hown5 (by omega)
        have hb5 : Below w.heap.size w w5 := hbr.grown hg5 hbr.size (fun k hk => by cases hk; omega)
        clear hso hperm hsorted hown5 hg5 hl5
        go_wp2
        go_ret
        exact ⟨_, C', rfl, hfin, HTL, hb5⟩
    · intro x c kl yd yp w2 cnt2 hkey hlk hv hat hrg2 hlt hg2 hs2 hen
      obtain ⟨hxok, rfl⟩ := slot_ok_of_key x kl hkey
      have hMx : M x = some c := by
        obtain ⟨g', hg', hz'⟩ := grElem_inv hv
        cases hM : M x with
        | none =>
          have hh := H2.out x hxok hM
          rw [Maps.has_true_of_atKey hat] at hh
          cases hh
        | some g0 =>
          have := (H3.out x g0 hM).2.2 .nil
          rw [hat] at this
          have hcc : grElem c.val = some (c.dat, []) := grElem_mk c
          have hv' : grElem c.val = some (yd, yp) := hv
          rw [hcc] at hv'
          simp only [Option.some.injEq, Prod.mk.injEq] at hv'
          rw [Gr.dat_inj (hv'.1.trans this)]
      obtain ⟨a, ha, rfl, rfl⟩ := HMM.out x c hMx
      have hu := unite_eq a ha
      have hty := ty_of_may ha
      rw [← slot_ty a] at hty
      have HC2 : Hid (Coll M (fun z => left z && !z.sameKey (slot a).lit) (C ++ [a])) := hC.out.step ⟨ha, hMx⟩ hlk (fun s g h => (H3.out s g h).1)
      have hft := flat_snoc C a
      have HF : Hid (flat (C ++ [a]) = flat C ++ enc a) := hft
      have hsz2 : wr.heap.size ≤ w2.heap.size := by omega
      clear hkey hat hv hMx hs2 hft hxok hlk
      have hbr2 : Below w.heap.size w w2 := hbr.grown hg2 hbr.size (fun k hk => by cases hk; exact Nat.le_refl _)
      have hrow2 := owns_grown hrow hg2 (Nat.lt_succ_self _)
      have HL : Hid (wr.rangeLeft b w.heap.size = cnt) := hrg.left_eq
      clear hg2 hrow hrg
      have HUN : Hid (unite (slot a) (grade a) = a) := hu
      clear hu
      have hlink : ∀ W, RulesAt W → Calls Tryz.prog 103 #[.agg #[.int .i64 (slot a).ty, .string (slot a).key, .int .i64 (slot a).side, .int .i64 (slot a).who, .string (slot a).elem], .agg #[.int .i64 (grade a).n, .int .i64 (grade a).who, .string (grade a).elem]] W fun e w' => e = .returned (.agg #[.int .i64 a.ty, .string a.key, .int .i64 a.side, .int .i64 a.who, .string a.elem, .int .i64 a.n]) ∧ Below W.heap.size W w' := by
        intro W hW
        have := unite_exp (slot a) (grade a) W hW hty.1 hty.2
        rw [HUN.out] at this
        exact this
      clear hty ha HUN
      generalize (slot a).lit = kl at *
      generalize slot a = x at *
      generalize grade a = c at *
      have HLK : Hid (∀ W, RulesAt W → Calls Tryz.prog 103 #[.agg #[.int .i64 x.ty, .string x.key, .int .i64 x.side, .int .i64 x.who, .string x.elem], .agg #[.int .i64 c.n, .int .i64 c.who, .string c.elem]] W fun e w' => e = .returned (.agg #[.int .i64 a.ty, .string a.key, .int .i64 a.side, .int .i64 a.who, .string a.elem, .int .i64 a.n]) ∧ Below W.heap.size W w') := hlink
      clear hlink
      go_wp2_with fail
      refine (HLK.out _ ?hrl).mono ?_
      case hrl => exact HR.out.below (below_alloc (below_alloc hbr2 _) _) HR.out.1
      rintro e w3 ⟨rfl, hb3⟩
      have hbr3 : Below w.heap.size w w3 := (below_alloc (below_alloc hbr2 _) _).trans (hb3.mono (by simp; have := hbr2.size; omega))
      have hrow3 := owns_below ((hrow2.alloc _).alloc _) hb3
      have hrg3 := ((hrg2.alloc _).alloc _).kept (below_grown hb3 none) (by simp) (by simp)
      have hsz3 := hbr3.size
      have hsb3 : w.heap.size + 1 ≤ w3.heap.size := by have := hrg3.lt; omega
      clear hb3 hrow2 hrg2 hbr2 hen HLK
      go_wp2_with (at_builtin; refine wpList_append_lies _ rfl _ _ 56 rfl (w.heap.size + 1) 77 i0 _ 6 64 Tryz.underlying56 hi hz0 hz1 hz2 rfl (by decide) _ C.length _ rfl (hrow3.alloc _) ⟨w3.heap.size, 0, none⟩ 1 1 (enc a) rfl rfl (news_at w3 a _) (enc_oneCell a) (by decide) (by unfold maxLen; omega) (by omega) (by simp; omega) (w3.heap.size + 1) (by simp) ?_; intro g capn w4 hown4 hgrow4 hat4 hlt4)
      have hne := ne_own hrow3
      have hrg4 := (hrg3.alloc _).kept hgrow4 (hne b (by omega)) (hne w.heap.size (by omega))
      clear hne
      go_roundw
      case rel => exact ⟨_, cnt2, C ++ [a], hrg4, by rw [HF.out, List.length_append]; exact hown4, HC2, by simp; omega, (below_alloc hbr3 _).grown hgrow4 (by simp; omega) (fun q hq => by have := owns_base hrow3 q hq; omega)⟩
      case measure => rw [hrg4.left_eq, HL.out]; exact hlt
end Go.Proofs.YtahdlejgjcjeoaaGreatDoor

namespace Go.Proofs.YtahdlejgjcjeoaaGreatDoor
open Go.RowKit Go.MuLone

set_option maxRecDepth 100000 in
theorem prgState_no (x R n cap : Nat) (r : Int) (w : World) (h : ClAt w x R n cap) (hr : ¬ (0 ≤ r ∧ r < n)) :
    Calls Tryz.prog 20 #[.pointer (some ⟨x, 0, none⟩), .int .i64 r] w fun e w' => e = .returned (.tuple #[.slice none 0 0, .int .i64 5]) ∧ Below w.heap.size w w' := by
  have k41 := h.l41
  go_enter_defers Tryz.func20, Tryz.ntmps20
  go_wp2_with (go_at_call 50; refine (lock_free muLib ⟨x, 0, none⟩ _ h.c0 h.f0).mono ?_; rintro e w' ⟨rfl, rfl⟩)
  refine (upOne_no x r _ n cap _ k41 hr).mono ?_
  rintro e w1 ⟨rfl, rfl⟩
  go_wp2
  refine leaves_cons (f := 51) (args := #[.pointer (some ⟨x, 0, none⟩)]) (by simp) (by simp [go_sem]) ?_
  obtain ⟨u0, u1, u2⟩ := h.unlock (w2 := _) (Below.refl _ _)
  refine (unlock_deferred muLib ⟨x, 0, none⟩ .returning _ u0 u1).mono ?_
  rintro e u' w'' ⟨rfl, rfl, rfl⟩
  exact ⟨_, results_tmp2 rfl _ _ _, rfl, u2⟩
set_option maxRecDepth 100000 in
theorem prgLog_no (x R n cap : Nat) (r : Int) (w : World) (h : ClAt w x R n cap) (hr : ¬ (0 ≤ r ∧ r < n)) :
    Calls Tryz.prog 131 #[.pointer (some ⟨x, 0, none⟩), .int .i64 r] w fun e w' => e = .returned (.tuple #[.string ⟨#[]⟩, .int .i64 5]) ∧ Below w.heap.size w w' := by
  have k41 := h.l41
  go_enter_defers Tryz.func131, Tryz.ntmps131
  go_wp2_with (go_at_call 50; refine (lock_free muLib ⟨x, 0, none⟩ _ h.c0 h.f0).mono ?_; rintro e w' ⟨rfl, rfl⟩)
  refine (one_no x r _ n cap _ k41 hr).mono ?_
  rintro e w1 ⟨rfl, rfl⟩
  go_wp2
  refine leaves_cons (f := 51) (args := #[.pointer (some ⟨x, 0, none⟩)]) (by simp) (by simp [go_sem]) ?_
  obtain ⟨u0, u1, u2⟩ := h.unlock (w2 := _) (Below.refl _ _)
  refine (unlock_deferred muLib ⟨x, 0, none⟩ .returning _ u0 u1).mono ?_
  rintro e u' w'' ⟨rfl, rfl, rfl⟩
  exact ⟨_, results_tmp2 rfl _ _ _, rfl, u2⟩
set_option maxRecDepth 100000 in
theorem prgStart_no (x R n cap : Nat) (r : Int) (w : World) (h : ClAt w x R n cap) (hr : ¬ (0 ≤ r ∧ r < n)) :
    Calls Tryz.prog 19 #[.pointer (some ⟨x, 0, none⟩), .int .i64 r] w fun e w' => e = .returned (.int .i64 5) ∧ Below w.heap.size w w' := by
  have k41 := h.l41
  go_enter_defers Tryz.func19, Tryz.ntmps19
  go_wp2_with (go_at_call 50; refine (lock_free muLib ⟨x, 0, none⟩ _ h.c0 h.f0).mono ?_; rintro e w' ⟨rfl, rfl⟩)
  refine (one_no x r _ n cap _ k41 hr).mono ?_
  rintro e w1 ⟨rfl, rfl⟩
  go_wp2
  refine leaves_cons (f := 51) (args := #[.pointer (some ⟨x, 0, none⟩)]) (by simp) (by simp [go_sem]) ?_
  obtain ⟨u0, u1, u2⟩ := h.unlock (w2 := _) (Below.refl _ _)
  refine (unlock_deferred muLib ⟨x, 0, none⟩ .returning _ u0 u1).mono ?_
  rintro e u' w'' ⟨rfl, rfl, rfl⟩
  exact ⟨_, results_tmp rfl _ _ _, rfl, u2⟩
set_option maxRecDepth 100000 in
theorem prgStart_up (x R n cap i : Nat) (w : World) (h : ClAt w x R n cap) (hi : i < n) (hup : w.cell? ⟨R, i * 14, none⟩ = some (.bool true)) :
    Calls Tryz.prog 19 #[.pointer (some ⟨x, 0, none⟩), .int .i64 i] w fun e w' => e = .returned (.int .i64 9) ∧ Below w.heap.size w w' := by
  have k41 := h.l41
  have kup := h.lR hup
  go_enter_defers Tryz.func19, Tryz.ntmps19
  go_wp2_with (go_at_call 50; refine (lock_free muLib ⟨x, 0, none⟩ _ h.c0 h.f0).mono ?_; rintro e w' ⟨rfl, rfl⟩)
  refine (one_yes x R i n cap _ k41 hi).mono ?_
  rintro e w1 ⟨rfl, rfl⟩
  go_wp2
  refine leaves_cons (f := 51) (args := #[.pointer (some ⟨x, 0, none⟩)]) (by simp) (by simp [go_sem]) ?_
  obtain ⟨u0, u1, u2⟩ := h.unlock (w2 := _) (Below.refl _ _)
  refine (unlock_deferred muLib ⟨x, 0, none⟩ .returning _ u0 u1).mono ?_
  rintro e u' w'' ⟨rfl, rfl, rfl⟩
  exact ⟨_, results_tmp rfl _ _ _, rfl, u2⟩
set_option maxRecDepth 100000 in
theorem prgState_yes (x R n cap i b m : Nat) (M : Sl → Option Gr) (w : World) (h : ClAt w x R n cap) (hi : i < n) (hup : w.cell? ⟨R, i * 14, none⟩ = some (.bool true)) (hst : w.cell? ⟨R, i * 14 + 3, none⟩ = some (.map (some b))) (hr : RulesAt w) (hx : 0 < x) (hbx : b ≠ x) (hm : StMap w b m M) (hmm : MayMap M) (hn : m ≤ 8388608) :
    Calls Tryz.prog 20 #[.pointer (some ⟨x, 0, none⟩), .int .i64 i] w fun e w' => ∃ v out, e = .returned (.tuple #[v, .int .i64 0]) ∧ w'.ownsRow w.heap.size 77 6 v out.length (flat out) ∧ Hid (TellOf M out) ∧ Below w.heap.size w w' := by
  have k41 := h.l41
  have kup := h.lR hup
  have kst := h.lR hst
  have hg1 := grown_setCell w ⟨x, 0, none⟩ (.int .i32 1)
  have HM : Hid (StMap (w.setCell ⟨x, 0, none⟩ (.int .i32 1)) b m M) := hm.kept hg1 (fun e => hbx (by cases e; rfl))
  have HR : Hid (RulesAt (w.setCell ⟨x, 0, none⟩ (.int .i32 1))) := hr.below (B := 1) ⟨hg1.os, hg1.tape, hg1.output, hg1.size, fun k hk => hg1.block k (Nat.lt_of_lt_of_le hk hr.1) (fun e => by have : k = x := Option.some.inj e; omega)⟩ (by omega)
  clear hg1 hr hm
  go_enter_defers Tryz.func20, Tryz.ntmps20
  go_wp2_with (go_at_call 50; refine (lock_free muLib ⟨x, 0, none⟩ _ h.c0 h.f0).mono ?_; rintro e w' ⟨rfl, rfl⟩)
  refine (upOne_yes x R i n cap true _ k41 hi kup).mono ?_
  rintro e w1 ⟨rfl, rfl⟩
  go_wp2_with fail
  refine (tell_any b m M _ HR.out HM.out hmm hn).mono ?_
  rintro e w2 ⟨v, out, rfl, hown, htl, hb⟩
  rw [lock_size] at hown hb
  have hown' : Hid (w2.ownsRow w.heap.size 77 6 v out.length (flat out)) := hown
  obtain ⟨ad, cp, rfl⟩ := own_form hown
  clear hown
  go_wp2
  refine leaves_cons (f := 51) (args := #[.pointer (some ⟨x, 0, none⟩)]) (by simp) (by simp [go_sem]) ?_
  obtain ⟨u0, u1, u2⟩ := h.unlock (w2 := _) (hb)
  refine (unlock_deferred muLib ⟨x, 0, none⟩ .returning _ u0 u1).mono ?_
  rintro e u' w'' ⟨rfl, rfl, rfl⟩
  exact ⟨_, results_tmp2 rfl _ _ _, _, out, rfl, owns_put hown'.out h.lt, htl, u2⟩
end Go.Proofs.YtahdlejgjcjeoaaGreatDoor
