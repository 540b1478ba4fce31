/- Walk of the program's Add: a list joined into a state. -/
import Derived.Test.YtahdlejgjcjeoaaDoorStC
import Derived.Test.YtahdlejgjcjeoaaDoorStSplit
namespace Go.Proofs.YtahdlejgjcjeoaaDoor
open Go.RowKit

theorem cellsAt_grown {w w' : World} {row : Option Nat} (hg : w.grownBy w' row) {b o : Nat} {a : At} (hne : some b ≠ row) (h : cellsAt w b o a) : cellsAt w' b o a := by
  obtain ⟨c0, c1, c2, c3, c4, c5⟩ := h
  exact ⟨hg.cell c0 hne, hg.cell c1 hne, hg.cell c2 hne, hg.cell c3 hne, hg.cell c4 hne, hg.cell c5 hne⟩
theorem RowAt.grown {w w' : World} {row : Option Nat} (hg : w.grownBy w' row) {b off : Nat} {l : List At} (hne : some b ≠ row) (h : RowAt w b off l) : RowAt w' b off l :=
  fun k hk => cellsAt_grown hg hne (h k hk)
theorem ruleAt.grown {w w' : World} {row : Option Nat} (hg : w.grownBy w' row) (hne : some 0 ≠ row) {o : Nat} {a b c d e : Int} {r : Bool} (h : ruleAt w o a b c d e r) : ruleAt w' o a b c d e r := by
  obtain ⟨c0, c1, c2, c3, c4, c5⟩ := h
  exact ⟨hg.cell c0 hne, hg.cell c1 hne, hg.cell c2 hne, hg.cell c3 hne, hg.cell c4 hne, hg.cell c5 hne⟩
theorem RulesAt.grown {w w' : World} {row : Option Nat} (h : RulesAt w) (hg : w.grownBy w' row) (hne : some 0 ≠ row) : RulesAt w' := by
  obtain ⟨h1, r1, r2, r3, r4, r5⟩ := h
  exact ⟨Nat.lt_of_lt_of_le h1 hg.size, r1.grown hg hne, r2.grown hg hne, r3.grown hg hne, r4.grown hg hne, r5.grown hg hne⟩

theorem split_exp (a : At) (w : World) (h : RulesAt w) (h1 : 1 ≤ a.ty) (h5 : a.ty ≤ 5) :
    Calls Tryd.prog 70 #[a.val] w fun e w' => e = .returned (.tuple #[.agg #[.int .i64 (slot a).ty, .string (slot a).key, .int .i64 (slot a).side, .int .i64 (slot a).who, .string (slot a).elem], .agg #[.int .i64 (grade a).n, .int .i64 (grade a).who, .string (grade a).elem]]) ∧ Below w.heap.size w w' := split_any a w h h1 h5
theorem greater_exp (g h : Gr) (w : World) :
    Calls Tryd.prog 71 #[.agg #[.int .i64 g.n, .int .i64 g.who, .string g.elem], .agg #[.int .i64 h.n, .int .i64 h.who, .string h.elem]] w fun e w' => e = .returned (.agg #[.int .i64 (mxG g h).n, .int .i64 (mxG g h).who, .string (mxG g h).elem]) ∧ Below w.heap.size w w' := greater_any g h w

section
variable (w : World) {ops : Array Oper} {rest : List Oper} {o : Oper} {a : Act} {Q : Exit → Act → World → Prop}
theorem wpList_st_look_exp (hg : o.guard = none) (m x : Operand) (t : TypeId) (hop : o.op = Op.lookup t m x true) (ht : Tryd.prog.underlying t = some (.map 117 119)) (b n : Nat) (M : Sl → Option Gr)
    (hm : a.eval m = .map (some b)) (hown : StMap w b n M) (s : Sl) (hs : s.ok) (hx : a.eval x = s.val) (g : Gr) (c : Bool) (hgot : got M s = g) (hc : (M s).isSome = c)
    (hK : wpList Tryd.prog ops Q rest (a.put o.dst (.tuple #[.agg #[.int .i64 g.n, .int .i64 g.who, .string g.elem], .bool c])) w) :
    wpList Tryd.prog ops Q (o :: rest) a w := by
  subst hgot hc
  exact wpList_st_look w hg m x t hop ht b n M hm hown s hs hx hK
end

theorem StMap.setCell {w : World} {b n : Nat} {M : Sl → Option Gr} (h : StMap w b n M) {a : Addr} (ha : b ≠ a.block) (u : Value) : StMap (w.setCell a u) b n M := by
  obtain ⟨D, h1, h2⟩ := h
  exact ⟨D, h1.setCell ha u, h2⟩
theorem ty_of_may {a : At} (h : mayB a = true) : 1 ≤ a.ty ∧ a.ty ≤ 5 := by
  simp only [mayB, decide_eq_true_eq] at h
  omega

set_option maxRecDepth 100000 in
set_option maxHeartbeats 2000000 in
theorem add_any (v : Value) (l : List At) (b n : Nat) (M : Sl → Option Gr) (w : World) (hr : RulesAt w) (hm : StMap w b n M) (hv : SliceOf w v l) (hmay : ∀ a ∈ l, mayB a = true) (hlen : n + l.length ≤ 1099511627776) :
    Calls Tryd.prog 40 #[.map (some b), v] w fun e w' => e = .returned (.tuple #[]) ∧ StMap w' b (n + l.length) (addTo M l) ∧ w.grownBy w' (some b) := by
  obtain ⟨ad, cap, rfl, hcap, H⟩ := hv
  have HR : Hid (0 < l.length → ∃ b off, ad = some ⟨b, off, none⟩ ∧ b < w.heap.size ∧ RowAt w b off l) := H
  clear H
  have HS : Hid (∀ a ∈ l, mayB a = true) := hmay
  clear hmay
  have h0b : (some 0 : Option Nat) ≠ some b := fun e => hm.ne_cell hr.2.1.1 (by simpa using e)
  have HT : Hid (RulesAt w) := hr
  clear hr
  have HB0 : Hid ((some 0 : Option Nat) ≠ some b) := h0b
  clear h0b
  have HMW : Hid (StMap w b n M) := hm
  clear hm
  go_enter Tryd.func40, Tryd.ntmps40
  go_wp2
  go_loopw [12] (fun i wr => ∃ k : Nat, k ≤ l.length ∧ i = .int .i64 k ∧ Hid (StMap wr b (n + k) (addTo M (l.take k))) ∧ w.grownBy wr (some b)) (fun i _ => l.length - (intOf i).toNat)
  case atStart => exact ⟨0, Nat.zero_le _, rfl, by simpa [Hid, addTo] using HMW.out, below_grown (Below.refl _ _) _⟩
  case round =>
    obtain ⟨k, hk, rfl, hst, hgw⟩ := hrel
    by_cases hl : k < l.length
    · obtain ⟨bs, off, rfl, hb, hrow⟩ := HR.out (by omega)
      have hbs : (some bs : Option Nat) ≠ some b := fun e => HMW.out.ne_cell (hrow k hl).1 (by simpa using e)
      obtain ⟨c0, c1, c2, c3, c4, c5⟩ := (hrow.grown hgw hbs) k hl
      have hmk := HS.out (l[k]) (List.getElem_mem hl)
      have HTr : Hid (RulesAt wr) := HT.out.grown hgw HB0.out
      have hsucc := addTo_succ M l k hl
      clear hrow HR
      generalize hak : l[k] = a at *
      clear hak
      have hty := ty_of_may hmk
      have hok := slot_ok (fits_of_may hmk)
      have HSU : Hid (addTo M (l.take (k + 1)) = addA (addTo M (l.take k)) a) := hsucc
      clear hsucc hmk
      generalize addTo M (l.take k) = N at *
      have HN : Hid (addA N a = upd N (slot a) (match N (slot a) with | none => grade a | some g => if gcmp g (grade a) < 0 then grade a else g)) := rfl
      go_wp2_with fail
      refine (split_exp a _ ?hrl hty.1 hty.2).mono ?_
      case hrl => exact HTr.out.below ((Below.refl _ wr).alloc (Nat.le_refl _) _) HTr.out.1
      rintro e w1 ⟨rfl, hb1⟩
      have hbw1 : Below wr.heap.size wr w1 := (below_alloc (Below.refl _ wr) _).trans (hb1.mono (by simp))
      have hst1 := hst.out.below hbw1
      have hsz1 : wr.heap.size < w1.heap.size := by have := hb1.size; simp at this; omega
      clear hb1 hst c0 c1 c2 c3 c4 c5 hty
      generalize slot a = s at *
      generalize grade a = g at *
      cases hN : N s with
      | none =>
        have HU : Hid (addA N a = upd N s g) := by rw [Hid, HN.out, hN]
        have hgot : got N s = ⟨0, 0, ByteArray.empty⟩ := by unfold got; rw [hN]; rfl
        have hsome : (N s).isSome = false := by rw [hN]; rfl
        clear hN HN
        go_wp2_with (first | (at_lookup; refine wpList_st_look_exp _ rfl _ _ 62 rfl Tryd.underlying62 b (n + k) N rfl ((hst1.kept (World.grownBy_alloc _ _ none) (by simp)).kept (World.grownBy_alloc _ _ none) (by simp)) s hok rfl ⟨0, 0, ByteArray.empty⟩ false hgot hsome ?_) | (at_mapUpdate; refine wpList_st_put _ rfl _ _ _ 62 rfl Tryd.underlying62 b (n + k) N rfl (((hst1.kept (World.grownBy_alloc _ _ none) (by simp)).kept (World.grownBy_alloc _ _ none) (by simp)).kept (World.grownBy_alloc _ _ none) (by simp)) (by unfold maxLen; omega) s g hok rfl rfl ?_; intro w2 hst2 hg2))
        go_roundw
        case rel => exact ⟨k + 1, by omega, by go_num, by rw [Hid, HSU.out, HU.out]; exact hst2, grown_trans hgw (grown_trans (below_grown (below_alloc (below_alloc (below_alloc hbw1 _) _) _) _) hg2)⟩
        case measure => simp [intOf]; omega
      | some g0 =>
        have HU : Hid (addA N a = upd N s (mxG g0 g)) := by rw [Hid, HN.out, hN]; rfl
        have hgot : got N s = g0 := by unfold got; rw [hN]; rfl
        have hsome : (N s).isSome = true := by rw [hN]; rfl
        clear hN HN
        go_wp2_with (at_lookup; refine wpList_st_look_exp _ rfl _ _ 62 rfl Tryd.underlying62 b (n + k) N rfl ((hst1.kept (World.grownBy_alloc _ _ none) (by simp)).kept (World.grownBy_alloc _ _ none) (by simp)) s hok rfl g0 true hgot hsome ?_)
        refine (greater_exp g0 g _).mono ?_
        rintro e w3 ⟨rfl, hb3⟩
        have hbw3 : Below wr.heap.size wr w3 := (below_alloc (below_alloc (below_alloc hbw1 _) _) _).trans (hb3.mono (by simp; omega))
        have hst3 := (((hst1.kept (World.grownBy_alloc _ _ none) (by simp)).kept (World.grownBy_alloc _ _ none) (by simp)).kept (World.grownBy_alloc _ _ none) (by simp)).below hb3
        obtain ⟨hc3, hf3⟩ := bcell hb3
        have hz3 : w1.heap.size + 1 + 1 < w3.heap.size := by have := hb3.size; simp at this; omega
        have hlt1 := hst1.lt
        clear hb3 hst1
        generalize mxG g0 g = gm at *
        go_wp2_with (at_mapUpdate; refine wpList_st_put _ rfl _ _ _ 62 rfl Tryd.underlying62 b (n + k) N rfl (((hst3.setCell (by dsimp only; omega) _).setCell (by dsimp only; omega) _).setCell (by dsimp only; omega) _) (by unfold maxLen; omega) s gm hok rfl rfl ?_; intro w2 hst2 hg2)
        go_roundw
        case rel => exact ⟨k + 1, by omega, by go_num, by rw [Hid, HSU.out, HU.out]; exact hst2, grown_trans hgw (grown_trans (below_grown (Below.setCell (Below.setCell (Below.setCell hbw3 (by dsimp only; omega) _) (by dsimp only; omega) _) (by dsimp only; omega) _) _) hg2)⟩
        case measure => simp [intOf]; omega
    · have hkl : k = l.length := by omega
      subst hkl
      have hst' := hst.out
      rw [List.take_of_length_le (Nat.le_refl _)] at hst'
      have HST : Hid (StMap wr b (n + l.length) (addTo M l)) := hst'
      clear hst'
      go_wp2
      go_end0
      exact ⟨rfl, HST, hgw⟩
end Go.Proofs.YtahdlejgjcjeoaaDoor
