/- Walk of the program's elems. -/
import Derived.Test.YtfddkkkkehbecaaDoorElemsW
import Derived.Test.YtfddkkkkehbecaaDoorSortT
import Derived.Test.YtfddkkkkehbecaaDoorBelowL
namespace Go.Proofs.YtfddkkkkehbecaaDoor
open Go.RowKit Go.Maps

theorem ranges_below {P : Program} {k : TypeId} {R : Value → Option (DataW Unit × List MemPlace)} {w w' : World} {b r n : Nat} {D : DataW Unit} {left : Lit → Bool} {cnt : Nat} (h : w.ranges P k R b r n D left cnt) (hb : Below w.heap.size w w') : w'.ranges P k R b r n D left cnt := by
  have h1 := h.owns.lt
  have h2 := h.lt
  obtain ⟨es, clock, since, seen, c0, e1, e2, e3, e4, e5, e6⟩ := h
  exact ⟨es, clock, since, seen, c0, by rw [hb.block b h1]; exact e1, e2, e3, e4, by rw [hb.block r h2]; exact e5, e6⟩

set_option maxRecDepth 100000 in
set_option maxHeartbeats 2000000 in
theorem elems_any (b n : Nat) (M : Sl → Option Gr) (w : World) (hm : StMap w b n M) (hmm : MayMap M) (hn : n ≤ 8388608) :
    Calls Tryd.prog 54 #[.map (some b)] w fun e w' => ∃ (v' : Value) (C : List At) (ys : List ByteArray), e = .returned v' ∧ w'.ownsRow w.heap.size 9 1 v' ys.length (ys.map Value.string) ∧ Hid (Coll M (fun _ => false) C ∧ ys.Perm (elemsOf M C) ∧ ys.Pairwise (fun x y => ordS x y ≤ 0)) ∧ Below w.heap.size w w' := by
  obtain ⟨D, hown, h2, h3⟩ := hm
  have HMM : Hid (MayMap M) := hmm
  have H2 : Hid (∀ s : Sl, s.ok → M s = none → Maps.has D s.lit = false) := h2
  have H3 : Hid (∀ s g, M s = some g → s.ok ∧ Maps.has D s.lit = true ∧ ∀ z, D.atKey s.lit z = g.dat) := h3
  have hsz := hown.size_le
  clear hmm h2 h3
  obtain ⟨i0, hi, hz0, hz1, hz2⟩ := info_parts infoText
  have hbw := hown.lt
  go_enter Tryd.func54, Tryd.ntmps54
  go_wp2_with (at_range; refine wpList_range_own _ rfl _ 62 rfl 117 119 slotKeyed Tryd.underlying62 grElem b n D rfl hown ?_; intro w0 hrg0 hg0 hs0)
  go_frame
  have hb0 : Below w.heap.size w w0 := (Below.refl _ w).grown hg0 (Nat.le_refl _) (fun k hk => by cases hk)
  go_loopw [3, 4] (fun v _ wr => ∃ (left : Lit → Bool) (cnt : Nat) (C : List At), wr.ranges Tryd.prog 117 grElem b w.heap.size n D left cnt ∧ wr.ownsRow (w.heap.size + 1) 9 1 v (elemsOf M C).length ((elemsOf M C).map Value.string) ∧ Hid (Coll M left C) ∧ C.length + cnt ≤ n ∧ Below w.heap.size w wr) (fun _ _ wr => wr.rangeLeft b w.heap.size)
  case atStart =>
    refine ⟨Maps.has D, Maps.size D, [], hrg0, by simp [elemsOf, World.ownsRow], ⟨.nil, fun a => ?_⟩, by simpa using hsz, hb0⟩
    constructor
    · intro h; cases h
    · rintro ⟨h1, h2⟩
      have := (H3.out _ _ h1.2).2.1
      rw [this] at h2; cases h2
  case round =>
    obtain ⟨left, cnt, C, hrg, hrow, hC, hcnt, hbr⟩ := hrel
    have hel := elemsOf_length M C
    go_wp2_with (at_next; refine wpList_next_ranges _ rfl _ rfl 117 slotKeyed grElem (fun s : Sl => .agg #[.int .i64 s.ty, .string s.key, .int .i64 s.side, .int .i64 s.who, .string s.elem]) (fun g : Gr => .agg #[.int .i64 g.n, .int .i64 g.who, .string g.elem]) slot_key_inv (fun v y hv => by obtain ⟨g, rfl, _⟩ := grElem_inv hv; exact ⟨g, rfl⟩) b w.heap.size n D left cnt rfl hrg ?_ ?_)
    · intro _ hl0
      have HC0 : Hid (Coll M (fun _ => false) C) := by
        have e : left = fun _ => false := funext hl0
        rw [e] at hC
        exact hC
      clear hl0 hi hz0 hz1 hz2 hC hrg
      have HX : Hid (elemsOf M C = elemsOf M C) := rfl
      generalize hxs : elemsOf M C = xs at *
      have HXS : Hid (elemsOf M C = xs) := hxs
      clear hxs HX
      rcases hrow.2 with ⟨hv, hC0⟩ | ⟨g, cap, cur, hv, hbase, hblk, h1, h2, h3, h4⟩
      · subst hv
        obtain rfl := List.length_eq_zero_iff.1 hC0
        have hsn := fun W => Any.slices_Sort_string_none (P := Tryd.prog) sortTexts none 0 W
        go_wp2_with fail
        refine Calls.mono (show Calls Tryd.prog 99 _ _ _ from hsn _) ?_
        rintro e w5 ⟨rfl, rfl⟩
        clear hsn
        go_wp2
        go_ret
        exact ⟨_, C, [], rfl, by simp [World.ownsRow], ⟨HC0.out, by rw [HXS.out], .nil⟩, hbr⟩
      · subst hv
        have hso := sortT_any (w.heap.size + 1) g cap xs wr hrow (by omega)
        clear h4
        go_wp2_with fail
        refine hso.mono ?_
        rintro e w5 ⟨rfl, ys, hperm, hsorted, hown5, hg5⟩
        have HTL : Hid (Coll M (fun _ => false) C ∧ ys.Perm (elemsOf M C) ∧ ys.Pairwise (fun x y => ordS x y ≤ 0)) := ⟨HC0.out, by rw [HXS.out]; exact hperm, hsorted⟩
        have hl5 : xs.length = ys.length := hperm.length_eq.symm
        have hfin : w5.ownsRow w.heap.size 9 1 (.slice (some ⟨g, 0, none⟩) xs.length cap) ys.length (ys.map Value.string) := by rw [← hl5]; exact owns_mono hown5 (by omega)
        have hb5 : Below w.heap.size w w5 := hbr.grown hg5 hbr.size (fun k hk => by cases hk; omega)
        clear hso hperm hsorted hown5 hg5 hl5
        go_wp2
        go_ret
        exact ⟨_, C, ys, rfl, hfin, HTL, hb5⟩
    · intro x c kl yd yp w2 cnt2 hkey hlk hv hat hrg2 hlt hg2 hs2 hen
      obtain ⟨hxok, rfl⟩ := slot_ok_of_key x kl hkey
      have hMx : M x = some c := by
        obtain ⟨g', hg', hz'⟩ := grElem_inv hv
        cases hM : M x with
        | none =>
          have hh := H2.out x hxok hM
          rw [Maps.has_true_of_atKey hat] at hh
          cases hh
        | some g0 =>
          have := (H3.out x g0 hM).2.2 .nil
          rw [hat] at this
          have hcc : grElem c.val = some (c.dat, []) := grElem_mk c
          have hv' : grElem c.val = some (yd, yp) := hv
          rw [hcc] at hv'
          simp only [Option.some.injEq, Prod.mk.injEq] at hv'
          rw [Gr.dat_inj (hv'.1.trans this)]
      obtain ⟨a, ha, rfl, rfl⟩ := HMM.out x c hMx
      have HC2 : Hid (Coll M (fun z => left z && !z.sameKey (slot a).lit) (C ++ [a])) := hC.out.step ⟨ha, hMx⟩ hlk (fun s g h => (H3.out s g h).1)
      have HSN : Hid (elemsOf M (C ++ [a]) = if kept M a then elemsOf M C ++ [(slot a).elem] else elemsOf M C) := elemsOf_snoc M C a
      have hsz2 : wr.heap.size ≤ w2.heap.size := by omega
      have hst2 : StMap w2 b n M := ⟨D, hrg2.owns, H2.out, H3.out⟩
      have hir := fun W (h : StMap W b n M) => isRemoved_any b n M (slot a) W h hxok
      clear hkey hat hv hMx hs2 hlk
      have hbr2 : Below w.heap.size w w2 := hbr.grown hg2 hbr.size (fun k hk => by cases hk; exact Nat.le_refl _)
      have hrow2 := owns_grown hrow hg2 (Nat.lt_succ_self _)
      have HL : Hid (wr.rangeLeft b w.heap.size = cnt) := hrg.left_eq
      clear hg2 hrg ha hrow hC
      by_cases hsd : (slot a).side = 0
      · have hi2 := hir (w2.alloc (.cells #[.int .i64 (slot a).ty, .string (slot a).key, .int .i64 (slot a).side, .int .i64 (slot a).who, .string (slot a).elem] 117)) (hst2.alloc _)
        have hrg3 := hrg2.alloc (.cells #[.int .i64 (slot a).ty, .string (slot a).key, .int .i64 (slot a).side, .int .i64 (slot a).who, .string (slot a).elem] 117)
        have hrow3 := hrow2.alloc (.cells #[.int .i64 (slot a).ty, .string (slot a).key, .int .i64 (slot a).side, .int .i64 (slot a).who, .string (slot a).elem] 117)
        have hbr3 := below_alloc hbr2 (.cells #[.int .i64 (slot a).ty, .string (slot a).key, .int .i64 (slot a).side, .int .i64 (slot a).who, .string (slot a).elem] 117)
        have hz3 : w2.heap.size < (w2.alloc (.cells #[.int .i64 (slot a).ty, .string (slot a).key, .int .i64 (slot a).side, .int .i64 (slot a).who, .string (slot a).elem] 117)).heap.size := by simp
        clear hir hst2 hrg2 hrow2 hbr2
        rw [hsd] at hi2 hrg3 hrow3 hbr3 hz3
        cases hR : (M (slot a).one).isSome with
        | true =>
          have hk : kept M a = false := by unfold kept; rw [← Option.not_isSome, hR]; simp
          have HS2 : Hid (elemsOf M (C ++ [a]) = elemsOf M C) := by rw [Hid, HSN.out, hk]; rfl
          rw [hR] at hi2
          clear HSN hk hR
          generalize (slot a).lit = kl at *
          generalize slot a = x at *
          generalize grade a = c at *
          go_wp2_with fail
          generalize hW3 : w2.alloc (.cells #[.int .i64 x.ty, .string x.key, .int .i64 0, .int .i64 x.who, .string x.elem] 117) = w3 at *
          refine hi2.mono ?_
          rintro e w4 ⟨rfl, hb4⟩
          have hrg4 := ranges_below hrg3 hb4
          have hrow4 := owns_below hrow3 hb4
          have hbr4 : Below w.heap.size w w4 := hbr3.trans (hb4.mono hbr3.size)
          clear hi2 hrg3 hrow3 hW3
          go_wp2
          refine ⟨⟨_, cnt2, C ++ [a], hrg4, by rw [HS2.out]; exact hrow4, HC2, by simp; omega, hbr4⟩, ?_⟩
          rw [hrg4.left_eq, HL.out]
          exact hlt
        | false =>
          have hk : kept M a = true := by unfold kept; rw [← Option.not_isSome, hR]; simp [hsd]
          have HS2 : Hid (elemsOf M (C ++ [a]) = elemsOf M C ++ [(slot a).elem]) := by rw [Hid, HSN.out, hk]; rfl
          rw [hR] at hi2
          clear HSN hk hR
          generalize (slot a).lit = kl at *
          generalize slot a = x at *
          generalize grade a = c at *
          have hcx : (w2.alloc (.cells #[.int .i64 x.ty, .string x.key, .int .i64 0, .int .i64 x.who, .string x.elem] 117)).cell? ⟨w2.heap.size, 4, none⟩ = some (.string x.elem) := by simp
          go_wp2_with fail
          generalize hW3 : w2.alloc (.cells #[.int .i64 x.ty, .string x.key, .int .i64 0, .int .i64 x.who, .string x.elem] 117) = w3 at *
          refine hi2.mono ?_
          rintro e w4 ⟨rfl, hb4⟩
          have hrg4 := ranges_below hrg3 hb4
          have hrow4 := owns_below hrow3 hb4
          have hbr4 : Below w.heap.size w w4 := hbr3.trans (hb4.mono hbr3.size)
          have hcx4 := cell_keep hcx hb4
          have hz4 := hbr4.size
          clear hi2 hrg3 hrow3 hW3 hcx
          go_wp2_with (at_builtin; refine wpList_append_lies _ rfl _ _ 32 rfl (w.heap.size + 1) 9 i0 _ 1 16 Tryd.underlying32 hi hz0 hz1 hz2 rfl (by decide) _ (elemsOf M C).length _ rfl (hrow4.alloc _) ⟨w4.heap.size, 0, none⟩ 1 1 [.string x.elem] rfl rfl (World.news_of_block (heap_alloc_new w4 _)) (by simp [Value.oneCell']) (by decide) (by unfold maxLen; omega) (by omega) (by simp; omega) (w4.heap.size + 1) (by simp) ?_; intro g capn w5 hown5 hgrow5 hat5 hlt5)
          have hrg5 := (hrg4.alloc (.cells #[.string x.elem] 9)).kept hgrow5 (ne_own hrow4 _ (by omega)) (ne_own hrow4 _ (Nat.lt_succ_self _))
          have hbr5 : Below w.heap.size w w5 := (below_alloc hbr4 _).grown hgrow5 (by simp; omega) (fun q hq => by have := owns_base hrow4 q hq; omega)
          refine ⟨⟨_, cnt2, C ++ [a], hrg5, by rw [HS2.out, List.map_append, List.length_append]; exact hown5, HC2, by simp; omega, hbr5⟩, ?_⟩
          rw [hrg5.left_eq, HL.out]
          exact hlt
      · have hk : kept M a = false := by unfold kept; simp [hsd]
        have HS2 : Hid (elemsOf M (C ++ [a]) = elemsOf M C) := by rw [Hid, HSN.out, hk]; rfl
        clear HSN hk hir hst2
        generalize (slot a).lit = kl at *
        generalize slot a = x at *
        generalize grade a = c at *
        go_wp2
        refine ⟨⟨_, cnt2, C ++ [a], (hrg2.alloc _), by rw [HS2.out]; exact hrow2.alloc _, HC2, by simp; omega, below_alloc hbr2 _⟩, ?_⟩
        rw [(hrg2.alloc _).left_eq, HL.out]
        exact hlt
end Go.Proofs.YtfddkkkkehbecaaDoor
