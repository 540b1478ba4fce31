/- Walk of the laws' ownAtoms. -/
import Derived.Test.YtahdlejgjcjeoaaGreatDoorP23
import Derived.Test.YtahdlejgjcjeoaaGreatDoorP24
import Derived.Test.YtahdlejgjcjeoaaGreatDoorP26
import Derived.Test.YtahdlejgjcjeoaaGreatDoorP05
namespace Go.Proofs.YtahdlejgjcjeoaaGreatDoor
open Go.RowKit Go.Maps

theorem ranges_below {P : Program} {k : TypeId} {R : Value → Option (DataW Unit × List MemPlace)} {w w' : World} {b r n : Nat} {D : DataW Unit} {left : Lit → Bool} {cnt : Nat} (h : w.ranges P k R b r n D left cnt) (hb : Below w.heap.size w w') : w'.ranges P k R b r n D left cnt := by
  have h1 := h.owns.lt
  have h2 := h.lt
  obtain ⟨es, clock, since, seen, c0, e1, e2, e3, e4, e5, e6⟩ := h
  exact ⟨es, clock, since, seen, c0, by rw [hb.block b h1]; exact e1, e2, e3, e4, by rw [hb.block r h2]; exact e5, e6⟩

set_option maxRecDepth 100000 in
set_option maxHeartbeats 2000000 in
theorem elems_any (b n : Nat) (M : Sl → Option Gr) (w : World) (hm : StMap w b n M) (hmm : MayMap M) (hn : n ≤ 8388608) :
    Calls Tryz.prog 143 #[.map (some b)] w fun e w' => ∃ (v' : Value) (C : List At) (ys : List ByteArray), e = .returned v' ∧ w'.ownsRow w.heap.size 9 1 v' ys.length (ys.map Value.string) ∧ Hid (Coll M (fun _ => false) C ∧ ys.Perm (elemsOf M C) ∧ ys.Pairwise (fun x y => ordS x y ≤ 0)) ∧ Below w.heap.size w w' := by
  obtain ⟨D, hown, h2, h3⟩ := hm
  have HMM : Hid (MayMap M) := hmm
  have H2 : Hid (∀ s : Sl, s.ok → M s = none → Maps.has D s.lit = false) := h2
  have H3 : Hid (∀ s g, M s = some g → s.ok ∧ Maps.has D s.lit = true ∧ ∀ z, D.atKey s.lit z = g.dat) := h3
  have hsz := hown.size_le
  clear hmm h2 h3
  obtain ⟨i0, hi, hz0, hz1, hz2⟩ := info_parts infoText
  have hbw := hown.lt
  go_enter Tryz.func143, Tryz.ntmps143
  go_wp2_with (at_range; refine wpList_range_own _ rfl _ 122 rfl 172 174 slotKeyed Tryz.underlying122 grElem b n D rfl hown ?_; intro w0 hrg0 hg0 hs0)
  go_frame
  have hb0 : Below w.heap.size w w0 := (Below.refl _ w).grown hg0 (Nat.le_refl _) (fun k hk => by cases hk)
  go_loopw [3, 4] (fun v _ wr => ∃ (left : Lit → Bool) (cnt : Nat) (C : List At), wr.ranges Tryz.prog 172 grElem b w.heap.size n D left cnt ∧ wr.ownsRow (w.heap.size + 1) 9 1 v (elemsOf M C).length ((elemsOf M C).map Value.string) ∧ Hid (Coll M left C) ∧ C.length + cnt ≤ n ∧ Below w.heap.size w wr) (fun _ _ wr => wr.rangeLeft b w.heap.size)
  case atStart =>
    refine ⟨Maps.has D, Maps.size D, [], hrg0, by simp [elemsOf, World.ownsRow], ⟨.nil, fun a => ?_⟩, by simpa using hsz, hb0⟩
    constructor
    · intro h; cases h
    · rintro ⟨h1, h2⟩
      have := (H3.out _ _ h1.2).2.1
      rw [this] at h2; cases h2
  case round =>
    obtain ⟨left, cnt, C, hrg, hrow, hC, hcnt, hbr⟩ := hrel
    have hel := elemsOf_length M C
    go_wp2_with (at_next; refine wpList_next_ranges _ rfl _ rfl 172 slotKeyed grElem (fun s : Sl => .agg #[.int .i64 s.ty, .string s.key, .int .i64 s.side, .int .i64 s.who, .string s.elem]) (fun g : Gr => .agg #[.int .i64 g.n, .int .i64 g.who, .string g.elem]) slot_key_inv (fun v y hv => by obtain ⟨g, rfl, _⟩ := grElem_inv hv; exact ⟨g, rfl⟩) b w.heap.size n D left cnt rfl hrg ?_ ?_)
    · intro _ hl0
      have HC0 : Hid (Coll M (fun _ => false) C) := by
        have e : left = fun _ => false := funext hl0
        rw [e] at hC
        exact hC
      clear hl0 hi hz0 hz1 hz2 hC hrg
      have HX : Hid (elemsOf M C = elemsOf M C) := rfl
      generalize hxs : elemsOf M C = xs at *
      have HXS : Hid (elemsOf M C = xs) := hxs
      clear hxs HX
      rcases hrow.2 with ⟨hv, hC0⟩ | ⟨g, cap, cur, hv, hbase, hblk, h1, h2, h3, h4⟩
      · subst hv
        obtain rfl := List.length_eq_zero_iff.1 hC0
        have hsn := fun W => Any.slices_Sort_string_none (P := Tryz.prog) sortTexts none 0 W
        go_wp2_with fail
        refine Calls.mono (show Calls Tryz.prog 182 _ _ _ from hsn _) ?_
        rintro e w5 ⟨rfl, rfl⟩
        clear hsn
        go_wp2
        go_ret
        exact ⟨_, C, [], rfl, by simp [World.ownsRow], ⟨HC0.out, by rw [HXS.out], .nil⟩, hbr⟩
      · subst hv
        have hso := sortT_any (w.heap.size + 1) g cap xs wr hrow (by omega)
        clear h4
        go_wp2_with fail
        refine hso.mono ?_
        rintro e w5 ⟨rfl, ys, hperm, hsorted, hown5, hg5⟩
        have HTL : Hid (Coll M (fun _ => false) C ∧ ys.Perm (elemsOf M C) ∧ ys.Pairwise (fun x y => ordS x y ≤ 0)) := ⟨HC0.out, by rw [HXS.out]; exact hperm, hsorted⟩
        have hl5 : xs.length = ys.length := hperm.length_eq.symm
        have hfin : w5.ownsRow w.heap.size 9 1 (.slice (some ⟨g, 0, none⟩) xs.length cap) ys.length (ys.map Value.string) := by rw [← hl5]; exact owns_mono hown5 (by omega)
        have hb5 : Below w.heap.size w w5 := hbr.grown hg5 hbr.size (fun k hk => by cases hk; omega)
        clear hso hperm hsorted hown5 hg5 hl5
        go_wp2
        go_ret
        exact ⟨_, C, ys, rfl, hfin, HTL, hb5⟩
    · intro x c kl yd yp w2 cnt2 hkey hlk hv hat hrg2 hlt hg2 hs2 hen
      obtain ⟨hxok, rfl⟩ := slot_ok_of_key x kl hkey
      have hMx : M x = some c := by
        obtain ⟨g', hg', hz'⟩ := grElem_inv hv
        cases hM : M x with
        | none =>
          have hh := H2.out x hxok hM
          rw [Maps.has_true_of_atKey hat] at hh
          cases hh
        | some g0 =>
          have := (H3.out x g0 hM).2.2 .nil
          rw [hat] at this
          have hcc : grElem c.val = some (c.dat, []) := grElem_mk c
          have hv' : grElem c.val = some (yd, yp) := hv
          rw [hcc] at hv'
          simp only [Option.some.injEq, Prod.mk.injEq] at hv'
          rw [Gr.dat_inj (hv'.1.trans this)]
      obtain ⟨a, ha, rfl, rfl⟩ := HMM.out x c hMx
      have HC2 : Hid (Coll M (fun z => left z && !z.sameKey (slot a).lit) (C ++ [a])) := hC.out.step ⟨ha, hMx⟩ hlk (fun s g h => (H3.out s g h).1)
      have HSN : Hid (elemsOf M (C ++ [a]) = if kept M a then elemsOf M C ++ [(slot a).elem] else elemsOf M C) := elemsOf_snoc M C a
      have hsz2 : wr.heap.size ≤ w2.heap.size := by omega
      have hst2 : StMap w2 b n M := ⟨D, hrg2.owns, H2.out, H3.out⟩
      have hir := fun W (h : StMap W b n M) => isRemoved_any b n M (slot a) W h hxok
      clear hkey hat hv hMx hs2 hlk
      have hbr2 : Below w.heap.size w w2 := hbr.grown hg2 hbr.size (fun k hk => by cases hk; exact Nat.le_refl _)
      have hrow2 := owns_grown hrow hg2 (Nat.lt_succ_self _)
      have HL : Hid (wr.rangeLeft b w.heap.size = cnt) := hrg.left_eq
      clear hg2 hrg ha hrow hC
      by_cases hsd : (slot a).side = 0
      · have hi2 := hir (w2.alloc (.cells #[.int .i64 (slot a).ty, .string (slot a).key, .int .i64 (slot a).side, .int .i64 (slot a).who, .string (slot a).elem] 172)) (hst2.alloc _)
        have hrg3 := hrg2.alloc (.cells #[.int .i64 (slot a).ty, .string (slot a).key, .int .i64 (slot a).side, .int .i64 (slot a).who, .string (slot a).elem] 172)
        have hrow3 := hrow2.alloc (.cells #[.int .i64 (slot a).ty, .string (slot a).key, .int .i64 (slot a).side, .int .i64 (slot a).who, .string (slot a).elem] 172)
        have hbr3 := below_alloc hbr2 (.cells #[.int .i64 (slot a).ty, .string (slot a).key, .int .i64 (slot a).side, .int .i64 (slot a).who, .string (slot a).elem] 172)
        have hz3 : w2.heap.size < (w2.alloc (.cells #[.int .i64 (slot a).ty, .string (slot a).key, .int .i64 (slot a).side, .int .i64 (slot a).who, .string (slot a).elem] 172)).heap.size := by simp
        clear hir hst2 hrg2 hrow2 hbr2
        rw [hsd] at hi2 hrg3 hrow3 hbr3 hz3
        cases hR : (M (slot a).one).isSome with
        | true =>
          have hk : kept M a = false := by unfold kept; rw [← Option.not_isSome, hR]; simp
          have HS2 : Hid (elemsOf M (C ++ [a]) = elemsOf M C) := by rw [Hid, HSN.out, hk]; rfl
          rw [hR] at hi2
          clear HSN hk hR
          generalize (slot a).lit = kl at *
          generalize slot a = x at *
          generalize grade a = c at *
          go_wp2_with fail
          generalize hW3 : w2.alloc (.cells #[.int .i64 x.ty, .string x.key, .int .i64 0, .int .i64 x.who, .string x.elem] 172) = w3 at *
          refine hi2.mono ?_
          rintro e w4 ⟨rfl, hb4⟩
          have hrg4 := ranges_below hrg3 hb4
          have hrow4 := owns_below hrow3 hb4
          have hbr4 : Below w.heap.size w w4 := hbr3.trans (hb4.mono hbr3.size)
          clear hi2 hrg3 hrow3 hW3
          go_wp2
          refine ⟨⟨_, cnt2, C ++ [a], hrg4, by rw [HS2.out]; exact hrow4, HC2, by simp; omega, hbr4⟩, ?_⟩
          rw [hrg4.left_eq, HL.out]
          exact hlt
        | false =>
          have hk : kept M a = true := by unfold kept; rw [← Option.not_isSome, hR]; simp [hsd]
          have HS2 : Hid (elemsOf M (C ++ [a]) = elemsOf M C ++ [(slot a).elem]) := by rw [Hid, HSN.out, hk]; rfl
          rw [hR] at hi2
          clear HSN hk hR
          generalize (slot a).lit = kl at *
          generalize slot a = x at *
          generalize grade a = c at *
          have hcx : (w2.alloc (.cells #[.int .i64 x.ty, .string x.key, .int .i64 0, .int .i64 x.who, .string x.elem] 172)).cell? ⟨w2.heap.size, 4, none⟩ = some (.string x.elem) := by simp
          go_wp2_with fail
          generalize hW3 : w2.alloc (.cells #[.int .i64 x.ty, .string x.key, .int .i64 0, .int .i64 x.who, .string x.elem] 172) = w3 at *
          refine hi2.mono ?_
          rintro e w4 ⟨rfl, hb4⟩
          have hrg4 := ranges_below hrg3 hb4
          have hrow4 := owns_below hrow3 hb4
          have hbr4 : Below w.heap.size w w4 := hbr3.trans (hb4.mono hbr3.size)
          have hcx4 := cell_keep hcx hb4
          have hz4 := hbr4.size
          clear hi2 hrg3 hrow3 hW3 hcx
          go_wp2_with (at_builtin; refine wpList_append_lies _ rfl _ _ 87 rfl (w.heap.size + 1) 9 i0 _ 1 16 Tryz.underlying87 hi hz0 hz1 hz2 rfl (by decide) _ (elemsOf M C).length _ rfl (hrow4.alloc _) ⟨w4.heap.size, 0, none⟩ 1 1 [.string x.elem] rfl rfl (World.news_of_block (heap_alloc_new w4 _)) (by simp [Value.oneCell']) (by decide) (by unfold maxLen; omega) (by omega) (by simp; omega) (w4.heap.size + 1) (by simp) ?_; intro g capn w5 hown5 hgrow5 hat5 hlt5)
          have hrg5 := (hrg4.alloc (.cells #[.string x.elem] 9)).kept hgrow5 (ne_own hrow4 _ (by omega)) (ne_own hrow4 _ (Nat.lt_succ_self _))
          have hbr5 : Below w.heap.size w w5 := (below_alloc hbr4 _).grown hgrow5 (by simp; omega) (fun q hq => by have := owns_base hrow4 q hq; omega)
          refine ⟨⟨_, cnt2, C ++ [a], hrg5, by rw [HS2.out, List.map_append, List.length_append]; exact hown5, HC2, by simp; omega, hbr5⟩, ?_⟩
          rw [hrg5.left_eq, HL.out]
          exact hlt
      · have hk : kept M a = false := by unfold kept; simp [hsd]
        have HS2 : Hid (elemsOf M (C ++ [a]) = elemsOf M C) := by rw [Hid, HSN.out, hk]; rfl
        clear HSN hk hir hst2
        generalize (slot a).lit = kl at *
        generalize slot a = x at *
        generalize grade a = c at *
        go_wp2
        refine ⟨⟨_, cnt2, C ++ [a], (hrg2.alloc _), by rw [HS2.out]; exact hrow2.alloc _, HC2, by simp; omega, below_alloc hbr2 _⟩, ?_⟩
        rw [(hrg2.alloc _).left_eq, HL.out]
        exact hlt
end Go.Proofs.YtahdlejgjcjeoaaGreatDoor

namespace Go.Proofs.YtahdlejgjcjeoaaGreatDoor
open Go.RowKit

theorem infoOut : (Tryz.prog.info? 75).map (fun i => (i.zero, i.size, i.bytes)) = some (some (.agg #[.slice none 0 0, .int .i64 0]), 2, 32) := by kernel_rfl

theorem BookInv.after {w w2 : World} {B g : Nat} {va : Value} {es : List (Value × Int)} (h : BookInv w B va es) (tmp : Obj)
    (hcase : ((w.alloc tmp).grownBy w2 none ∧ (w.alloc tmp).heap.size ≤ g) ∨ (va.ownBlock = some g ∧ (w.alloc tmp).grownBy w2 (some g))) : w2.cell? ⟨B, 0, none⟩ = some va ∧ w2.frozen? ⟨B, 0, none⟩ = false := by
  have hal : w.grownBy (w.alloc tmp) none := World.grownBy_alloc w tmp none
  rcases hcase with ⟨h1, _⟩ | ⟨h1, h2⟩
  · have hg := grown_trans hal h1
    exact ⟨hg.cell h.c0 (by simp), by rw [← h.fz 0]; exact World.frozen?_of_block (w := w) (hg.block B h.lt (by simp))⟩
  · have hg := grown_trans (hal.but _) h2
    have hne : some B ≠ some g := fun e => by
      have := owns_base h.row g h1
      cases e
      omega
    exact ⟨hg.cell h.c0 hne, by rw [← h.fz 0]; exact World.frozen?_of_block (w := w) (hg.block B h.lt hne)⟩
theorem all_marks {L : List At} {n : Nat} {k : Int} (hl : L.length = n) (h : ∀ t, t < n → nth L t = mark k) : L = List.replicate n (mark k) := by
  apply List.ext_getElem (by simp [hl])
  intro i h1 h2
  rw [← nth_eq L i h1, h i (by omega)]
  simp

set_option maxRecDepth 100000 in
set_option maxHeartbeats 4000000 in
theorem ownAtoms_any (B : Nat) (va vl : Value) (es : List (Value × Int)) (baseL n : Nat) (L : List At) (w : World)
    (hI : BookInv w B va es) (hL : w.ownsRow baseL 77 6 vl n (flat L)) (hn : L.length = n) (hbase : baseL ≤ w.heap.size)
    (hsep : ∀ q, vl.ownBlock = some q → q < w.heap.size ∧ q ≠ B ∧ some q ≠ va.ownBlock ∧ ∀ p ∈ es, p.1.ownBlock ≠ some q)
    (hlen : n ≤ 8388608) (hes : es.length ≤ 1000) :
    Calls Tryz.prog 92 #[.pointer (some ⟨B, 0, none⟩), vl] w fun e w' => e = .returned (.tuple #[]) ∧ ∃ va' es', Hid (BookInv w' B va' es') ∧ es'.length = es.length + 4 ∧ Hid (∀ p ∈ es', p ∈ es ∨ ∀ q, p.1.ownBlock = some q → w.heap.size ≤ q ∨ some q = vl.ownBlock) ∧ Hid (Fr (fun q => q = B ∨ some q = vl.ownBlock ∨ some q = va.ownBlock) w w') := by
  obtain ⟨X, hX⟩ : ∃ X : Nat → Prop, X = fun q => q = B ∨ some q = vl.ownBlock ∨ some q = va.ownBlock := ⟨_, rfl⟩
  rw [← hX]
  have HXB : Hid (X B) := by rw [hX]; exact .inl rfl
  have HXV : Hid (∀ q, vl.ownBlock = some q → X q) := by rw [hX]; exact fun q hq => .inr (.inl hq.symm)
  have HXA : Hid (∀ q, va.ownBlock = some q → X q) := by rw [hX]; exact fun q hq => .inr (.inr hq.symm)
  clear hX
  obtain ⟨adL, capL, rfl⟩ := own_form hL
  obtain ⟨adA, capA, rfl⟩ := own_form hI.row
  have c0 := hI.c0
  have HI : Hid (BookInv w B (.slice adA es.length capA) es) := hI
  have HL : Hid (w.ownsRow baseL 77 6 (.slice adL n capL) n (flat L)) := hL
  have HSEP : Hid (∀ q, (Value.slice adL n capL).ownBlock = some q → q < w.heap.size ∧ q ≠ B ∧ some q ≠ (Value.slice adA es.length capA).ownBlock ∧ ∀ p ∈ es, p.1.ownBlock ≠ some q) := hsep
  clear hI hL hsep
  obtain ⟨i0, hi, hz0, hz1, hz2⟩ := info_parts infoAtom
  obtain ⟨i1, hi1, hy0, hy1, hy2⟩ := info_parts infoOut
  go_enter Tryz.func92, Tryz.ntmps92
  go_wp2
  go_loopw [5] (fun i wr => ∃ (j : Nat) (L' : List At), j ≤ n ∧ i = .int .i64 j ∧ L'.length = n ∧ wr.ownsRow baseL 77 6 (.slice adL n capL) n (flat L') ∧ Hid (∀ t, t < j → nth L' t = mark es.length) ∧ Hid (BookInv wr B (.slice adA es.length capA) es) ∧ Hid (Fr X w wr)) (fun i _ => n - (intOf i).toNat)
  case atStart => exact ⟨0, L, Nat.zero_le _, rfl, hn, HL, fun t ht => by omega, HI, Fr.refl _ _⟩
  case round =>
    clear c0
    obtain ⟨j, L', hj, rfl, hlL, hown, hmk, hinv, hfr⟩ := hrel
    by_cases hl : j < n
    · obtain ⟨g, rfl⟩ : ∃ g, adL = some ⟨g, 0, none⟩ := by
        rcases hown.2 with ⟨_, h0⟩ | ⟨g, cap, cur, hv, _⟩
        · omega
        · cases hv; exact ⟨g, rfl⟩
      have hsg := HSEP.out g rfl
      have q1 : (j : Int) < (n : Int) := by omega
      go_wp2_with fail
      refine (atomOf_any es.length _ (by omega) (by omega)).mono ?_
      rintro e w3 ⟨rfl, hb3⟩
      have hown3 := owns_below hown hb3
      have hinv3 := hinv.out.below hb3
      have hfr3 := hfr.out.below hb3
      obtain ⟨⟨d0, d1, d2, d3, d4, d5⟩, hf⟩ := owns_cells hown3 hlL.symm j (by omega)
      have hst := owns_store hown3 hlL.symm j (by omega) (mark es.length)
      have hgr := grown_setCells (g := g) (enc (mark es.length)) (j * 6) w3
      have HI3 : Hid (BookInv (w3.setCells g (j * 6) (enc (mark es.length))) B (.slice adA es.length capA) es) := hinv3.kept hgr (fun e => hsg.2.1 (by cases e; rfl)) (fun q hq e => hsg.2.2.1 (by rw [hq, e])) (fun p hp q hq e => hsg.2.2.2 p hp (by rw [hq, e]))
      have HF3 : Hid (Fr X w (w3.setCells g (j * 6) (enc (mark es.length)))) := hfr3.step hgr (fun q hq => by cases hq; exact .inr (HXV.out g rfl))
      have HM3 : Hid (∀ t, t < j + 1 → nth (L'.set j (mark es.length)) t = mark es.length) := by
        intro t ht
        by_cases e : t = j
        · subst e; simp [nth, show t < L'.length by omega]
        · have := hmk.out t (by omega)
          simpa [nth, Ne.symm e] using this
      have HST : Hid ((w3.setCells g (j * 6) (enc (mark es.length))).ownsRow baseL 77 6 (.slice (some ⟨g, 0, none⟩) n capL) n (flat (L'.set j (mark es.length)))) := hst
      have HLL : Hid ((L'.set j (mark es.length)).length = n) := by rw [Hid]; simpa using hlL
      clear hst hgr hown hb3 hown3 hinv3 hfr3 hinv hfr hmk hsg
      generalize nth L' j = y at *
      generalize hmk0 : mark es.length = mk at *
      have HMK : Hid (mark es.length = mk) := hmk0
      clear hmk0
      go_wp2
      exact ⟨⟨j + 1, _, by omega, by go_num, HLL, HST, by rw [HMK.out]; exact HM3, HI3, HF3⟩, by simp [intOf]; omega⟩
    · have hjn : j = n := by omega
      subst hjn
      have hLm := all_marks hlL hmk.out
      rw [hLm] at hown
      have hst : OwnSt w X (Value.slice adL j capL).ownBlock es B baseL es.length j wr (.slice adL j capL) (.slice adA es.length capA) es := ⟨hinv.out, hown, fun q hq => ⟨Nat.lt_of_lt_of_le (HSEP.out q hq).1 hfr.out.size, (HSEP.out q hq).2.1, (HSEP.out q hq).2.2.1⟩, fun p hp q h1 h2 => absurd h1 ((HSEP.out q h2).2.2.2 p hp), hfr.out, fun q hq => .inr ⟨HXV.out q hq, hq.symm⟩, fun p hp => .inl hp, fun q hq => .inr (HXA.out q hq), Nat.le_trans hbase hfr.out.size, ⟨by omega, by omega⟩, by omega⟩
      have hinvr := hst.inv
      have cr := hinvr.c0
      have hlt := hinvr.lt
      have hrowr := hinvr.row
      clear hown hmk hinv hfr hLm HSEP HI HL hlL
      have HST : Hid (OwnSt w X (Value.slice adL j capL).ownBlock es B baseL es.length j wr (.slice adL j capL) (.slice adA es.length capA) es) := hst
      have HIR : Hid (BookInv wr B (.slice adA es.length capA) es) := hinvr
      clear hst hinvr
      go_wp2_with (at_builtin; refine wpList_append_two _ rfl _ _ 65 rfl (B + 1) 75 i1 _ 2 32 Tryz.underlying65 hi1 hy0 hy1 hy2 rfl (by decide) _ es.length _ rfl (hrowr.alloc _) ⟨wr.heap.size, 0, none⟩ 1 1 [.slice adL j capL, .int .i64 es.length] rfl rfl (news_pair wr _ _ _) (pair_oneCell rfl _) (by decide) (by unfold maxLen; omega) (by omega) (by simp; omega) ?_; intro gA capA' wA hownA hcaseA; obtain ⟨ca, fa⟩ := HIR.out.after _ hcaseA)
      have HS1 := HST.out.push HXB.out _ hownA hcaseA
      clear HST HIR cr hrowr hownA hcaseA ca fa hlt
      go_loopw [1, 6] (fun s1 s6 wr => ∃ (r : Nat) (va' : Value) (es' : List (Value × Int)), r ≤ 3 ∧ s6 = .int .i64 r ∧ es'.length = es.length + 1 + r ∧ Hid (OwnSt w X (Value.slice adL j capL).ownBlock es B baseL es.length (j + r) wr s1 va' es')) (fun _ s6 _ => 3 - (intOf s6).toNat)
      case atStart => exact ⟨0, _, _, by omega, rfl, by simp, HS1⟩
      case round =>
        clear HS1
        obtain ⟨r, va', es', hr, rfl, hes', hst⟩ := hrel
        have HES : Hid (es'.length = es.length + 1 + r) := hes'
        have hesle : es'.length ≤ 1004 := by omega
        clear hes'
        by_cases hr3 : r < 3
        · obtain ⟨ad1, cap1, hv1⟩ := own_form hst.out.own
          subst hv1
          go_wp2_with fail
          refine (atomOf_any es.length _ (by omega) (by omega)).mono ?_
          rintro e w3 ⟨rfl, hb3⟩
          have hst3 := hst.out.below hb3
          have hown3 := hst3.own
          have hbase3 := hst3.base
          have HS3 : Hid (OwnSt w X (Value.slice adL j capL).ownBlock es B baseL es.length (j + r) w3 (.slice ad1 (j + r) cap1) va' es') := hst3
          clear hst hst3 hb3
          generalize hmk0 : mark es.length = mk at *
          have HMK : Hid (mark es.length = mk) := hmk0
          clear hmk0
          go_wp2_with (first | (at_builtin; have _t := hown3; refine wpList_append_two _ rfl _ _ 56 rfl baseL 77 i0 _ 6 64 Tryz.underlying56 hi hz0 hz1 hz2 rfl (by decide) _ (j + r) _ rfl (hown3.alloc _) ⟨w3.heap.size, 0, none⟩ 1 1 (enc mk) rfl rfl (news_at w3 mk _) (enc_oneCell mk) (by decide) (by unfold maxLen; omega) (by omega) (by simp; omega) ?_; intro gL capN wN hownN hcaseN; have HSN : Hid (OwnSt w X (Value.slice adL j capL).ownBlock es B baseL es.length (j + r + 1) wN (.slice (some ⟨gL, 0, none⟩) (j + r + 1) capN) va' es') := HS3.out.append (by omega) _ (by rw [HMK.out]; exact hownN) hcaseN; have cN := HSN.out.inv.c0; have hltN := HSN.out.inv.lt; have hrowN := HSN.out.inv.row; clear hownN hcaseN hown3 HS3) | (at_builtin; refine wpList_append_two _ rfl _ _ 65 rfl (B + 1) 75 i1 _ 2 32 Tryz.underlying65 hi1 hy0 hy1 hy2 rfl (by decide) _ es'.length _ rfl (hrowN.alloc _) ⟨wN.heap.size, 0, none⟩ 1 1 [.slice (some ⟨gL, 0, none⟩) (j + r + 1) capN, .int .i64 es.length] rfl rfl (news_pair wN _ _ _) (pair_oneCell rfl _) (by decide) (by unfold maxLen; omega) (by omega) (by simp; omega) ?_; intro gA capA' wA hownA hcaseA; obtain ⟨ca, fa⟩ := HSN.out.inv.after _ hcaseA))
          have HS4 := HSN.out.push HXB.out _ hownA hcaseA
          clear HSN cN hrowN hownA hcaseA ca fa hltN
          exact ⟨⟨r + 1, _, _, by omega, by go_num, by have := HES.out; rw [List.length_append]; show es'.length + 1 = _; omega, HS4⟩, by simp [intOf]; omega⟩
        · go_wp2
          go_end0
          exact ⟨rfl, va', es', hst.out.inv, by have := HES.out; omega, hst.out.ent, hst.out.fr⟩
end Go.Proofs.YtahdlejgjcjeoaaGreatDoor
