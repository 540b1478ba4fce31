/- Walk of the law Reads. -/
import Derived.Test.YtfddkkkkehbecaaDoorReadRef2
import Derived.Test.YtfddkkkkehbecaaDoorLooksT
import Derived.Test.YtfddkkkkehbecaaDoorSameV
import Derived.Test.YtfddkkkkehbecaaDoorJoinsW2
namespace Go.Proofs.YtfddkkkkehbecaaDoor
open Go.RowKit

/-- A value in two cells. -/
def Box (w : World) (q : Nat) (n : Int) (v : Value) : Prop := w.cell? ⟨q, 0, none⟩ = some (.int .i64 n) ∧ w.cell? ⟨q, 1, none⟩ = some v
theorem Box.below {w w' : World} {q B : Nat} {n : Int} {v : Value} (h : Box w q n v) (hb : Below B w w') (hq : q < B) : Box w' q n v :=
  ⟨by rw [hb.cell (p := ⟨q, 0, none⟩) hq]; exact h.1, by rw [hb.cell (p := ⟨q, 1, none⟩) hq]; exact h.2⟩
theorem Box.fr {w w' : World} {q : Nat} {n : Int} {v : Value} {X : Nat → Prop} (h : Box w q n v) (hf : Fr X w w') (hq : q < w.heap.size) (hx : ¬ X q) : Box w' q n v :=
  ⟨by rw [World.cell?_of_block (w := w) (a := ⟨q, 0, none⟩) (hf.block q hq hx)]; exact h.1, by rw [World.cell?_of_block (w := w) (a := ⟨q, 1, none⟩) (hf.block q hq hx)]; exact h.2⟩
theorem StrsOf.below {w w' : World} {v : Value} {l : List ByteArray} (h : StrsOf w v l) (hb : Below w.heap.size w w') : StrsOf w' v l := by
  obtain ⟨ad, cap, rfl, H⟩ := h
  refine ⟨ad, cap, rfl, fun h0 => ?_⟩
  obtain ⟨b, off, rfl, hlt, hrow⟩ := H h0
  exact ⟨b, off, rfl, Nat.lt_of_lt_of_le hlt hb.size, fun i hi => by rw [hb.cell (p := ⟨b, off + i, none⟩) hlt]; exact hrow i hi⟩
theorem ReadSpec.length {l : List At} {kind : Int} {key : ByteArray} {n : Int} {es : List ByteArray} (h : ReadSpec l kind key n es) (hlen : l.length ≤ 4194304) : es.length ≤ 4194304 := by
  rcases h with ⟨_, _, T, hT, _, rfl⟩ | ⟨_, _, rfl⟩
  · have h1 := valE_length T T kind key
    have h2 := told_length hT
    omega
  · simp

set_option maxRecDepth 100000 in
set_option maxHeartbeats 4000000 in
theorem reads_walk (v1 : Value) (l : List At) (kind : Int) (key : ByteArray) (w : World) (hr : RulesAt w) (h1 : SliceOf w v1 l) (hs1 : ∀ a ∈ l, short a) (hlen : l.length ≤ 4194304) (hk : key.size ≤ 1099511627776) :
    Calls Tryd.prog 6 #[v1, .int .i64 kind, .string key] w fun e w' => e = .returned (.bool true) ∧ Below w.heap.size w w' := by
  have HR : Hid (RulesAt w) := hr
  have H1 : Hid (SliceOf w v1 l) := h1
  have HS1 : Hid (∀ a ∈ l, short a) := hs1
  obtain ⟨ad1, cp1, rfl, _, _⟩ := h1
  clear hr hs1
  go_enter Tryd.func6, Tryd.ntmps6
  go_wp2_with fail
  refine (lent_any _ l w H1.out hlen).mono ?_
  rintro e w1 ⟨gx, rfl, hox, hb1⟩
  have nx := own_lt hox gx rfl
  go_wp2_with fail
  refine (refRead_any _ l kind key w1 (H1.out.below hb1) HS1.out hlen hk).mono ?_
  rintro e w2 ⟨n2, v2, es2, rfl, ho2, hs2, hb2⟩
  have hbw2 : Below w.heap.size w w2 := hb1.trans (hb2.mono hb1.size)
  have hox2 := owns_below hox hb2
  have hz2 := hb2.size
  have hz1 := hb1.size
  obtain ⟨ad2, cp2, hv2⟩ := own_form ho2
  subst hv2
  clear hox hb2 hb1
  generalize hnx8 : l.length + 8 = nx8 at *
  have HNX : Hid (nx8 = (l ++ List.replicate 8 bey).length) := by rw [Hid]; simp; omega
  have q1 : (0 : Int) ≤ (l.length : Int) := by omega
  have q2 : (l.length : Int) ≤ (nx8 : Int) := by omega
  have q5 : nx8 ≤ 4194312 := by omega
  clear hnx8
  have HX2 : Hid (w2.ownsRow w.heap.size 52 6 (.slice (some ⟨gx, 0, none⟩) nx8 nx8) nx8 (flat (l ++ List.replicate 8 bey))) := hox2
  have HO2 : Hid (w2.ownsRow w1.heap.size 9 1 (.slice ad2 es2.length cp2) es2.length (es2.map Value.string)) := ho2
  clear hox2 ho2
  generalize hcd : readCode l kind = c at *
  have HCD : Hid (readCode l kind = c) := hcd
  clear hcd
  have HLR : Hid (∀ W, Below w.heap.size w W → Below w2.heap.size w2 W → Calls Tryd.prog 21 #[.slice (some ⟨gx, 0, none⟩) l.length nx8, .int .i64 kind, .string key] W fun e w' => ∃ n v es, e = .returned (.tuple #[.agg #[.int .i64 n, v], .int .i64 c]) ∧ w'.ownsRow W.heap.size 9 1 v es.length (es.map Value.string) ∧ Hid (ReadSpec l kind key n es ∧ (c = 0 ∨ v = .slice none 0 0)) ∧ Below W.heap.size W w') := fun W hW hW2 => by
    have := latRead_any _ l kind key W (HR.out.below hW HR.out.1) (lent_cut (owns_below HX2.out hW2) HNX.out) HS1.out hlen hk
    rw [HCD.out] at this
    exact this
  go_wp2_with fail
  have hbx2 := heap_alloc_new w2 (.cells #[.int .i64 n2, .slice ad2 es2.length cp2] 34)
  have a2 : (w2.alloc (.cells #[.int .i64 n2, .slice ad2 es2.length cp2] 34)).cell? ⟨w2.heap.size, 0, none⟩ = some (.int .i64 n2) := World.news_of_block hbx2 0 _ rfl
  have b2 : (w2.alloc (.cells #[.int .i64 n2, .slice ad2 es2.length cp2] 34)).cell? ⟨w2.heap.size, 1, none⟩ = some (.slice ad2 es2.length cp2) := World.news_of_block hbx2 1 _ rfl
  have hb23 := below_alloc (Below.refl _ w2) (.cells #[.int .i64 n2, .slice ad2 es2.length cp2] 34)
  have hz3 : (w2.alloc (.cells #[.int .i64 n2, .slice ad2 es2.length cp2] 34)).heap.size = w2.heap.size + 1 := by simp
  generalize w2.alloc (.cells #[.int .i64 n2, .slice ad2 es2.length cp2] 34) = w3 at *
  have hbw3 : Below w.heap.size w w3 := hbw2.trans (hb23.mono hbw2.size)
  refine (HLR.out w3 hbw3 hb23).mono ?_
  rintro e w4 ⟨n4, v4, es4, rfl, ho4, hs4, hb4⟩
  have hb24 : Below w2.heap.size w2 w4 := hb23.trans (hb4.mono (by omega))
  have hbw4 : Below w.heap.size w w4 := hbw3.trans (hb4.mono hbw3.size)
  have a4 : w4.cell? ⟨w2.heap.size, 0, none⟩ = some (.int .i64 n2) := by rw [hb4.cell (p := ⟨w2.heap.size, 0, none⟩) (by simp only; omega)]; exact a2
  have b4 : w4.cell? ⟨w2.heap.size, 1, none⟩ = some (.slice ad2 es2.length cp2) := by rw [hb4.cell (p := ⟨w2.heap.size, 1, none⟩) (by simp only; omega)]; exact b2
  have hz4 := hb4.size
  obtain ⟨en, ee⟩ := ReadSpec.unique hs4.out.1 hs2.out
  subst en ee
  have HC4 : Hid (c = 0 ∨ v4 = .slice none 0 0) := hs4.out.2
  obtain ⟨ad4, cp4, hv4⟩ := own_form ho4
  subst hv4
  have HO4 : Hid (w4.ownsRow w3.heap.size 9 1 (.slice ad4 es4.length cp4) es4.length (es4.map Value.string)) := ho4
  clear ho4 hb4 a2 b2 hs4 hbx2
  go_wp2_with fail
  have hbx4 := heap_alloc_new w4 (.cells #[.int .i64 n4, .slice ad4 es4.length cp4] 34)
  have a4' : (w4.alloc (.cells #[.int .i64 n4, .slice ad4 es4.length cp4] 34)).cell? ⟨w4.heap.size, 0, none⟩ = some (.int .i64 n4) := World.news_of_block hbx4 0 _ rfl
  have b4' : (w4.alloc (.cells #[.int .i64 n4, .slice ad4 es4.length cp4] 34)).cell? ⟨w4.heap.size, 1, none⟩ = some (.slice ad4 es4.length cp4) := World.news_of_block hbx4 1 _ rfl
  have hb45 := below_alloc (Below.refl _ w4) (.cells #[.int .i64 n4, .slice ad4 es4.length cp4] 34)
  have hz5 : (w4.alloc (.cells #[.int .i64 n4, .slice ad4 es4.length cp4] 34)).heap.size = w4.heap.size + 1 := by simp
  generalize w4.alloc (.cells #[.int .i64 n4, .slice ad4 es4.length cp4] 34) = w5 at *
  have hb25 : Below w2.heap.size w2 w5 := hb24.trans (hb45.mono hb24.size)
  have hbw5 : Below w.heap.size w w5 := hbw4.trans (hb45.mono hbw4.size)
  refine (HLR.out w5 hbw5 hb25).mono ?_
  rintro e w6 ⟨n6, v6, es6, rfl, ho6, hs6, hb6⟩
  obtain ⟨en, ee⟩ := ReadSpec.unique hs6.out.1 hs2.out
  subst en ee
  have hb46 : Below w4.heap.size w4 w6 := hb45.trans (hb6.mono (by omega))
  have hb26 : Below w2.heap.size w2 w6 := hb24.trans (hb46.mono hb24.size)
  have hbw6 : Below w.heap.size w w6 := hbw5.trans (hb6.mono hbw5.size)
  have hz6 := hb6.size
  have a6 : w6.cell? ⟨w2.heap.size, 0, none⟩ = some (.int .i64 n6) := by rw [hb46.cell (p := ⟨w2.heap.size, 0, none⟩) (by simp only; omega)]; exact a4
  have b6 : w6.cell? ⟨w2.heap.size, 1, none⟩ = some (.slice ad2 es6.length cp2) := by rw [hb46.cell (p := ⟨w2.heap.size, 1, none⟩) (by simp only; omega)]; exact b4
  have a6' : w6.cell? ⟨w4.heap.size, 0, none⟩ = some (.int .i64 n6) := by rw [hb6.cell (p := ⟨w4.heap.size, 0, none⟩) (by simp only; omega)]; exact a4'
  have b6' : w6.cell? ⟨w4.heap.size, 1, none⟩ = some (.slice ad4 es6.length cp4) := by rw [hb6.cell (p := ⟨w4.heap.size, 1, none⟩) (by simp only; omega)]; exact b4'
  obtain ⟨ad6, cp6, hv6⟩ := own_form ho6
  subst hv6
  have HO6 : Hid (w6.ownsRow w5.heap.size 9 1 (.slice ad6 es6.length cp6) es6.length (es6.map Value.string)) := ho6
  have hes6 : es6.length ≤ 4194304 := ReadSpec.length hs2.out hlen
  have l46 : w4.heap.size < w6.heap.size := by omega
  have l26 : w2.heap.size < w6.heap.size := by omega
  clear ho6 hb6 a4 b4 a4' b4' hs6 hs2 hbx4 HLR HCD
  go_wp2_with fail
  have hbx6 := heap_alloc_new w6 (.cells #[.int .i64 n6, .slice ad6 es6.length cp6] 34)
  have x6 : Hid (Box (w6.alloc (.cells #[.int .i64 n6, .slice ad6 es6.length cp6] 34)) w6.heap.size n6 (.slice ad6 es6.length cp6)) := ⟨World.news_of_block hbx6 0 _ rfl, World.news_of_block hbx6 1 _ rfl⟩
  have hb67 := below_alloc (Below.refl _ w6) (.cells #[.int .i64 n6, .slice ad6 es6.length cp6] 34)
  have hz7 : (w6.alloc (.cells #[.int .i64 n6, .slice ad6 es6.length cp6] 34)).heap.size = w6.heap.size + 1 := by simp
  generalize w6.alloc (.cells #[.int .i64 n6, .slice ad6 es6.length cp6] 34) = w7 at *
  have x2 : Hid (Box w7 w2.heap.size n6 (.slice ad2 es6.length cp2)) := Box.below ⟨a6, b6⟩ hb67 l26
  have x4 : Hid (Box w7 w4.heap.size n6 (.slice ad4 es6.length cp4)) := Box.below ⟨a6', b6'⟩ hb67 l46
  have hb27 : Below w2.heap.size w2 w7 := hb26.trans (hb67.mono hb26.size)
  have hb47 : Below w4.heap.size w4 w7 := hb46.trans (hb67.mono hb46.size)
  have hbw7 : Below w.heap.size w w7 := hbw6.trans (hb67.mono hbw6.size)
  have S2 : Hid (StrsOf w7 (.slice ad2 es6.length cp2) es6) := strsOf_owns (owns_below HO2.out hb27)
  have S4 : Hid (StrsOf w7 (.slice ad4 es6.length cp4) es6) := strsOf_owns (owns_below HO4.out hb47)
  have S6 : Hid (StrsOf w7 (.slice ad6 es6.length cp6) es6) := strsOf_owns (owns_below HO6.out hb67)
  clear a6 b6 a6' b6' hbx6 hbw2 hbw3 hbw4 hbw5 hbw6 hb23 hb24 hb25 hb26 hb45
  refine (sameValues_any n6 _ _ es6 w7 S4.out S2.out (by omega)).mono ?_
  rintro e w8 ⟨rfl, hb8⟩
  have hz8 := hb8.size
  obtain ⟨a2, b2⟩ := x2.out.below hb8 (by omega)
  obtain ⟨a6, b6⟩ := x6.out.below hb8 (by omega)
  clear S4
  go_wp2_with fail
  refine (sameValues_any n6 _ _ es6 w8 (S6.out.below hb8) (S2.out.below hb8) (by omega)).mono ?_
  rintro e w9 ⟨rfl, hb9⟩
  have hz9 := hb9.size
  have hb79 : Below w7.heap.size w7 w9 := hb8.trans (hb9.mono hb8.size)
  have hb29 : Below w2.heap.size w2 w9 := hb27.trans (hb79.mono hb27.size)
  have hbw9 : Below w.heap.size w w9 := hbw7.trans (hb79.mono hbw7.size)
  clear S2 S6 hb8 hb9 a2 b2 a6 b6
  go_wp2_with fail
  refine (lent_any _ l w9 (H1.out.below hbw9) hlen).mono ?_
  rintro e w10 ⟨g10, rfl, ho10, hb10⟩
  have hbw10 : Below w.heap.size w w10 := hbw9.trans (hb10.mono hbw9.size)
  have hb210 : Below w2.heap.size w2 w10 := hb29.trans (hb10.mono hb29.size)
  have hb710 : Below w7.heap.size w7 w10 := hb79.trans (hb10.mono (by omega))
  have SA : Hid (SliceOf w10 (.slice (some ⟨g10, 0, none⟩) (l.length + 8) (l.length + 8)) (l ++ List.replicate 8 bey)) := sliceOf_owns (by simp) ho10
  have SX : Hid (SliceOf w10 (.slice (some ⟨gx, 0, none⟩) nx8 nx8) (l ++ List.replicate 8 bey)) := sliceOf_owns HNX.out (owns_below HX2.out hb210)
  have hz10 := hb10.size
  clear ho10 hb10
  go_wp2_with fail
  refine (sameAtoms_any _ _ _ w10 SX.out SA.out (by simp; omega)).mono ?_
  rintro e w11 ⟨rfl, hb11⟩
  have hz11 := hb11.size
  have hbw11 : Below w.heap.size w w11 := hbw10.trans (hb11.mono hbw10.size)
  have hb711 : Below w7.heap.size w7 w11 := hb710.trans (hb11.mono (by omega))
  have y4 : Hid (Box w11 w4.heap.size n6 (.slice ad4 es6.length cp4)) := x4.out.below hb711 (by omega)
  have y6 : Hid (Box w11 w6.heap.size n6 (.slice ad6 es6.length cp6)) := x6.out.below hb711 (by omega)
  have O4 : Hid (w11.ownsRow w3.heap.size 9 1 (.slice ad4 es6.length cp4) es6.length (es6.map Value.string)) := owns_below HO4.out (hb47.trans (hb711.mono (by omega)))
  have O6 : Hid (w11.ownsRow w5.heap.size 9 1 (.slice ad6 es6.length cp6) es6.length (es6.map Value.string)) := owns_below HO6.out (hb67.trans (hb711.mono (by omega)))
  have M4 : Hid (∀ q, (Value.slice ad4 es6.length cp4).ownBlock = some q → w3.heap.size ≤ q ∧ q < w4.heap.size) := fun q hq => ⟨owns_base HO4.out q hq, own_lt HO4.out q hq⟩
  have M6 : Hid (∀ q, (Value.slice ad6 es6.length cp6).ownBlock = some q → w5.heap.size ≤ q ∧ q < w6.heap.size) := fun q hq => ⟨owns_base HO6.out q hq, own_lt HO6.out q hq⟩
  have hzw : w.heap.size ≤ w3.heap.size := by omega
  clear hb11 hb710 hb79 hb210 hb29 SX SA x2 x4 x6 HO2 HO4 HO6 HX2 hb67 hb47 hb27 hbw10 hbw9 hbw7 hb46
  obtain ⟨a4, b4⟩ := y4.out
  have l411 : w4.heap.size < w11.heap.size := by omega
  have l611 : w6.heap.size < w11.heap.size := by omega
  by_cases hc0 : c = 0
  · subst hc0
    clear HC4
    go_wp2_with fail
    refine (ownTexts_any w11.heap.size bk0 (.slice ad4 es6.length cp4) es0 w3.heap.size es6.length (es6.map Value.string) _ (bk_new w11) (O4.out.alloc _) (by simp; omega) (fun q hq => ⟨by have := M4.out q hq; simp; omega, by have := M4.out q hq; omega, fun j _ e => by simp [bk0, Value.ownBlock] at e, fun j _ p hp => by cases hp⟩) (by omega) (by simp [es0])).mono ?_
    rintro e w12 ⟨rfl, vf, ef, hI, hl12, hent, hfr⟩
    have hz12 : w11.heap.size + 1 ≤ w12.heap.size := by have := hfr.out.size; simpa using this
    have hl12' : ef.length = 4 := by simpa [es0] using hl12
    have o6 := owns_fr (O6.out.alloc _) hfr.out (fun q hq hx => by
      have m6 := M6.out q hq
      rcases hx with h | h | h
      · omega
      · have := M4.out q h.symm; omega
      · simp [bk0, Value.ownBlock] at h)
    obtain ⟨a12, b12⟩ : Box w12 w6.heap.size n6 (.slice ad6 es6.length cp6) := Box.fr (y6.out.below (below_alloc (Below.refl _ w11) _) l611) hfr.out (by simp; omega) (fun hx => by
      rcases hx with h | h | h
      · omega
      · have := M4.out _ h.symm; omega
      · simp [bk0, Value.ownBlock] at h)
    have hcon2 := ownTexts_any w11.heap.size (updF bk0 2 vf) (.slice ad6 es6.length cp6) (updF es0 2 ef) w5.heap.size es6.length (es6.map Value.string) w12 hI.out o6 (by omega) (fun q hq => ⟨by have := M6.out q hq; omega, by have := M6.out q hq; omega, fun j hj e => by
        have := owns_base (hI.out.row j hj) q e.symm
        have := M6.out q hq
        omega, fun j hj p hp e => by
        have m6 := M6.out q hq
        by_cases hj2 : j = 2
        · subst hj2
          rw [updF_same] at hp
          rcases hent.out p hp with h | h
          · cases h
          · rcases h q e with h' | h'
            · simp at h'; omega
            · have := M4.out q h'.symm; omega
        · rw [updF_other _ _ hj2] at hp
          cases hp⟩) (by omega) (by rw [updF_same]; omega)
    have HB2 : Hid (∀ q, vf.ownBlock = some q → w11.heap.size + 1 ≤ q) := fun q hq => owns_base (hI.out.row 2 (by decide)) q (by rw [updF_same]; exact hq)
    have hb12 : Below w.heap.size w w12 := (below_alloc hbw11 _).trans (hfr.out.toBelow (by simp; omega) (fun q hq => by
      rcases hq with h | h | h
      · omega
      · have := M4.out q h.symm; omega
      · simp [bk0, Value.ownBlock] at h))
    clear hI hl12 hent hfr o6
    go_wp2_with fail
    refine hcon2.mono ?_
    rintro e w13 ⟨rfl, vf2, ef2, hI2, hl13, hent2, hfr2⟩
    rw [updF_same] at hl13
    have hI3 := hI2.out
    rw [updF_updF, updF_updF] at hI3
    have hcon3 := looksT_any w11.heap.size (updF bk0 2 vf2) (updF es0 2 ef2) w13 hI3 rfl rfl rfl (by rw [updF_same]; omega)
    have hb13 : Below w.heap.size w w13 := hb12.trans (hfr2.out.toBelow (by omega) (fun q hq => by
      rcases hq with h | h | h
      · omega
      · have := M6.out q h.symm; omega
      · rw [updF_same] at h; have := HB2.out q h.symm; omega))
    clear hcon2 hI2 hI3 hl13 hent2 hfr2 hb12
    go_wp2_with fail
    refine hcon3.mono ?_
    rintro e w14 ⟨rfl, hb14⟩
    have hfin : Below w.heap.size w w14 := hb13.trans (hb14.mono hb13.size)
    clear hcon3 hb14 hb13
    go_wp2
    go_ret
    exact ⟨rfl, hfin⟩
  · have hn4 : ad4 = none := by
      rcases HC4.out with h | h
      · exact absurd h hc0
      · exact (Value.slice.inj h).1
    subst hn4
    clear HC4
    go_wp2_with fail
    refine (ownTexts_any w11.heap.size bk0 (.slice none es6.length cp4) es0 w3.heap.size es6.length (es6.map Value.string) _ (bk_new w11) (O4.out.alloc _) (by simp; omega) (fun q hq => ⟨by have := M4.out q hq; simp; omega, by have := M4.out q hq; omega, fun j _ e => by simp [bk0, Value.ownBlock] at e, fun j _ p hp => by cases hp⟩) (by omega) (by simp [es0])).mono ?_
    rintro e w12 ⟨rfl, vf, ef, hI, hl12, hent, hfr⟩
    have hz12 : w11.heap.size + 1 ≤ w12.heap.size := by have := hfr.out.size; simpa using this
    have hl12' : ef.length = 4 := by simpa [es0] using hl12
    have o6 := owns_fr (O6.out.alloc _) hfr.out (fun q hq hx => by
      have m6 := M6.out q hq
      rcases hx with h | h | h
      · omega
      · have := M4.out q h.symm; omega
      · simp [bk0, Value.ownBlock] at h)
    obtain ⟨a12, b12⟩ : Box w12 w6.heap.size n6 (.slice ad6 es6.length cp6) := Box.fr (y6.out.below (below_alloc (Below.refl _ w11) _) l611) hfr.out (by simp; omega) (fun hx => by
      rcases hx with h | h | h
      · omega
      · have := M4.out _ h.symm; omega
      · simp [bk0, Value.ownBlock] at h)
    have hcon2 := ownTexts_any w11.heap.size (updF bk0 2 vf) (.slice ad6 es6.length cp6) (updF es0 2 ef) w5.heap.size es6.length (es6.map Value.string) w12 hI.out o6 (by omega) (fun q hq => ⟨by have := M6.out q hq; omega, by have := M6.out q hq; omega, fun j hj e => by
        have := owns_base (hI.out.row j hj) q e.symm
        have := M6.out q hq
        omega, fun j hj p hp e => by
        have m6 := M6.out q hq
        by_cases hj2 : j = 2
        · subst hj2
          rw [updF_same] at hp
          rcases hent.out p hp with h | h
          · cases h
          · rcases h q e with h' | h'
            · simp at h'; omega
            · have := M4.out q h'.symm; omega
        · rw [updF_other _ _ hj2] at hp
          cases hp⟩) (by omega) (by rw [updF_same]; omega)
    have HB2 : Hid (∀ q, vf.ownBlock = some q → w11.heap.size + 1 ≤ q) := fun q hq => owns_base (hI.out.row 2 (by decide)) q (by rw [updF_same]; exact hq)
    have hb12 : Below w.heap.size w w12 := (below_alloc hbw11 _).trans (hfr.out.toBelow (by simp; omega) (fun q hq => by
      rcases hq with h | h | h
      · omega
      · have := M4.out q h.symm; omega
      · simp [bk0, Value.ownBlock] at h))
    clear hI hl12 hent hfr o6
    go_wp2_with fail
    refine hcon2.mono ?_
    rintro e w13 ⟨rfl, vf2, ef2, hI2, hl13, hent2, hfr2⟩
    rw [updF_same] at hl13
    have hI3 := hI2.out
    rw [updF_updF, updF_updF] at hI3
    have hcon3 := looksT_any w11.heap.size (updF bk0 2 vf2) (updF es0 2 ef2) w13 hI3 rfl rfl rfl (by rw [updF_same]; omega)
    have hb13 : Below w.heap.size w w13 := hb12.trans (hfr2.out.toBelow (by omega) (fun q hq => by
      rcases hq with h | h | h
      · omega
      · have := M6.out q h.symm; omega
      · rw [updF_same] at h; have := HB2.out q h.symm; omega))
    clear hcon2 hI2 hI3 hl13 hent2 hfr2 hb12
    go_wp2_with fail
    refine hcon3.mono ?_
    rintro e w14 ⟨rfl, hb14⟩
    have hfin : Below w.heap.size w w14 := hb13.trans (hb14.mono hb13.size)
    clear hcon3 hb14 hb13
    go_wp2
    go_ret
    exact ⟨rfl, hfin⟩
end Go.Proofs.YtfddkkkkehbecaaDoor
