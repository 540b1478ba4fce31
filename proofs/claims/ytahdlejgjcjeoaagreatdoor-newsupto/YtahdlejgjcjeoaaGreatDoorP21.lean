/- The program's New. -/
import Derived.Test.YtahdlejgjcjeoaaGreatDoorP20
import Derived.Test.YtahdlejgjcjeoaaGreatDoorP04
import Derived.Deep.MidRow
import Derived.Deep.RegionHeld3
import Derived.Test.YtahdlejgjcjeoaaGreatDoorP07
namespace Go.Proofs.YtahdlejgjcjeoaaGreatDoor
open Go.RowKit Go.MuLone

def rec14 (m : Nat) : List Value := [.bool true, .int .i64 0, .int .i64 0, .map (some m), .slice none 0 0, .int .i64 0, .int .i64 0, .int .i64 0, .int .i64 0, .int .i64 0, .int .i64 0, .slice none 0 0, .int .i64 0, .int .i64 0]
def noMap : Sl → Option Gr := fun _ => none
/-- The program's cluster as New makes it. -/
structure PF (w : World) (x R n : Nat) : Prop where
  n1 : 1 ≤ n
  n6 : n ≤ 6
  cl : ClAt w x R n n
  c42 : w.cell? ⟨x, 42, none⟩ = some (.slice none 0 0)
  row : ∀ i, i < n → ∃ m, w.rangeAt R (i * 14) (rec14 m) ∧ StMap w m 0 noMap ∧ m ≠ x

def zero14 : List Value := [.bool false, .int .i64 0, .int .i64 0, .map none, .slice none 0 0, .int .i64 0, .int .i64 0, .int .i64 0, .int .i64 0, .int .i64 0, .int .i64 0, .slice none 0 0, .int .i64 0, .int .i64 0]
def zeros (n : Nat) : List Value := (List.replicate n zero14).flatten
def clB (bp rr : Bool) (room : Int) (F : Nat → Nat → Bool) (R n : Nat) : List Value := [.int .i32 0, .int .u32 0, .bool bp, .bool rr, .int .i64 room] ++ (linkB F ++ [.slice (some ⟨R, 0, none⟩) n n, .slice none 0 0])
theorem infoRep : (Tryz.prog.info? 126).map (fun i => (i.zero, i.size, i.bytes)) = some (some (.agg zero14.toArray), 14, 144) := by kernel_rfl
theorem made_reps (n : Nat) : madeCells (Value.cells (.agg zero14.toArray)) (n * 14) = (zeros n).toArray := by
  apply Array.ext_getElem?
  intro t
  have hl : (zeros n).length = n * 14 := reps_length n zero14
  by_cases ht : t < n * 14
  · have hm : t % 14 < 14 := Nat.mod_lt _ (by decide)
    have hu : zero14[t % 14]? = some zero14[t % 14]! := by
      rw [getElem!_pos zero14 (t % 14) hm, List.getElem?_eq_getElem hm]
    have h2 := reps_get (n := n) (i := t / 14) (by omega) hu
    rw [show t / 14 * zero14.length + t % 14 = t by show t / 14 * 14 + t % 14 = t; omega] at h2
    have h3 : (zeros n).toArray[t]? = some zero14[t % 14]! := by rw [List.getElem?_toArray]; exact h2
    rw [h3]
    have hz : (Value.cells (.agg zero14.toArray)) = zero14.toArray := rfl
    rw [hz]
    unfold madeCells
    rw [Array.getElem?_map, Array.getElem?_range, if_pos ht]
    show some (zero14.toArray[t % 14]!) = _
    rw [List.getElem!_toArray]
  · rw [Array.getElem?_eq_none (by rw [size_madeCells]; omega), Array.getElem?_eq_none (by simp; omega)]
theorem make_reps (n : Nat) (h6 : n ≤ 6) (W : World) : (Instr.makeSlice 114 (.int .i64 (n : Int)) (.int .i64 (n : Int))).run Tryz.prog W = .ok (.slice (some ⟨W.heap.size, 0, none⟩) n n) (W.alloc (.cells (zeros n).toArray 126)) := by
  obtain ⟨i, hi, hz0, hz1, hz2⟩ := info_parts infoRep
  have hr := run_make (P := Tryz.prog) W 114 126 i _ Tryz.underlying114 hi hz0 .i64 .i64 n n (by omega) (Int.le_refl _) (by rw [hz2]; omega) (by omega)
  simp only [Int.toNat_natCast] at hr
  rw [hr, hz1, made_reps n]
theorem cellKeepA {W : World} {a : Addr} {v : Value} (h : W.cell? a = some v) (o : Obj) : (W.alloc o).cell? a = some v := by
  obtain ⟨b, k, s⟩ := a
  cases s with
  | none =>
    obtain ⟨cs, e, fz, hx, _⟩ := Go.Sort.cells_of_cell? h
    exact (((Below.refl W.heap.size W).alloc (Nat.le_refl _) o).cell (p := ⟨b, k, none⟩) (Array.getElem?_eq_some_iff.1 hx).1).trans h
  | some s =>
    simp only [World.cell?] at h
    split at h <;> cases h
/-- Made, and not filled yet. -/
structure MadeP (w wc : World) (x R n : Nat) (bp rr : Bool) (room : Int) (F : Nat → Nat → Bool) : Prop where
  bel : Below w.heap.size w wc
  bx : wc.heap[x]? = some (.cells (clB bp rr room F R n).toArray 117 (0, 0))
  bR : wc.heap[R]? = some (.cells (zeros n).toArray 126 (0, 0))
  hx : w.heap.size ≤ x
  hR : w.heap.size ≤ R

theorem infoRep1 : (Tryz.prog.info? 126).map (·.size) = some 14 := by kernel_rfl
structure FillP (w wc : World) (x R n r : Nat) (bp rr : Bool) (room : Int) (F : Nat → Nat → Bool) : Prop where
  bel : Below w.heap.size w wc
  bx : wc.heap[x]? = some (.cells (clB bp rr room F R n).toArray 117 (0, 0))
  hx : w.heap.size ≤ x
  hR : w.heap.size ≤ R
  xR : x ≠ R
  ltR : R < wc.heap.size
  th : ∀ i, i < n → wc.there R (i * 14) 14
  row : ∀ i, i < r → ∃ m, wc.rangeAt R (i * 14) (rec14 m) ∧ StMap wc m 0 noMap ∧ m ≠ x ∧ m ≠ R ∧ w.heap.size ≤ m
theorem zeros_length (n : Nat) : (zeros n).length = n * 14 := reps_length n zero14
theorem MadeP.start {w wc : World} {x R n : Nat} {bp rr : Bool} {room : Int} {F : Nat → Nat → Bool} (h : MadeP w wc x R n bp rr room F) : FillP w wc x R n 0 bp rr room F where
  bel := h.bel
  bx := h.bx
  hx := h.hx
  hR := h.hR
  xR e := by
    have := h.bx
    rw [e, h.bR] at this
    simp at this
  ltR := blk_lt h.bR
  th i hi j hj := by
    refine ⟨?_, blk_thaw h.bR _⟩
    have hl : i * 14 + j < (zeros n).length := by rw [zeros_length]; omega
    rw [blk_cell h.bR, List.getElem?_toArray, List.getElem?_eq_getElem hl]
    rfl
  row i hi := by omega
theorem FillP.step {w wc : World} {x R n r : Nat} {bp rr : Bool} {room : Int} {F : Nat → Nat → Bool} (h : FillP w wc x R n r bp rr room F) (hr : r < n) : FillP w ((wc.alloc (.map #[] 0)).setCells R (r * 14) (rec14 wc.heap.size)) x R n (r + 1) bp rr room F where
  bel := ((below_alloc h.bel _).grown (grown_setCells _ _ _) (by have := h.bel.size; simp; omega) (fun k hk => by cases hk; exact h.hR))
  bx := by
    refine ((grown_setCells (g := R) (rec14 wc.heap.size) (r * 14) (wc.alloc (.map #[] 0))).block x (by have := blk_lt h.bx; simp; omega) (fun e => h.xR (Option.some.inj e))).trans ?_
    exact (((Below.refl wc.heap.size wc).alloc (Nat.le_refl _) _).block x (blk_lt h.bx)).trans h.bx
  hx := h.hx
  hR := h.hR
  xR := h.xR
  ltR := Nat.lt_of_lt_of_le h.ltR (Nat.le_trans (by simp) (grown_setCells (g := R) (rec14 wc.heap.size) (r * 14) (wc.alloc (.map #[] 0))).size)
  th i hi := World.there_setCells (World.there_alloc (h.th i hi) _) _ _ _
  row i hi := by
    by_cases e : i = r
    · subst e
      refine ⟨wc.heap.size, World.rangeAt_setCells_same _ _ _ _ (World.there_alloc (h.th i hr) _), ?_, ?_, ?_, h.bel.size⟩
      · exact (stMap_made wc).kept (grown_setCells _ _ _) (fun e => by have := h.ltR; have := Option.some.inj e; omega)
      · have := blk_lt h.bx; omega
      · have := h.ltR; omega
    · obtain ⟨m, h1, h2, h3, h4, h5⟩ := h.row i (by omega)
      refine ⟨m, World.rangeAt_setCells_apart (World.rangeAt_alloc h1 _) _ _ _ (.inr (.inl ?_)), ?_, h3, h4, h5⟩
      · show i * 14 + 14 ≤ r * 14
        omega
      · exact (h2.kept (World.grownBy_alloc wc _ none) (by simp)).kept (grown_setCells _ _ _) (fun e => h4 (Option.some.inj e))
theorem FillP.done {w wc : World} {x R n : Nat} {bp rr : Bool} {room : Int} {F : Nat → Nat → Bool} (h : FillP w wc x R n n bp rr room F) (h1 : 1 ≤ n) (h6 : n ≤ 6) : PF wc x R n where
  n1 := h1
  n6 := h6
  cl := ⟨(blk_cell h.bx 0).trans rfl, blk_thaw h.bx 0, (blk_cell h.bx 41).trans rfl, h.xR, Nat.le_refl _⟩
  c42 := (blk_cell h.bx 42).trans rfl
  row i hi := by
    obtain ⟨m, g1, g2, g3, g4, g5⟩ := h.row i hi
    exact ⟨m, g1, g2, g3⟩

set_option maxRecDepth 100000 in
set_option maxHeartbeats 4000000 in
theorem prgNew (v : Value) (es : List (Int × Int)) (reps room : Int) (bp rr : Bool) (w : World) (hv : EdgesOf w v es) (hlen : es.length ≤ 1048576) :
    Calls Tryz.prog 24 #[.agg #[.int .i64 reps, v, .bool bp, .bool rr, .int .i64 room]] w fun e w' => Below w.heap.size w w' ∧ ((newOk reps room es = false ∧ e = .returned (.tuple #[.pointer none, .int .i64 4])) ∨ (newOk reps room es = true ∧ ∃ x R, e = .returned (.tuple #[.pointer (some ⟨x, 0, none⟩), .int .i64 0]) ∧ PF w' x R reps.toNat ∧ w.heap.size ≤ x ∧ w.heap.size ≤ R ∧ ∀ i, i < reps.toNat → ∀ m, w'.cell? ⟨R, i * 14 + 3, none⟩ = some (.map (some m)) → w.heap.size ≤ m)) := by
  have HE : Hid (EdgesOf w v es) := hv
  obtain ⟨ad, cap, rfl, -⟩ := hv
  go_enter Tryz.func24, Tryz.ntmps24
  go_wp2_with fail
  refine (sizes_any reps room ad es.length cap bp rr _).mono ?_
  rintro e w1 ⟨rfl, hb1⟩
  have hbw1 : Below w.heap.size w w1 := (below_alloc (Below.refl _ w) _).trans (hb1.mono (by simp))
  have hx1 : w1.heap[w.heap.size]? = some (.cells #[.int .i64 reps, .slice ad es.length cap, .bool bp, .bool rr, .int .i64 room] 24 (0, 0)) := (hb1.block _ (by simp)).trans (heap_alloc_new w _)
  by_cases hs : 1 ≤ reps ∧ reps ≤ 6 ∧ 1 ≤ room ∧ room ≤ 8
  · obtain ⟨n, rfl⟩ : ∃ n : Nat, reps = n := ⟨reps.toNat, by omega⟩
    have hnk : newOk n room es = (linkAll n noE es).isSome := by unfold newOk; rw [decide_eq_true hs]; simp
    have k0 := blk_cell hx1 0
    have k1 := blk_cell hx1 1
    have k2 := blk_cell hx1 2
    have k3 := blk_cell hx1 3
    have k4 := blk_cell hx1 4
    simp at k0 k1 k2 k3 k4
    rw [decide_eq_true hs]
    clear hb1
    have HX1 : Hid (w1.heap[w.heap.size]? = some (.cells #[.int .i64 n, .slice ad es.length cap, .bool bp, .bool rr, .int .i64 room] 24 (0, 0))) := hx1
    clear hx1
    go_wp2_with fail
    refine (link_any _ es n w1 (HE.out.below hbw1) (by omega) hlen).mono ?_
    rintro e w2 ⟨rfl, hb2⟩
    have hl1 := blk_lt HX1.out
    have HX2 : Hid (w2.heap[w.heap.size]? = some (.cells #[.int .i64 n, .slice ad es.length cap, .bool bp, .bool rr, .int .i64 room] 24 (0, 0))) := (hb2.block _ hl1).trans HX1.out
    have hbw2 : Below w.heap.size w w2 := hbw1.trans (hb2.mono hbw1.size)
    clear k0 k1 k2 k3 k4 HX1 hb2
    have hz := heap_alloc_new w2 (.cells (linkB noE).toArray 113)
    generalize hlk : linkAll n noE es = lk at *
    generalize hF : lk.getD noE = F at *
    go_upto_if 20 with (refine wpList_store_row rfl 113 _ _ rfl w2.heap.size (linkB F).toArray rfl rfl _ _ hz (linkI F) rfl (linkB_one F) ?_)
    have hb3 : Below w2.heap.size w2 ((w2.alloc (.cells (linkB noE).toArray 113)).setRow w2.heap.size (linkB F).toArray) := (LinkAt.over (w := w2) hz ((Below.refl _ w2).alloc (Nat.le_refl _) _) F).2
    have hL3 : LinkAt ((w2.alloc (.cells (linkB noE).toArray 113)).setRow w2.heap.size (linkB F).toArray) w2.heap.size F := (LinkAt.over (w := w2) hz ((Below.refl _ w2).alloc (Nat.le_refl _) _) F).1
    obtain ⟨w3, hw3⟩ : ∃ w3 : World, w3 = (w2.alloc (.cells (linkB noE).toArray 113)).setRow w2.heap.size (linkB F).toArray := ⟨_, rfl⟩
    have hsame : ∀ W : World, W = (w2.alloc (.cells (linkB noE).toArray 113)).setRow w2.heap.size (linkB F).toArray → W = w3 := fun W h => h.trans hw3.symm
    rw [← hw3] at hb3 hL3
    change Code.wp _ _ _ _ ((w2.alloc (.cells (linkB noE).toArray 113)).setRow w2.heap.size (linkB F).toArray)
    rw [← hw3]
    clear hw3 hsame hz
    have HB3 : Hid (Below w.heap.size w w3) := hbw2.trans (hb3.mono hbw2.size)
    have HX3 : Hid (w3.heap[w.heap.size]? = some (.cells #[.int .i64 n, .slice ad es.length cap, .bool bp, .bool rr, .int .i64 room] 24 (0, 0))) := (hb3.block _ (blk_lt HX2.out)).trans HX2.out
    have HL3 : Hid (LinkAt w3 w2.heap.size F) := hL3
    clear hb3 hL3 hbw1 hbw2 HX2
    cases lk with
    | none =>
      go_wp2
      go_ret2
      exact ⟨HB3.out, .inl ⟨hnk, rfl⟩⟩
    | some f =>
      go_upto_region 6 with fail
      go_cut [6] from 8 (fun s6 wc => ∃ x R : Nat, s6 = .pointer (some ⟨x, 0, none⟩) ∧ Hid (MadeP w wc x R n bp rr room F))
      case first =>
        have k0 := blk_cell HX3.out 0
        have k1 := blk_cell HX3.out 1
        have k2 := blk_cell HX3.out 2
        have k3 := blk_cell HX3.out 3
        have k4 := blk_cell HX3.out 4
        simp at k0 k1 k2 k3 k4
        have hrg : w3.rangeAt w2.heap.size 0 [.bool (F 0 0), .bool (F 0 1), .bool (F 0 2), .bool (F 0 3), .bool (F 0 4), .bool (F 0 5), .bool (F 1 0), .bool (F 1 1), .bool (F 1 2), .bool (F 1 3), .bool (F 1 4), .bool (F 1 5), .bool (F 2 0), .bool (F 2 1), .bool (F 2 2), .bool (F 2 3), .bool (F 2 4), .bool (F 2 5), .bool (F 3 0), .bool (F 3 1), .bool (F 3 2), .bool (F 3 3), .bool (F 3 4), .bool (F 3 5), .bool (F 4 0), .bool (F 4 1), .bool (F 4 2), .bool (F 4 3), .bool (F 4 4), .bool (F 4 5), .bool (F 5 0), .bool (F 5 1), .bool (F 5 2), .bool (F 5 3), .bool (F 5 4), .bool (F 5 5)] := by
          intro j u hu
          have hj : j < 36 := (List.getElem?_eq_some_iff.1 hu).1
          rw [Nat.zero_add, HL3.out.cell j hj, ← linkB_get F j hj, List.getElem?_toArray]
          exact hu
        have hmk := fun W => make_reps n (by omega) W
        refine wp_region_held_drew (S := fun w' => w'.cell? ⟨w.heap.size, 0, none⟩ = some (.int .i64 n) ∧ w'.cell? ⟨w.heap.size, 2, none⟩ = some (.bool bp) ∧ w'.cell? ⟨w.heap.size, 3, none⟩ = some (.bool rr) ∧ w'.cell? ⟨w.heap.size, 4, none⟩ = some (.int .i64 room) ∧ w'.rangeAt w2.heap.size 0 [.bool (F 0 0), .bool (F 0 1), .bool (F 0 2), .bool (F 0 3), .bool (F 0 4), .bool (F 0 5), .bool (F 1 0), .bool (F 1 1), .bool (F 1 2), .bool (F 1 3), .bool (F 1 4), .bool (F 1 5), .bool (F 2 0), .bool (F 2 1), .bool (F 2 2), .bool (F 2 3), .bool (F 2 4), .bool (F 2 5), .bool (F 3 0), .bool (F 3 1), .bool (F 3 2), .bool (F 3 3), .bool (F 3 4), .bool (F 3 5), .bool (F 4 0), .bool (F 4 1), .bool (F 4 2), .bool (F 4 3), .bool (F 4 4), .bool (F 4 5), .bool (F 5 0), .bool (F 5 1), .bool (F 5 2), .bool (F 5 3), .bool (F 5 4), .bool (F 5 5)]) (by kernel_rfl) ⟨by simpa using k0, by simpa using k2, by simpa using k3, by simpa using k4, by simpa using hrg⟩ (fun hHeld => ?_)
        refine wpAnyH_take (i := 0) (oi := _) (v := ?_) rfl (by kernel_rfl) (by kernel_rfl) (by kernel_rfl) (fun _ _ _ h => h) (Or.inl ⟨by rfl, ?_⟩) (by assumption) ?_
        rotate_left
        · intro w hSw
          try dsimp only at hSw
          go_simp <;> with_reducible rfl
        simp only [Act.put, List.setIfInBounds_toArray]
        refine wpAnyH_take (i := 1) (oi := _) (v := ?_) rfl (by kernel_rfl) (by kernel_rfl) (by kernel_rfl) (fun _ _ _ h => h) (Or.inl ⟨by rfl, ?_⟩) (by assumption) ?_
        rotate_left
        · intro w hSw
          try dsimp only at hSw
          go_simp <;> with_reducible rfl
        simp only [Act.put]
        refine wpAnyH_take (i := 2) (oi := _) (v := ?_) rfl (by kernel_rfl) (by kernel_rfl) (by kernel_rfl) (fun _ _ _ h => h) (Or.inl ⟨by rfl, ?_⟩) (by assumption) ?_
        rotate_left
        · intro w hSw
          try dsimp only at hSw
          go_simp <;> with_reducible rfl
        simp only [Act.put]
        refine wpAnyH_take (i := 3) (oi := _) (v := ?_) rfl (by kernel_rfl) (by kernel_rfl) (by kernel_rfl) (fun _ _ _ h => h) (Or.inl ⟨by rfl, ?_⟩) (by assumption) ?_
        rotate_left
        · intro w hSw
          try dsimp only at hSw
          go_simp <;> with_reducible rfl
        simp only [Act.put]
        refine wpAnyH_take (i := 4) (oi := _) (v := ?_) rfl (by kernel_rfl) (by kernel_rfl) (by kernel_rfl) (fun _ _ _ h => h) (Or.inl ⟨by rfl, ?_⟩) (by assumption) ?_
        rotate_left
        · intro w hSw
          try dsimp only at hSw
          go_simp <;> with_reducible rfl
        simp only [Act.put]
        refine wpAnyH_take (i := 5) (oi := _) (v := ?_) rfl (by kernel_rfl) (by kernel_rfl) (by kernel_rfl) (fun _ _ _ h => h) (Or.inl ⟨by rfl, ?_⟩) (by assumption) ?_
        rotate_left
        · intro w hSw
          try dsimp only at hSw
          go_simp <;> with_reducible rfl
        simp only [Act.put]
        refine' wpAnyH_take (i := 6) (oi := _) (v := _) rfl (by kernel_rfl) (by kernel_rfl) (by kernel_rfl) (fun _ _ _ h => h) (yieldsIf_load_mid (by rfl) _ _ rfl _ _ rfl [.bool (F 0 0), .bool (F 0 1), .bool (F 0 2), .bool (F 0 3), .bool (F 0 4), .bool (F 0 5), .bool (F 1 0), .bool (F 1 1), .bool (F 1 2), .bool (F 1 3), .bool (F 1 4), .bool (F 1 5), .bool (F 2 0), .bool (F 2 1), .bool (F 2 2), .bool (F 2 3), .bool (F 2 4), .bool (F 2 5), .bool (F 3 0), .bool (F 3 1), .bool (F 3 2), .bool (F 3 3), .bool (F 3 4), .bool (F 3 5), .bool (F 4 0), .bool (F 4 1), .bool (F 4 2), .bool (F 4 3), .bool (F 4 4), .bool (F 4 5), .bool (F 5 0), .bool (F 5 1), .bool (F 5 2), .bool (F 5 3), .bool (F 5 4), .bool (F 5 5)] _ (fun w hSw => hSw.2.2.2.2) Tryz.underlying113 rfl infoLinks) (by assumption) ?_
        simp only [Act.put]
        refine wpAnyH_take (i := 7) (oi := _) (v := ?_) rfl (by kernel_rfl) (by kernel_rfl) (by kernel_rfl) (fun _ _ _ h => h) (Or.inl ⟨by rfl, ?_⟩) (by assumption) ?_
        rotate_left
        · intro w hSw
          try dsimp only at hSw
          go_simp <;> with_reducible rfl
        simp only [Act.put]
        refine wpAnyH_take (i := 8) (oi := _) (v := ?_) rfl (by kernel_rfl) (by kernel_rfl) (by kernel_rfl) (fun _ _ _ h => h) (Or.inl ⟨by rfl, ?_⟩) (by assumption) ?_
        rotate_left
        · intro w hSw
          try dsimp only at hSw
          go_simp <;> with_reducible rfl
        simp only [Act.put]
        refine wpAnyH_ready (rs := [9]) (by kernel_rfl) (by simp) ?_
        refine AllReadyH.cons (o := _) rfl (fun K hK => ?_) AllReadyH.nil
        go_simp
        refine hK.out _ _ ?_ (fun hHeld => ?_)
        · exact ⟨cellKeepA k0 _, cellKeepA k2 _, cellKeepA k3 _, cellKeepA k4 _, World.rangeAt_alloc hrg _⟩
        clear hK K
        refine wpAnyH_take (i := 10) (oi := _) (v := ?_) rfl (by kernel_rfl) (by kernel_rfl) (by kernel_rfl) (fun _ _ _ h => h) (Or.inl ⟨by rfl, ?_⟩) (by assumption) ?_
        rotate_left
        · intro w hSw
          try dsimp only at hSw
          go_simp <;> with_reducible rfl
        simp only [Act.put, List.setIfInBounds_toArray]
        refine wpAnyH_ready (rs := [11]) (by kernel_rfl) (by simp) ?_
        refine AllReadyH.cons (o := _) rfl (fun K hK => ?_) AllReadyH.nil
        go_simp
        refine hK.out _ _ ?_ (fun hHeld => ?_)
        · exact ⟨cellKeepA (cellKeepA k0 _) _, cellKeepA (cellKeepA k2 _) _, cellKeepA (cellKeepA k3 _) _, cellKeepA (cellKeepA k4 _) _, World.rangeAt_alloc (World.rangeAt_alloc hrg _) _⟩
        clear hK K
        refine wpAnyH_take (i := 12) (oi := _) (v := ?_) rfl (by kernel_rfl) (by kernel_rfl) (by kernel_rfl) (fun _ _ _ h => h) (Or.inl ⟨by rfl, ?_⟩) (by assumption) ?_
        rotate_left
        · intro w hSw
          try dsimp only at hSw
          go_simp <;> with_reducible rfl
        simp only [Act.put, List.setIfInBounds_toArray]
        refine wpAnyH_done (by kernel_rfl) ?_ _
        go_wp2
        go_meet
        case rel =>
          have h2 := two_blocks w3 (.cells (zeros n).toArray 126) (.cells (clB bp rr room F w3.heap.size n).toArray 117)
          have hsz := HB3.out.size
          exact ⟨w3.heap.size + 1, w3.heap.size, rfl, (below_alloc (below_alloc HB3.out _) _).drew, h2.1, h2.2, by omega, hsz⟩
      case rest =>
        obtain ⟨x, R, rfl, hmade⟩ := hcut
        have c41 : wc.cell? ⟨x, 41, none⟩ = some (.slice (some ⟨R, 0, none⟩) n n) := (blk_cell hmade.out.bx 41).trans rfl
        clear HX3 HL3 HB3
        go_wp2
        have HS : Hid (FillP w wc x R n 0 bp rr room F) := hmade.out.start
        clear hmade c41
        go_loopw [7, 38] (fun _ s wr => ∃ j : Nat, j ≤ n ∧ s = .int .i64 j ∧ Hid (FillP w wr x R n j bp rr room F)) (fun _ s _ => n - (intOf s).toNat)
        case atStart => exact ⟨0, Nat.zero_le _, rfl, HS⟩
        case round =>
          clear HS
          obtain ⟨j, hj, rfl, hst⟩ := hrel
          by_cases hl : j < n
          · have q1 : (j : Int) < (n : Int) := by omega
            have q2 : (0 : Int) ≤ (j : Int) := by omega
            have c41 : wr.cell? ⟨x, 41, none⟩ = some (.slice (some ⟨R, 0, none⟩) n n) := (blk_cell hst.out.bx 41).trans rfl
            have ht : (wr.alloc (.map #[] 0)).there R (j * 14) 14 := World.there_alloc (hst.out.th j hl) _
            have HN := Hid.mk (hst.out.step hl)
            have hmm := @run_makeMap Tryz.prog
            obtain ⟨v0, c0⟩ := Option.isSome_iff_exists.1 (ht 0 (by decide)).1
            have f0 := (ht 0 (by decide)).2
            obtain ⟨v1, c1⟩ := Option.isSome_iff_exists.1 (ht 1 (by decide)).1
            have f1 := (ht 1 (by decide)).2
            obtain ⟨v2, c2⟩ := Option.isSome_iff_exists.1 (ht 2 (by decide)).1
            have f2 := (ht 2 (by decide)).2
            obtain ⟨v3, c3⟩ := Option.isSome_iff_exists.1 (ht 3 (by decide)).1
            have f3 := (ht 3 (by decide)).2
            obtain ⟨v4, c4⟩ := Option.isSome_iff_exists.1 (ht 4 (by decide)).1
            have f4 := (ht 4 (by decide)).2
            obtain ⟨v5, c5⟩ := Option.isSome_iff_exists.1 (ht 5 (by decide)).1
            have f5 := (ht 5 (by decide)).2
            obtain ⟨v6, c6⟩ := Option.isSome_iff_exists.1 (ht 6 (by decide)).1
            have f6 := (ht 6 (by decide)).2
            obtain ⟨v7, c7⟩ := Option.isSome_iff_exists.1 (ht 7 (by decide)).1
            have f7 := (ht 7 (by decide)).2
            obtain ⟨v8, c8⟩ := Option.isSome_iff_exists.1 (ht 8 (by decide)).1
            have f8 := (ht 8 (by decide)).2
            obtain ⟨v9, c9⟩ := Option.isSome_iff_exists.1 (ht 9 (by decide)).1
            have f9 := (ht 9 (by decide)).2
            obtain ⟨v10, c10⟩ := Option.isSome_iff_exists.1 (ht 10 (by decide)).1
            have f10 := (ht 10 (by decide)).2
            obtain ⟨v11, c11⟩ := Option.isSome_iff_exists.1 (ht 11 (by decide)).1
            have f11 := (ht 11 (by decide)).2
            obtain ⟨v12, c12⟩ := Option.isSome_iff_exists.1 (ht 12 (by decide)).1
            have f12 := (ht 12 (by decide)).2
            obtain ⟨v13, c13⟩ := Option.isSome_iff_exists.1 (ht 13 (by decide)).1
            have f13 := (ht 13 (by decide)).2
            rw [Nat.add_zero] at c0 f0
            clear ht hst
            go_wp2
            exact ⟨⟨j + 1, by omega, by go_num, HN.out⟩, by simp [intOf]; omega⟩
          · obtain rfl : j = n := by omega
            have q1 : ¬ (j : Int) < (j : Int) := by omega
            go_wp2
            go_ret2
            have hpf : PF wr x R j := hst.out.done (by omega) (by omega)
            have hpf' : PF wr x R ((j : Int).toNat) := by rw [Int.toNat_natCast]; exact hpf
            have hmm : ∀ i, i < j → ∀ m, wr.cell? ⟨R, i * 14 + 3, none⟩ = some (.map (some m)) → w.heap.size ≤ m := fun i hi m hm => by
              obtain ⟨m', h1, -, -, -, h5⟩ := hst.out.row i hi
              have := (h1 3 _ rfl).symm.trans hm
              cases this
              exact h5
            exact ⟨hst.out.bel, x, by rfl, R, hpf, hst.out.hx, hst.out.hR, hmm⟩
  · have hnk : newOk reps room es = false := by unfold newOk; rw [decide_eq_false hs]; rfl
    rw [decide_eq_false hs]
    clear hb1 hx1
    go_wp2
    go_ret2
    exact ⟨hbw1, .inl ⟨hnk, rfl⟩⟩
end Go.Proofs.YtahdlejgjcjeoaaGreatDoor
