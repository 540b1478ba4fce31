/- The Player as it is made. No walk. -/
import Derived.Test.YtahdlejgjcjeoabGreatDoorS20
import Derived.Test.YtahdlejgjcjeoabGreatDoorS14
import Derived.Test.YtahdlejgjcjeoabGreatDoorS28
import Derived.Test.YtahdlejgjcjeoabGreatDoorS27
import Derived.Test.YtahdlejgjcjeoabGreatDoorS06
import Derived.Test.YtahdlejgjcjeoabGreatDoorS09
import Derived.Test.YtahdlejgjcjeoabGreatDoorS29
import Derived.Test.YtahdlejgjcjeoabGreatDoorS12
namespace Go.Proofs.YtahdlejgjcjeoabGreatDoor
open Go.RowKit Go.MuLone

structure FillQ (w wc : World) (x R n r : Nat) (bp rr : Bool) (room : Int) (F : Nat → Nat → Bool) : Prop extends FillP w wc x R n r bp rr room F where
  bR : ∃ cur, wc.heap[R]? = some (.cells cur 126 (0, 0)) ∧ cur.size = n * 14
  ms : ∃ ms : Nat → Nat, (∀ i, i < r → wc.rangeAt R (i * 14) (rec14 (ms i)) ∧ StMap wc (ms i) 0 noMap ∧ ms i ≠ x ∧ ms i ≠ R ∧ w.heap.size ≤ ms i) ∧ ∀ i j, i < j → j < r → ms i < ms j
theorem MadeP.startQ {w wc : World} {x R n : Nat} {bp rr : Bool} {room : Int} {F : Nat → Nat → Bool} (h : MadeP w wc x R n bp rr room F) : FillQ w wc x R n 0 bp rr room F :=
  { h.start with
    bR := ⟨_, h.bR, by rw [List.size_toArray, zeros_length]⟩
    ms := ⟨fun _ => 0, fun i hi => by omega, fun i j _ hj => by omega⟩ }
theorem FillQ.stepQ {w wc : World} {x R n r : Nat} {bp rr : Bool} {room : Int} {F : Nat → Nat → Bool} (h : FillQ w wc x R n r bp rr room F) (hr : r < n) : FillQ w ((wc.alloc (.map #[] 0)).setCells R (r * 14) (rec14 wc.heap.size)) x R n (r + 1) bp rr room F :=
  { h.toFillP.step hr with
    bR := by
      obtain ⟨cur, h1, h2⟩ := h.bR
      have h3 : (wc.alloc (.map #[] 0)).heap[R]? = some (.cells cur 126 (0, 0)) := (((Below.refl wc.heap.size wc).alloc (Nat.le_refl _) _).block R h.ltR).trans h1
      exact ⟨_, heap_putA (rec14 wc.heap.size) (r * 14) h3, by rw [putA_size]; exact h2⟩
    ms := by
      obtain ⟨ms, h1, h2⟩ := h.ms
      refine ⟨fun i => if i = r then wc.heap.size else ms i, fun i hi => ?_, fun i j hij hj => ?_⟩
      · dsimp only
        by_cases e : i = r
        · rw [if_pos e]
          subst e
          refine ⟨World.rangeAt_setCells_same _ _ _ _ (World.there_alloc (h.th i hr) _), ?_, ?_, ?_, h.bel.size⟩
          · exact (stMap_made wc).kept (grown_setCells _ _ _) (fun e => by have := h.ltR; have := Option.some.inj e; omega)
          · have := blk_lt h.bx; omega
          · have := h.ltR; omega
        · rw [if_neg e]
          obtain ⟨g1, g2, g3, g4, g5⟩ := h1 i (by omega)
          refine ⟨World.rangeAt_setCells_apart (World.rangeAt_alloc g1 _) _ _ _ (.inr (.inl ?_)), ?_, g3, g4, g5⟩
          · show i * 14 + 14 ≤ r * 14
            omega
          · exact (g2.kept (World.grownBy_alloc wc _ none) (by simp)).kept (grown_setCells _ _ _) (fun e => g4 (Option.some.inj e))
      · dsimp only
        rw [if_neg (by omega : ¬ i = r)]
        by_cases e : j = r
        · rw [if_pos e]
          exact (h1 i (by omega)).2.1.lt
        · rw [if_neg e]
          exact h2 i j hij (by omega) }

set_option maxRecDepth 100000 in
set_option maxHeartbeats 4000000 in
theorem prgNew2 (v : Value) (es : List (Int × Int)) (reps room : Int) (bp rr : Bool) (w : World) (hv : EdgesOf w v es) (hlen : es.length ≤ 1048576) :
    Calls Tryz.prog 18 #[.agg #[.int .i64 reps, v, .bool bp, .bool rr, .int .i64 room]] w fun e w' => Below w.heap.size w w' ∧ ((newOk reps room es = false ∧ e = .returned (.tuple #[.pointer none, .int .i64 4])) ∨ (newOk reps room es = true ∧ ∃ x R, e = .returned (.tuple #[.pointer (some ⟨x, 0, none⟩), .int .i64 0]) ∧ ∃ F, linkAll reps.toNat noE es = some F ∧ FillQ w w' x R reps.toNat reps.toNat bp rr room F)) := by
  have HE : Hid (EdgesOf w v es) := hv
  obtain ⟨ad, cap, rfl, -⟩ := hv
  go_enter Tryz.func18, Tryz.ntmps18
  go_wp2_with fail
  refine (sizes_any reps room ad es.length cap bp rr _).mono ?_
  rintro e w1 ⟨rfl, hb1⟩
  have hbw1 : Below w.heap.size w w1 := (below_alloc (Below.refl _ w) _).trans (hb1.mono (by simp))
  have hx1 : w1.heap[w.heap.size]? = some (.cells #[.int .i64 reps, .slice ad es.length cap, .bool bp, .bool rr, .int .i64 room] 24 (0, 0)) := (hb1.block _ (by simp)).trans (heap_alloc_new w _)
  by_cases hs : 1 ≤ reps ∧ reps ≤ 6 ∧ 1 ≤ room ∧ room ≤ 8
  · obtain ⟨n, rfl⟩ : ∃ n : Nat, reps = n := ⟨reps.toNat, by omega⟩
    have hnk : newOk n room es = (linkAll n noE es).isSome := by unfold newOk; rw [decide_eq_true hs]; simp
    have k0 := blk_cell hx1 0
    have k1 := blk_cell hx1 1
    have k2 := blk_cell hx1 2
    have k3 := blk_cell hx1 3
    have k4 := blk_cell hx1 4
    simp at k0 k1 k2 k3 k4
    rw [decide_eq_true hs]
    clear hb1
    have HX1 : Hid (w1.heap[w.heap.size]? = some (.cells #[.int .i64 n, .slice ad es.length cap, .bool bp, .bool rr, .int .i64 room] 24 (0, 0))) := hx1
    clear hx1
    go_wp2_with fail
    refine (link_any _ es n w1 (HE.out.below hbw1) (by omega) hlen).mono ?_
    rintro e w2 ⟨rfl, hb2⟩
    have hl1 := blk_lt HX1.out
    have HX2 : Hid (w2.heap[w.heap.size]? = some (.cells #[.int .i64 n, .slice ad es.length cap, .bool bp, .bool rr, .int .i64 room] 24 (0, 0))) := (hb2.block _ hl1).trans HX1.out
    have hbw2 : Below w.heap.size w w2 := hbw1.trans (hb2.mono hbw1.size)
    clear k0 k1 k2 k3 k4 HX1 hb2
    have hz := heap_alloc_new w2 (.cells (linkB noE).toArray 104)
    generalize hlk : linkAll n noE es = lk at *
    generalize hF : lk.getD noE = F at *
    go_upto_if 20 with (refine wpList_store_row rfl 104 _ _ rfl w2.heap.size (linkB F).toArray rfl rfl _ _ hz (linkI F) rfl (linkB_one F) ?_)
    have hb3 : Below w2.heap.size w2 ((w2.alloc (.cells (linkB noE).toArray 104)).setRow w2.heap.size (linkB F).toArray) := (LinkAt.over (w := w2) hz ((Below.refl _ w2).alloc (Nat.le_refl _) _) F).2
    have hL3 : LinkAt ((w2.alloc (.cells (linkB noE).toArray 104)).setRow w2.heap.size (linkB F).toArray) w2.heap.size F := (LinkAt.over (w := w2) hz ((Below.refl _ w2).alloc (Nat.le_refl _) _) F).1
    obtain ⟨w3, hw3⟩ : ∃ w3 : World, w3 = (w2.alloc (.cells (linkB noE).toArray 104)).setRow w2.heap.size (linkB F).toArray := ⟨_, rfl⟩
    have hsame : ∀ W : World, W = (w2.alloc (.cells (linkB noE).toArray 104)).setRow w2.heap.size (linkB F).toArray → W = w3 := fun W h => h.trans hw3.symm
    rw [← hw3] at hb3 hL3
    change Code.wp _ _ _ _ ((w2.alloc (.cells (linkB noE).toArray 104)).setRow w2.heap.size (linkB F).toArray)
    rw [← hw3]
    clear hw3 hsame hz
    have HB3 : Hid (Below w.heap.size w w3) := hbw2.trans (hb3.mono hbw2.size)
    have HX3 : Hid (w3.heap[w.heap.size]? = some (.cells #[.int .i64 n, .slice ad es.length cap, .bool bp, .bool rr, .int .i64 room] 24 (0, 0))) := (hb3.block _ (blk_lt HX2.out)).trans HX2.out
    have HL3 : Hid (LinkAt w3 w2.heap.size F) := hL3
    clear hb3 hL3 hbw1 hbw2 HX2
    cases lk with
    | none =>
      go_wp2
      go_ret2
      exact ⟨HB3.out, .inl ⟨hnk, rfl⟩⟩
    | some f =>
      go_upto_region 6 with fail
      go_cut [6] from 8 (fun s6 wc => ∃ x R : Nat, s6 = .pointer (some ⟨x, 0, none⟩) ∧ Hid (MadeP w wc x R n bp rr room F))
      case first =>
        have k0 := blk_cell HX3.out 0
        have k1 := blk_cell HX3.out 1
        have k2 := blk_cell HX3.out 2
        have k3 := blk_cell HX3.out 3
        have k4 := blk_cell HX3.out 4
        simp at k0 k1 k2 k3 k4
        have hrg : w3.rangeAt w2.heap.size 0 [.bool (F 0 0), .bool (F 0 1), .bool (F 0 2), .bool (F 0 3), .bool (F 0 4), .bool (F 0 5), .bool (F 1 0), .bool (F 1 1), .bool (F 1 2), .bool (F 1 3), .bool (F 1 4), .bool (F 1 5), .bool (F 2 0), .bool (F 2 1), .bool (F 2 2), .bool (F 2 3), .bool (F 2 4), .bool (F 2 5), .bool (F 3 0), .bool (F 3 1), .bool (F 3 2), .bool (F 3 3), .bool (F 3 4), .bool (F 3 5), .bool (F 4 0), .bool (F 4 1), .bool (F 4 2), .bool (F 4 3), .bool (F 4 4), .bool (F 4 5), .bool (F 5 0), .bool (F 5 1), .bool (F 5 2), .bool (F 5 3), .bool (F 5 4), .bool (F 5 5)] := by
          intro j u hu
          have hj : j < 36 := (List.getElem?_eq_some_iff.1 hu).1
          rw [Nat.zero_add, HL3.out.cell j hj, ← linkB_get F j hj, List.getElem?_toArray]
          exact hu
        have hmk := fun W => make_reps n (by omega) W
        refine wp_region_held_drew (S := fun w' => w'.cell? ⟨w.heap.size, 0, none⟩ = some (.int .i64 n) ∧ w'.cell? ⟨w.heap.size, 2, none⟩ = some (.bool bp) ∧ w'.cell? ⟨w.heap.size, 3, none⟩ = some (.bool rr) ∧ w'.cell? ⟨w.heap.size, 4, none⟩ = some (.int .i64 room) ∧ w'.rangeAt w2.heap.size 0 [.bool (F 0 0), .bool (F 0 1), .bool (F 0 2), .bool (F 0 3), .bool (F 0 4), .bool (F 0 5), .bool (F 1 0), .bool (F 1 1), .bool (F 1 2), .bool (F 1 3), .bool (F 1 4), .bool (F 1 5), .bool (F 2 0), .bool (F 2 1), .bool (F 2 2), .bool (F 2 3), .bool (F 2 4), .bool (F 2 5), .bool (F 3 0), .bool (F 3 1), .bool (F 3 2), .bool (F 3 3), .bool (F 3 4), .bool (F 3 5), .bool (F 4 0), .bool (F 4 1), .bool (F 4 2), .bool (F 4 3), .bool (F 4 4), .bool (F 4 5), .bool (F 5 0), .bool (F 5 1), .bool (F 5 2), .bool (F 5 3), .bool (F 5 4), .bool (F 5 5)]) (by kernel_rfl) ⟨by simpa using k0, by simpa using k2, by simpa using k3, by simpa using k4, by simpa using hrg⟩ (fun hHeld => ?_)
        refine wpAnyH_take (i := 0) (oi := _) (v := ?_) rfl (by kernel_rfl) (by kernel_rfl) (by kernel_rfl) (fun _ _ _ h => h) (Or.inl ⟨by rfl, ?_⟩) (by assumption) ?_
        rotate_left
        · intro w hSw
          try dsimp only at hSw
          go_simp <;> with_reducible rfl
        simp only [Act.put, List.setIfInBounds_toArray]
        refine wpAnyH_take (i := 1) (oi := _) (v := ?_) rfl (by kernel_rfl) (by kernel_rfl) (by kernel_rfl) (fun _ _ _ h => h) (Or.inl ⟨by rfl, ?_⟩) (by assumption) ?_
        rotate_left
        · intro w hSw
          try dsimp only at hSw
          go_simp <;> with_reducible rfl
        simp only [Act.put]
        refine wpAnyH_take (i := 2) (oi := _) (v := ?_) rfl (by kernel_rfl) (by kernel_rfl) (by kernel_rfl) (fun _ _ _ h => h) (Or.inl ⟨by rfl, ?_⟩) (by assumption) ?_
        rotate_left
        · intro w hSw
          try dsimp only at hSw
          go_simp <;> with_reducible rfl
        simp only [Act.put]
        refine wpAnyH_take (i := 3) (oi := _) (v := ?_) rfl (by kernel_rfl) (by kernel_rfl) (by kernel_rfl) (fun _ _ _ h => h) (Or.inl ⟨by rfl, ?_⟩) (by assumption) ?_
        rotate_left
        · intro w hSw
          try dsimp only at hSw
          go_simp <;> with_reducible rfl
        simp only [Act.put]
        refine wpAnyH_take (i := 4) (oi := _) (v := ?_) rfl (by kernel_rfl) (by kernel_rfl) (by kernel_rfl) (fun _ _ _ h => h) (Or.inl ⟨by rfl, ?_⟩) (by assumption) ?_
        rotate_left
        · intro w hSw
          try dsimp only at hSw
          go_simp <;> with_reducible rfl
        simp only [Act.put]
        refine wpAnyH_take (i := 5) (oi := _) (v := ?_) rfl (by kernel_rfl) (by kernel_rfl) (by kernel_rfl) (fun _ _ _ h => h) (Or.inl ⟨by rfl, ?_⟩) (by assumption) ?_
        rotate_left
        · intro w hSw
          try dsimp only at hSw
          go_simp <;> with_reducible rfl
        simp only [Act.put]
        refine' wpAnyH_take (i := 6) (oi := _) (v := _) rfl (by kernel_rfl) (by kernel_rfl) (by kernel_rfl) (fun _ _ _ h => h) (yieldsIf_load_mid (by rfl) _ _ rfl _ _ rfl [.bool (F 0 0), .bool (F 0 1), .bool (F 0 2), .bool (F 0 3), .bool (F 0 4), .bool (F 0 5), .bool (F 1 0), .bool (F 1 1), .bool (F 1 2), .bool (F 1 3), .bool (F 1 4), .bool (F 1 5), .bool (F 2 0), .bool (F 2 1), .bool (F 2 2), .bool (F 2 3), .bool (F 2 4), .bool (F 2 5), .bool (F 3 0), .bool (F 3 1), .bool (F 3 2), .bool (F 3 3), .bool (F 3 4), .bool (F 3 5), .bool (F 4 0), .bool (F 4 1), .bool (F 4 2), .bool (F 4 3), .bool (F 4 4), .bool (F 4 5), .bool (F 5 0), .bool (F 5 1), .bool (F 5 2), .bool (F 5 3), .bool (F 5 4), .bool (F 5 5)] _ (fun w hSw => hSw.2.2.2.2) Tryz.underlying104 rfl infoLinks) (by assumption) ?_
        simp only [Act.put]
        refine wpAnyH_take (i := 7) (oi := _) (v := ?_) rfl (by kernel_rfl) (by kernel_rfl) (by kernel_rfl) (fun _ _ _ h => h) (Or.inl ⟨by rfl, ?_⟩) (by assumption) ?_
        rotate_left
        · intro w hSw
          try dsimp only at hSw
          go_simp <;> with_reducible rfl
        simp only [Act.put]
        refine wpAnyH_take (i := 8) (oi := _) (v := ?_) rfl (by kernel_rfl) (by kernel_rfl) (by kernel_rfl) (fun _ _ _ h => h) (Or.inl ⟨by rfl, ?_⟩) (by assumption) ?_
        rotate_left
        · intro w hSw
          try dsimp only at hSw
          go_simp <;> with_reducible rfl
        simp only [Act.put]
        refine wpAnyH_ready (rs := [9]) (by kernel_rfl) (by simp) ?_
        refine AllReadyH.cons (o := _) rfl (fun K hK => ?_) AllReadyH.nil
        go_simp
        refine hK.out _ _ ?_ (fun hHeld => ?_)
        · exact ⟨cellKeepA k0 _, cellKeepA k2 _, cellKeepA k3 _, cellKeepA k4 _, World.rangeAt_alloc hrg _⟩
        clear hK K
        refine wpAnyH_take (i := 10) (oi := _) (v := ?_) rfl (by kernel_rfl) (by kernel_rfl) (by kernel_rfl) (fun _ _ _ h => h) (Or.inl ⟨by rfl, ?_⟩) (by assumption) ?_
        rotate_left
        · intro w hSw
          try dsimp only at hSw
          go_simp <;> with_reducible rfl
        simp only [Act.put, List.setIfInBounds_toArray]
        refine wpAnyH_ready (rs := [11]) (by kernel_rfl) (by simp) ?_
        refine AllReadyH.cons (o := _) rfl (fun K hK => ?_) AllReadyH.nil
        go_simp
        refine hK.out _ _ ?_ (fun hHeld => ?_)
        · exact ⟨cellKeepA (cellKeepA k0 _) _, cellKeepA (cellKeepA k2 _) _, cellKeepA (cellKeepA k3 _) _, cellKeepA (cellKeepA k4 _) _, World.rangeAt_alloc (World.rangeAt_alloc hrg _) _⟩
        clear hK K
        refine wpAnyH_take (i := 12) (oi := _) (v := ?_) rfl (by kernel_rfl) (by kernel_rfl) (by kernel_rfl) (fun _ _ _ h => h) (Or.inl ⟨by rfl, ?_⟩) (by assumption) ?_
        rotate_left
        · intro w hSw
          try dsimp only at hSw
          go_simp <;> with_reducible rfl
        simp only [Act.put, List.setIfInBounds_toArray]
        refine wpAnyH_done (by kernel_rfl) ?_ _
        go_wp2
        go_meet
        case rel =>
          have h2 := two_blocks w3 (.cells (zeros n).toArray 126) (.cells (clB bp rr room F w3.heap.size n).toArray 108)
          have hsz := HB3.out.size
          exact ⟨w3.heap.size + 1, w3.heap.size, rfl, (below_alloc (below_alloc HB3.out _) _).drew, h2.1, h2.2, by omega, hsz⟩
      case rest =>
        obtain ⟨x, R, rfl, hmade⟩ := hcut
        have c41 : wc.cell? ⟨x, 41, none⟩ = some (.slice (some ⟨R, 0, none⟩) n n) := (blk_cell hmade.out.bx 41).trans rfl
        clear HX3 HL3 HB3
        go_wp2
        have HS : Hid (FillQ w wc x R n 0 bp rr room F) := hmade.out.startQ
        clear hmade c41
        go_loopw [7, 38] (fun _ s wr => ∃ j : Nat, j ≤ n ∧ s = .int .i64 j ∧ Hid (FillQ w wr x R n j bp rr room F)) (fun _ s _ => n - (intOf s).toNat)
        case atStart => exact ⟨0, Nat.zero_le _, rfl, HS⟩
        case round =>
          clear HS
          obtain ⟨j, hj, rfl, hst⟩ := hrel
          by_cases hl : j < n
          · have q1 : (j : Int) < (n : Int) := by omega
            have q2 : (0 : Int) ≤ (j : Int) := by omega
            have c41 : wr.cell? ⟨x, 41, none⟩ = some (.slice (some ⟨R, 0, none⟩) n n) := (blk_cell hst.out.bx 41).trans rfl
            have ht : (wr.alloc (.map #[] 0)).there R (j * 14) 14 := World.there_alloc (hst.out.th j hl) _
            have HN := Hid.mk (hst.out.stepQ hl)
            have hmm := @run_makeMap Tryz.prog
            obtain ⟨v0, c0⟩ := Option.isSome_iff_exists.1 (ht 0 (by decide)).1
            have f0 := (ht 0 (by decide)).2
            obtain ⟨v1, c1⟩ := Option.isSome_iff_exists.1 (ht 1 (by decide)).1
            have f1 := (ht 1 (by decide)).2
            obtain ⟨v2, c2⟩ := Option.isSome_iff_exists.1 (ht 2 (by decide)).1
            have f2 := (ht 2 (by decide)).2
            obtain ⟨v3, c3⟩ := Option.isSome_iff_exists.1 (ht 3 (by decide)).1
            have f3 := (ht 3 (by decide)).2
            obtain ⟨v4, c4⟩ := Option.isSome_iff_exists.1 (ht 4 (by decide)).1
            have f4 := (ht 4 (by decide)).2
            obtain ⟨v5, c5⟩ := Option.isSome_iff_exists.1 (ht 5 (by decide)).1
            have f5 := (ht 5 (by decide)).2
            obtain ⟨v6, c6⟩ := Option.isSome_iff_exists.1 (ht 6 (by decide)).1
            have f6 := (ht 6 (by decide)).2
            obtain ⟨v7, c7⟩ := Option.isSome_iff_exists.1 (ht 7 (by decide)).1
            have f7 := (ht 7 (by decide)).2
            obtain ⟨v8, c8⟩ := Option.isSome_iff_exists.1 (ht 8 (by decide)).1
            have f8 := (ht 8 (by decide)).2
            obtain ⟨v9, c9⟩ := Option.isSome_iff_exists.1 (ht 9 (by decide)).1
            have f9 := (ht 9 (by decide)).2
            obtain ⟨v10, c10⟩ := Option.isSome_iff_exists.1 (ht 10 (by decide)).1
            have f10 := (ht 10 (by decide)).2
            obtain ⟨v11, c11⟩ := Option.isSome_iff_exists.1 (ht 11 (by decide)).1
            have f11 := (ht 11 (by decide)).2
            obtain ⟨v12, c12⟩ := Option.isSome_iff_exists.1 (ht 12 (by decide)).1
            have f12 := (ht 12 (by decide)).2
            obtain ⟨v13, c13⟩ := Option.isSome_iff_exists.1 (ht 13 (by decide)).1
            have f13 := (ht 13 (by decide)).2
            rw [Nat.add_zero] at c0 f0
            clear ht hst
            go_wp2
            exact ⟨⟨j + 1, by omega, by go_num, HN.out⟩, by simp [intOf]; omega⟩
          · obtain rfl : j = n := by omega
            have q1 : ¬ (j : Int) < (j : Int) := by omega
            go_wp2
            go_ret2
            have hff : f = F := hF
            have hQ : FillQ w wr x R j j bp rr room f := by rw [hff]; exact hst.out
            exact ⟨hQ.bel, x, by rfl, R, hQ⟩
  · have hnk : newOk reps room es = false := by unfold newOk; rw [decide_eq_false hs]; rfl
    rw [decide_eq_false hs]
    clear hb1 hx1
    go_wp2
    go_ret2
    exact ⟨hbw1, .inl ⟨hnk, rfl⟩⟩
end Go.Proofs.YtahdlejgjcjeoabGreatDoor

namespace Go.Proofs.YtahdlejgjcjeoabGreatDoor
open Go.RowKit

def newP (m : Nat) : PrD := ⟨true, 0, 0, m, 0, noMap, .slice none 0 0, [], fun _ => 0, .slice none 0 0, [], 0, 0⟩
theorem newP_cells (m : Nat) : (newP m).cells = rec14 m := rfl
def newPcol (col : Col) (o B x R n : Nat) (ms : Nat → Nat) : Col := fun q =>
  if q < B then col q else if q = x then (o, 0) else if q = R then (o, 2) else match (List.range n).find? (fun i => ms i == q) with | some i => (o, 10 + i) | none => (o, 9)

theorem FillQ.prgAt {w wc : World} {x R n : Nat} {bp rr : Bool} {room : Int} {F : Nat → Nat → Bool} (h : FillQ w wc x R n n bp rr room F) (hroom : 0 ≤ room) (col : Col) (o : Nat) :
    ∃ K col', PrgAt wc col' o x K (clu0 room.toNat bp rr n F) ∧ ∀ S, FrC S col col' w wc := by
  obtain ⟨ms, hm, hlt⟩ := h.ms
  obtain ⟨cur, hcur, hsz⟩ := h.bR
  have hinj : ∀ i j, i < n → j < n → ms i = ms j → i = j := fun i j hi hj e => by
    rcases Nat.lt_trichotomy i j with h1 | h1 | h1
    · have := hlt i j h1 hj; omega
    · exact h1
    · have := hlt j i h1 hi; omega
  have cX : newPcol col o w.heap.size x R n ms x = (o, 0) := by
    unfold newPcol
    rw [if_neg (by have := h.hx; omega), if_pos rfl]
  have cR : newPcol col o w.heap.size x R n ms R = (o, 2) := by
    unfold newPcol
    rw [if_neg (by have := h.hR; omega), if_neg (fun e => h.xR e.symm), if_pos rfl]
  have cM : ∀ i, i < n → newPcol col o w.heap.size x R n ms (ms i) = (o, 10 + i) := fun i hi => by
    obtain ⟨_, _, g3, g4, g5⟩ := hm i hi
    unfold newPcol
    rw [if_neg (by omega), if_neg g3, if_neg g4]
    have hf : (List.range n).find? (fun j => ms j == ms i) = some i := by
      rw [List.find?_eq_some_iff_append]
      refine ⟨by simp, List.range i, (List.range (n - i - 1)).map (· + (i + 1)), ?_, fun a ha => ?_⟩
      · apply List.ext_getElem
        · simp; omega
        · intro k k1 k2
          simp only [List.length_range] at k1
          rcases Nat.lt_trichotomy k i with e | e | e
          · rw [List.getElem_append_left (by simp; omega)]; simp
          · subst e
            rw [List.getElem_append_right (by simp)]; simp
          · rw [List.getElem_append_right (by simp; omega)]
            simp only [List.length_range, List.getElem_range]
            obtain ⟨d, hd⟩ : ∃ d, k - i = d + 1 := ⟨k - i - 1, by omega⟩
            simp only [hd, List.getElem_cons_succ, List.getElem_map, List.getElem_range]
            omega
      · simp only [List.mem_range] at ha
        simp only [Bool.not_eq_true', beq_eq_false_iff_ne]
        exact fun e => by have := hinj a i (by omega) hi e; omega
    rw [hf]
  refine ⟨⟨0, bp, rr, room.toNat, F, R, .slice none 0 0, (List.range n).map fun i => newP (ms i), []⟩, newPcol col o w.heap.size x R n ms, ⟨?_, ?_, ?_⟩, fun S => ⟨⟨h.bel.os, h.bel.tape, h.bel.output, h.bel.size, fun q hq _ => h.bel.block q hq⟩, fun q hq => by unfold newPcol; rw [if_pos hq]⟩⟩
  · exact {
      blk := by
        rw [h.bx]
        have e : ((room.toNat : Nat) : Int) = room := by omega
        simp [clB, PrK.block, e]
      cx := cX
      row := by
        show wc.heap[R]? = some (.cells (((List.range n).map fun i => newP (ms i)).flatMap PrD.cells).toArray _ _)
        rw [hcur]
        congr 2
        have hl : (((List.range n).map fun i => newP (ms i)).flatMap PrD.cells).length = n * 14 := by rw [flatMap_len PrD.cells 14 PrD.cells_length]; simp
        apply Array.ext_getElem?
        intro k
        by_cases hk : k < n * 14
        · have hi : k / 14 < n := Nat.div_lt_of_lt_mul (by omega)
          have hj : k % 14 < 14 := Nat.mod_lt _ (by omega)
          have hkk : k / 14 * 14 + k % 14 = k := by omega
          obtain ⟨g1, _⟩ := hm (k / 14) hi
          have hl14 : k % 14 < (rec14 (ms (k / 14))).length := hj
          have hc := g1 (k % 14) _ (List.getElem?_eq_getElem hl14)
          rw [hkk, blk_cell hcur] at hc
          rw [hc, List.getElem?_toArray]
          have := flatMap_get PrD.cells 14 PrD.cells_length ((List.range n).map fun i => newP (ms i)) (k / 14) (k % 14) (by simpa using hi) hj
          rw [hkk] at this
          rw [this]
          simp only [List.getElem_map, List.getElem_range, newP_cells]
          rw [List.getElem?_eq_getElem hl14]
        · rw [Array.getElem?_eq_none (by omega), Array.getElem?_eq_none (by rw [List.size_toArray]; omega)]
      cR := cR
      net := rowC_nil _ _ _ _ _
      netd := fun f hf => by cases hf
      reps := fun i hi _ => by
        have hi' : i < n := by simpa using hi
        have e : ((List.range n).map fun i => newP (ms i))[i] = newP (ms i) := by simp
        show PrRep wc _ o i (((List.range n).map fun i => newP (ms i))[i])
        rw [e]
        exact ⟨(hm i hi').2.1, cM i hi', rowC_nil _ _ _ _ _, (fun e he => by cases he), rowC_nil _ _ _ _ _⟩ }
  · exact {
      lk := rfl
      bp := rfl
      rr := rfl
      room := rfl
      near := fun _ _ _ _ => rfl
      len := by simp [clu0]
      nets := rfl
      reps := fun i hi => by
        have hi' : i < n := by simpa using hi
        have e : ((List.range n).map fun i => newP (ms i))[i] = newP (ms i) := by simp
        have e2 : (clu0 room.toNat bp rr n F).rep i = rep0 n := by simp [Clu.rep, clu0, hi']
        show (((List.range n).map fun i => newP (ms i))[i]).is _
        rw [e, e2]
        refine ⟨rfl, rfl, rfl, rfl, rfl, fun q hq => ?_, rfl, rfl, rfl⟩
        simp only [newP, rep0, List.getD, List.getElem?_replicate]
        split <;> rfl }
  · intro i hi
    have hi' : i < n := by simpa using hi
    have e : ((List.range n).map fun i => newP (ms i))[i] = newP (ms i) := by simp
    show (((List.range n).map fun i => newP (ms i))[i]).n ≤ _
    rw [e]
    exact Nat.zero_le _
end Go.Proofs.YtahdlejgjcjeoabGreatDoor

namespace Go.Proofs.YtahdlejgjcjeoabGreatDoor
open Go.RowKit

/-- Is there an edge between two? -/
def nearE (es : List (Int × Int)) (a b : Int) : Bool := es.any fun e => decide ((e.1 = a ∧ e.2 = b) ∨ (e.1 = b ∧ e.2 = a))
theorem linkAll_near {n : Nat} : ∀ (l : List (Int × Int)) (f F : Nat → Nat → Bool), linkAll n f l = some F → ∀ i j : Nat, F i j = (f i j || nearE l i j)
  | [], f, F, h, i, j => by
    rw [linkAll] at h
    cases h
    simp [nearE]
  | p :: l, f, F, h, i, j => by
    rw [linkAll] at h
    split at h
    · rename_i he
      unfold edgeOk at he
      simp only [Bool.and_eq_true, decide_eq_true_eq] at he
      rw [linkAll_near l _ F h i j]
      unfold addE nearE
      rw [List.any_cons, ← Bool.or_assoc]
      congr 1
      rw [Bool.or_assoc]
      congr 1
      rw [Bool.eq_iff_iff]
      simp only [Bool.or_eq_true, Bool.and_eq_true, decide_eq_true_eq]
      omega
    · cases h
section
variable {Z : Snap} {w w' : World} {P x N : Nat} {g : Cf} {c : Clu} {D : List Bool} {L : List (List At)} {U : List At} {es : List (Int × Int)}

end
end Go.Proofs.YtahdlejgjcjeoabGreatDoor

namespace Go.Proofs.YtahdlejgjcjeoabGreatDoor

end Go.Proofs.YtahdlejgjcjeoabGreatDoor

namespace Go.Proofs.YtahdlejgjcjeoabGreatDoor
open Go.RowKit
/-- Where a play stands. -/
structure Pg (Z : Snap) (w : World) (P x : Nat) (g : Cf) (es : List (Int × Int)) (U : List At) (N : Nat) (c : Clu) : Prop where
  pm : ∃ D, (∃ L, Pm Z w P x g c D L) ∧ Tells c D
  ok : c.ok U N
  inv : c.inv
  far : c.far
  nr : ∀ i j : Nat, c.near i j = nearE es i j
  ed : (∀ W c' D' L', Pm Z W P x g c' D' L' → EdgesOf W g.ev es) ∧ es.length ≤ 1048576
section
variable {Z : Snap} {w w' : World} {P x N : Nat} {g : Cf} {c : Clu} {U : List At} {es : List (Int × Int)}
theorem Pg.len (h : Pg Z w P x g es U N c) : c.reps.length = g.n := by
  obtain ⟨D, ⟨L, hp⟩, -⟩ := h.pm
  exact hp.len
theorem Pg.same (h : Pg Z w P x g es U N c) (hb : Below w.heap.size w w') : Pg Z w' P x g es U N c := by
  obtain ⟨D, ⟨L, hp⟩, ht⟩ := h.pm
  exact ⟨⟨D, ⟨L, hp.same hb⟩, ht⟩, h.ok, h.inv, h.far, h.nr, h.ed⟩
end
end Go.Proofs.YtahdlejgjcjeoabGreatDoor

namespace Go.Proofs.YtahdlejgjcjeoabGreatDoor
open Go.RowKit
section
variable {Z : Snap} {w w' : World} {P x N : Nat} {g : Cf} {c : Clu} {U : List At} {es : List (Int × Int)}

end
end Go.Proofs.YtahdlejgjcjeoabGreatDoor

namespace Go.Proofs.YtahdlejgjcjeoabGreatDoor
open Go.RowKit
theorem near_update (c : Clu) (r : Int) (o : OpV) : (c.update r o).near = c.near := by unfold Clu.update; split <;> rfl
theorem near_torn (c : Clu) (r : Int) (o : OpV) (k : Int) : (c.tornOp r o k).near = c.near := by unfold Clu.tornOp; split <;> rfl
theorem near_start (c : Clu) (r : Int) : (c.start r).near = c.near := by unfold Clu.start; split <;> rfl
theorem near_crash (c : Clu) (r : Int) : (c.crash r).near = c.near := by unfold Clu.crash; split <;> rfl
section
variable {Z : Snap} {w w' : World} {P x N : Nat} {g : Cf} {c : Clu} {U : List At} {es : List (Int × Int)}
end
end Go.Proofs.YtahdlejgjcjeoabGreatDoor

namespace Go.Proofs.YtahdlejgjcjeoabGreatDoor
open Go.RowKit
theorem newOk_nums {n : Nat} {rm : Int} {es : List (Int × Int)} (h : newOk n rm es = true) : 1 ≤ n ∧ n ≤ 6 ∧ 1 ≤ rm ∧ rm ≤ 8 := by
  unfold newOk at h
  simp only [Bool.and_eq_true, decide_eq_true_eq] at h
  omega
theorem linkAll_beyond {n : Nat} : ∀ (l : List (Int × Int)) (f F : Nat → Nat → Bool), (∀ i j, n ≤ j → f i j = false) → linkAll n f l = some F → ∀ i j, n ≤ j → F i j = false
  | [], f, F, hf, h => by
    rw [linkAll] at h
    cases h
    exact hf
  | p :: l, f, F, hf, h => by
    rw [linkAll] at h
    split at h
    · rename_i he
      refine linkAll_beyond l _ F (fun i j hj => ?_) h
      unfold edgeOk at he
      simp only [Bool.and_eq_true, decide_eq_true_eq] at he
      unfold addE
      rw [hf i j hj]
      have h1 : ¬ j = p.2.toNat := by omega
      have h2 : ¬ j = p.1.toNat := by omega
      simp [h1, h2]
    · cases h
theorem clu0_rep {room n : Nat} (bp rr : Bool) (f : Nat → Nat → Bool) {r : Nat} (hr : r < n) : (clu0 room bp rr n f).rep r = rep0 n := by
  unfold Clu.rep clu0
  rw [List.getD_eq_getElem?_getD, List.getElem?_replicate, if_pos hr]
  rfl
theorem owns_block {w : World} {g n : Nat} {e : TypeId} {l : List Value} (h : w.heap[g]? = some (.cells l.toArray e (0, 0))) (hl : l.length = n) (hn : n ≤ maxLen) : w.ownsRow 0 e 1 (.slice (some ⟨g, 0, none⟩) n n) n l :=
  ⟨by omega, .inr ⟨g, n, l.toArray, rfl, Nat.zero_le _, h, Nat.le_refl _, hn, by simp [hl], by simp [← hl]⟩⟩
def plCol (c5 : Col) (s d h : Nat) : Col := fun q => if q < s then c5 q else if q = d then (4, 1) else if q = h then (4, 2) else (4, 0)
/-- The Player, made. -/
theorem pst_new {w w0 w1 w2 : World} {x R n d h P : Nat} {bp rr : Bool} {room : Int} {F : Nat → Nat → Bool} {ev : Value} {es : List (Int × Int)} (hr : RulesAt w) (hs : StepsAt w) (hb0 : Below w.heap.size w w0) (hQ : FillQ w0 w1 x R n n bp rr room F) (hroom : 1 ≤ room ∧ room ≤ 8) (hn : 1 ≤ n ∧ n ≤ 6) (hb2 : Below w1.heap.size w1 w2)
    (hd : w2.heap[d]? = some (.cells (Array.replicate n (Value.bool false)) 4 (0, 0))) (hh : w2.heap[h]? = some (.cells (Array.replicate n (Value.slice none 0 0)) 53 (0, 0)))
    (hP : w2.heap[P]? = some (.cells #[.pointer (some ⟨x, 0, none⟩), .int .i64 n, ev, .bool bp, .bool rr, .int .i64 room, .slice (some ⟨d, 0, none⟩) n n, .slice (some ⟨h, 0, none⟩) n n] 47 (0, 0)))
    (gd : w1.heap.size ≤ d) (gh : w1.heap.size ≤ h) (gP : w1.heap.size ≤ P) (dh : d ≠ h) (dP : P ≠ d) (hP' : P ≠ h) (hF : linkAll n noE es = some F) (hev : EdgesOf w ev es) (hel : es.length ≤ 1048576) :
    Pg (Snap.all w) w2 P x ⟨n, ev, room, bp, rr⟩ es [] 0 (clu0 room.toNat bp rr n F) := by
  obtain ⟨KP, c5, hp5, hf5⟩ := hQ.prgAt (by omega : 0 ≤ room) (fun _ => (0, 0)) 2
  have hb1 : Below w.heap.size w w1 := hb0.trans (hQ.bel.mono hb0.size)
  have hbw : Below w.heap.size w w2 := hb1.trans (hb2.mono hb1.size)
  have s1 := hb1.size
  have f12 : FrC (fun _ => False) c5 (plCol c5 w1.heap.size d h) w1 w2 := ⟨(Fr.refl _ w1).below hb2, fun q hq => if_pos hq⟩
  have cO : ∀ q, q < w.heap.size → plCol c5 w1.heap.size d h q = (0, 0) := fun q hq => by
    have h0 := hb0.size
    rw [f12.col q (by omega), (hf5 (fun _ => False)).col q (by omega)]
  have cd : plCol c5 w1.heap.size d h d = (4, 1) := by
    unfold plCol
    rw [if_neg (by omega), if_pos rfl]
  have ch : plCol c5 w1.heap.size d h h = (4, 2) := by
    unfold plCol
    rw [if_neg (by omega), if_neg (fun e => dh e.symm), if_pos rfl]
  have cP : plCol c5 w1.heap.size d h P = (4, 0) := by
    unfold plCol
    rw [if_neg (by omega), if_neg dP, if_neg hP']
  have hl : (clu0 room.toNat bp rr n F).reps.length = n := by simp [clu0]
  have hml : n ≤ maxLen := by unfold maxLen; omega
  have hst : PSt (Snap.all w) w2 (plCol c5 w1.heap.size d h) P x ⟨n, ev, room, bp, rr⟩ KP (clu0 room.toNat bp rr n F) (.slice (some ⟨d, 0, none⟩) n n) (.slice (some ⟨h, 0, none⟩) n n) (List.replicate n false) (List.replicate n (Value.slice none 0 0, [])) := {
    old := old_all hbw (fun q hq => by rw [cO q hq])
    tab := ⟨hr.block (hbw.block 1 hr.1) hbw.size, hs.block (hbw.block 0 hs.1) hbw.size, cO 1 hr.1, cO 0 hs.1⟩
    prg := hp5.kept f12 (fun _ => id)
    len := hl
    lD := by simp
    lH := by simp
    blk := hP
    cP := cP
    dn := by
      rw [List.map_replicate]
      exact ⟨owns_block (by rw [List.toArray_replicate]; exact hd) (by simp) hml, fun q hq => by cases hq; exact cd⟩
    hd := by
      rw [List.map_replicate]
      exact ⟨owns_block (by rw [List.toArray_replicate]; exact hh) (by simp) hml, fun q hq => by cases hq; exact ch⟩
    ls := fun e he => by
      rw [List.eq_of_mem_replicate he]
      exact ⟨⟨(4, 3), .inl rfl, held_nil _ _ _⟩, by simp⟩
    lo := fun i hi => by
      rw [List.getElem_replicate]
      exact Lo.nil _ }
  refine ⟨⟨_, ⟨_, _, KP, _, _, _, hst, rfl⟩, fun r hr => ?_⟩, clu0_ok bp rr F hn.1 hn.2 (by omega) (by omega), ⟨_, inv_new _ _ _ _ _⟩, fun i j hj => linkAll_beyond es noE F (fun _ _ _ => rfl) hF i j (by rw [hl] at hj; exact hj), fun i j => ?_, fun W c' D' L' hp => hev.below hp.bel, hel⟩
  · rw [hl] at hr
    rw [clu0_rep bp rr F hr, List.getD_eq_getElem?_getD, List.getElem?_replicate, if_pos hr]
    rfl
  · show F i j = _
    rw [linkAll_near es noE F hF i j]
    rfl
/-- The first Count: of 5. -/
def op5 : OpV := ⟨1, ⟨#[97]⟩, 0, ⟨#[]⟩, 5⟩
theorem fine5 : fineOp op5 = true := by decide
theorem count5 {room n : Nat} {bp rr : Bool} {F : Nat → Nat → Bool} (hn : 1 ≤ n) (_hrm : 1 ≤ room) :
    ((clu0 room bp rr n F).update (0 : Nat) op5).works 0 = 0 ∧ readErr ((clu0 room bp rr n F).update (0 : Nat) op5) 0 1 = 0 ∧ ∀ (m : Int) (es : List ByteArray), ReadSpec (tell (((clu0 room bp rr n F).update (0 : Nat) op5).rep 0).atoms) 1 ⟨#[97]⟩ m es → m = 5 := by
  have hl : (clu0 room bp rr n F).reps.length = n := by simp [clu0]
  have h0 := clu0_rep (room := room) bp rr F (by omega : 0 < n)
  have hat : opAtom ((clu0 room bp rr n F).rep 0).atoms 0 op5 = ⟨1, ⟨#[97]⟩, 0, 0, ⟨#[]⟩, 5⟩ := by rw [h0]; rfl
  have he : (clu0 room bp rr n F).opErr (0 : Nat) op5 = 0 := by
    rw [opErr_of (by omega) fine5, h0, show (rep0 n).atoms = [] from rfl]
    rfl
  have hu := update_rep (c := clu0 room bp rr n F) (r := 0) (o := op5) (by omega) he 0
  rw [if_pos rfl, hat] at hu
  have hlu : ((clu0 room bp rr n F).update (0 : Nat) op5).reps.length = n := by
    unfold Clu.update
    rw [if_pos he, setRep_len, hl]
  have hA : (((clu0 room bp rr n F).update (0 : Nat) op5).rep 0).atoms = [⟨1, ⟨#[97]⟩, 0, 0, ⟨#[]⟩, 5⟩] := by
    rw [hu, take_atoms, h0]
    rfl
  have hd : (((clu0 room bp rr n F).update (0 : Nat) op5).rep 0).down = false := by
    rw [update_down _ _ _ (by omega), h0]
    rfl
  have hw : ((clu0 room bp rr n F).update (0 : Nat) op5).works 0 = 0 := by
    have := works_rep (c := (clu0 room bp rr n F).update (0 : Nat) op5) (r := 0) (by omega)
    rw [hd] at this
    exact this
  have hm : ∀ a ∈ [(⟨1, ⟨#[97]⟩, 0, 0, ⟨#[]⟩, 5⟩ : At)], mayB a = true := fun a ha => by
    rw [List.mem_singleton.1 ha]
    decide
  refine ⟨hw, ?_, fun m es hsp => ?_⟩
  · unfold readErr
    rw [hw]
    have hmt : ∀ a ∈ tell (((clu0 room bp rr n F).update (0 : Nat) op5).rep 0).atoms, mayB a = true := fun a ha => by
      have := ((tell_told _).great a ha).1
      rw [hA] at this
      exact hm a this
    exact readCode_ok hmt (by decide) (by decide)
  · rw [hA] at hsp
    have h1 := (read_is hm (by decide) (by decide) hsp).1
    have h2 := val_sum (A := []) (T := []) (T' := tell [⟨1, ⟨#[97]⟩, 0, 0, ⟨#[]⟩, 5⟩]) (a := ⟨1, ⟨#[97]⟩, 0, 0, ⟨#[]⟩, 5⟩) ⟨List.Pairwise.nil, (fun x hx => by cases hx), (fun x hx => by cases hx)⟩ (tell_told _) hm (.inl rfl) (by decide)
    rw [h1]
    exact h2.trans (by decide)
section
variable {Z : Snap} {w w' : World} {P x N : Nat} {g : Cf} {c : Clu} {U : List At} {es : List (Int × Int)}
theorem Pg.lFirst (h : Pg Z w P x g es [] 0 c) :
    Calls Tryz.prog 55 #[.pointer (some ⟨P, 0, none⟩), .int .i64 0, .agg #[.int .i64 1, .string ⟨#[97]⟩, .int .i64 0, .string ⟨#[]⟩, .int .i64 5]] w fun e w' => e = .returned (.bool true) ∧ Hid (∃ U', Pg Z w' P x g es U' 20 (c.update (0 : Nat) op5) ∧ U'.length ≤ 1) := by
  obtain ⟨D, ⟨L, hp⟩, ht⟩ := h.pm
  have hg1 : 0 < g.n := by rw [← h.len]; exact h.ok.n1
  have hrc : 0 < c.reps.length := by rw [h.len]; exact hg1
  refine (hp.lUpdate h.ok ⟨by omega, by decide⟩ h.inv ht hg1 op5 fine5).mono fun e w' ⟨h1, L', h2⟩ => ?_
  obtain ⟨U', hU, -, hok⟩ := h.ok.update (0 : Nat) op5
  exact ⟨h1, U', ⟨⟨D, ⟨L', h2⟩, ht.same (len_update _ _ _) (update_down c 0 op5 hrc)⟩, hok.later (by omega), (h.inv.update h.ok (0 : Nat) op5).1, far_of h.far (near_update _ _ _) (len_update _ _ _), fun i j => by rw [near_update]; exact h.nr i j, h.ed⟩, hU⟩
theorem Pg.pRead5 {room n : Nat} {bp rr : Bool} {F : Nat → Nat → Bool} (hn : 1 ≤ n) (hrm : 1 ≤ room) (h : Pg Z w P x g es U 20 ((clu0 room bp rr n F).update (0 : Nat) op5)) (hU : U.length ≤ 1) :
    Calls Tryz.prog 56 #[.pointer (some ⟨x, 0, none⟩), .int .i64 0, .int .i64 1, .string ⟨#[97]⟩] w fun e w' => ∃ (ad : Option Addr) (m cp : Nat), e = .returned (.tuple #[.agg #[.int .i64 5, .slice ad m cp], .int .i64 0]) ∧ Below w.heap.size w w' := by
  obtain ⟨D, ⟨L, hp⟩, ht⟩ := h.pm
  obtain ⟨h1, h2, h3⟩ := count5 (room := room) (n := n) (bp := bp) (rr := rr) (F := F) hn hrm
  refine (hp.pRead h.ok ⟨by omega, by omega⟩ 0 1 ⟨#[97]⟩ (by decide)).mono fun e w' ⟨m, ad, cp, es', k1, k2, k3, k4⟩ => ?_
  have k3 := k3.out
  rw [if_pos h1] at k3
  have hm := h3 m es' k3
  subst hm
  rw [h2] at k1
  exact ⟨ad, _, cp, k1, k4⟩
end
theorem three_new (w : World) (o1 o2 o3 : Obj) : Below w.heap.size w (((w.alloc o1).alloc o2).alloc o3).drew ∧ (((w.alloc o1).alloc o2).alloc o3).drew.heap[w.heap.size]? = some o1 ∧ (((w.alloc o1).alloc o2).alloc o3).drew.heap[w.heap.size + 1]? = some o2 ∧ (((w.alloc o1).alloc o2).alloc o3).drew.heap[w.heap.size + 1 + 1]? = some o3 := by
  have h1 := two_blocks w o1 o2
  have h2 := two_blocks (w.alloc o1) o2 o3
  rw [show (w.alloc o1).heap.size = w.heap.size + 1 by simp] at h2
  exact ⟨(below_alloc (below_alloc (below_alloc (Below.refl _ w) _) _) _).drew, (Below.heap_alloc _ _ _ (by simp; omega)).trans h1.2, h2.2, h2.1⟩
end Go.Proofs.YtahdlejgjcjeoabGreatDoor
