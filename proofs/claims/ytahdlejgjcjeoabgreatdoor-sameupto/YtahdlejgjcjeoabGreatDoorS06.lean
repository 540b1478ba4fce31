/- The program's cluster in memory. -/
import Derived.Test.YtahdlejgjcjeoabGreatDoorS04
import Derived.Test.YtahdlejgjcjeoabGreatDoorS05
import Derived.Deep.CutRange
import Derived.Test.YtahdlejgjcjeoabGreatDoorS02
import Derived.Test.YtahdlejgjcjeoabGreatDoorS01
namespace Go.Proofs.YtahdlejgjcjeoabGreatDoor
open Go.RowKit Go.MuLone

/-- A slice of edges. -/
def EdgesOf (w : World) (v : Value) (es : List (Int × Int)) : Prop :=
  ∃ ad cap, v = .slice ad es.length cap ∧ es.length ≤ cap ∧ (0 < es.length → ∃ b off, ad = some ⟨b, off, none⟩ ∧ b < w.heap.size ∧ ∀ i (h : i < es.length), w.cell? ⟨b, off + i * 2, none⟩ = some (.int .i64 es[i].1) ∧ w.cell? ⟨b, off + i * 2 + 1, none⟩ = some (.int .i64 es[i].2))
theorem EdgesOf.below {w w' : World} {v : Value} {es : List (Int × Int)} (h : EdgesOf w v es) (hb : Below w.heap.size w w') : EdgesOf w' v es := by
  obtain ⟨ad, cap, rfl, hc, H⟩ := h
  refine ⟨ad, cap, rfl, hc, fun h0 => ?_⟩
  obtain ⟨b, off, rfl, hlt, hrow⟩ := H h0
  exact ⟨b, off, rfl, Nat.lt_of_lt_of_le hlt hb.size, fun i hi => ⟨(hb.cell (p := ⟨b, _, none⟩) hlt).trans (hrow i hi).1, (hb.cell (p := ⟨b, _, none⟩) hlt).trans (hrow i hi).2⟩⟩

set_option maxRecDepth 100000 in
theorem sizes_any (reps room : Int) (ad : Option Addr) (m cap : Nat) (bp rr : Bool) (w : World) :
    Calls Tryz.prog 53 #[.agg #[.int .i64 reps, .slice ad m cap, .bool bp, .bool rr, .int .i64 room]] w fun e w' => e = .returned (.bool (decide (1 ≤ reps ∧ reps ≤ 6 ∧ 1 ≤ room ∧ room ≤ 8))) ∧ Below w.heap.size w w' := by
  go_enter Tryz.func53, Tryz.ntmps53
  by_cases h1 : 1 ≤ reps
  · by_cases h2 : reps ≤ 6
    · by_cases h3 : 1 ≤ room
      · by_cases h4 : room ≤ 8
        · go_wp2
          go_ret
          exact ⟨ret_bool (by simp [h1, h2, h3, h4]), below_alloc (Below.refl _ _) _⟩
        · go_wp2
          go_ret
          exact ⟨ret_bool (by simp; omega), below_alloc (Below.refl _ _) _⟩
      · go_wp2
        go_ret
        exact ⟨ret_bool (by simp; omega), below_alloc (Below.refl _ _) _⟩
    · go_wp2
      go_ret
      exact ⟨ret_bool (by simp; omega), below_alloc (Below.refl _ _) _⟩
  · go_wp2
    go_ret
    exact ⟨ret_bool (by simp; omega), below_alloc (Below.refl _ _) _⟩

/-- The table of links, as it lies. -/
def linkB (f : Nat → Nat → Bool) : List Value := (List.range 36).map fun k => .bool (f (k / 6) (k % 6))
theorem linkB_get (f : Nat → Nat → Bool) (k : Nat) (hk : k < 36) : (linkB f).toArray[k]? = some (.bool (f (k / 6) (k % 6))) := by
  simp [linkB, hk]
theorem linkB_add (f : Nat → Nat → Bool) (a b : Nat) (ha : a < 6) (hb : b < 6) : ((linkB f).toArray.setIfInBounds (a * 6 + b) (.bool true)).setIfInBounds (b * 6 + a) (.bool true) = (linkB (addE f a b)).toArray := by
  apply Array.ext_getElem?
  intro k
  by_cases hk : k < 36
  · rw [linkB_get _ k hk, Array.getElem?_setIfInBounds]
    have hs : ((linkB f).toArray.setIfInBounds (a * 6 + b) (.bool true)).size = 36 := by simp [linkB]
    have hs0 : (linkB f).toArray.size = 36 := by simp [linkB]
    unfold addE
    by_cases e1 : b * 6 + a = k
    · rw [if_pos e1, if_pos (by omega)]
      have h1 : k / 6 = b := by omega
      have h2 : k % 6 = a := by omega
      simp [h1, h2]
    · rw [if_neg e1, Array.getElem?_setIfInBounds]
      by_cases e2 : a * 6 + b = k
      · rw [if_pos e2, if_pos (by omega)]
        have h1 : k / 6 = a := by omega
        have h2 : k % 6 = b := by omega
        simp [h1, h2]
      · rw [if_neg e2, linkB_get _ k hk]
        have n1 : ¬ (k / 6 = a ∧ k % 6 = b) := by omega
        have n2 : ¬ (k / 6 = b ∧ k % 6 = a) := by omega
        have : (decide (k / 6 = a) && decide (k % 6 = b)) = false := by simpa using n1
        have h3 : (decide (k / 6 = b) && decide (k % 6 = a)) = false := by simpa using n2
        rw [this, h3, Bool.or_false, Bool.or_false]
  · rw [Array.getElem?_eq_none (by simp [linkB]; omega), Array.getElem?_eq_none (by simp [linkB]; omega)]

theorem minmax {a b : Int} : (min a b = a ∧ max a b = b) ∨ (min a b = b ∧ max a b = a) := by omega
/-- The table in its block. -/
def LinkAt (w : World) (g : Nat) (f : Nat → Nat → Bool) : Prop := w.heap[g]? = some (.cells (linkB f).toArray 104 (0, 0))
theorem LinkAt.cell {w : World} {g : Nat} {f : Nat → Nat → Bool} (h : LinkAt w g f) (k : Nat) (hk : k < 36) : w.cell? ⟨g, k, none⟩ = some (.bool (f (k / 6) (k % 6))) := by
  unfold LinkAt at h
  rw [blk_cell h, linkB_get f k hk]

theorem infoLinks : (Tryz.prog.info? 104).map (·.size) = some 36 := by kernel_rfl
theorem linkB_size (f : Nat → Nat → Bool) : (linkB f).toArray.size = 36 := by simp [linkB]
theorem linkB_one (f : Nat → Nat → Bool) : (linkB f).toArray.all (·.oneCell') = true := by
  rw [Array.all_eq_true_iff_forall_mem]
  intro v hv
  simp only [linkB, List.mem_toArray, List.mem_map] at hv
  obtain ⟨k, -, rfl⟩ := hv
  rfl
theorem linkI (f : Nat → Nat → Bool) : (Tryz.prog.info? 104).map (·.size) = some (linkB f).toArray.size := by rw [linkB_size]; exact infoLinks
/-- A table written over from end to end. -/
theorem LinkAt.over {w W : World} {g : Nat} {f : Nat → Nat → Bool} (h : LinkAt W g f) (hb : Below g w W) (f' : Nat → Nat → Bool) : LinkAt (W.setRow g (linkB f').toArray) g f' ∧ Below g w (W.setRow g (linkB f').toArray) := by
  have hlt := blk_lt h
  refine ⟨setRow_heap W g _ _ _ _ h, hb.os, hb.tape, hb.output, by simpa [World.setRow] using hb.size, fun k hk => ?_⟩
  rw [setRow_other W g k _ (by omega)]
  exact hb.block k hk
theorem link_results {W : World} {g : Nat} {f : Nat → Nat → Bool} (h : LinkAt W g f) : (loadVar 104 ⟨g, 0, none⟩).run Tryz.prog W = .ok (.agg (linkB f).toArray) W :=
  run_loadVar_row W g _ _ _ _ _ h Tryz.underlying104 rfl (linkI f)

theorem edge_nat {n : Nat} {f : Nat → Nat → Bool} {ea eb lo hi : Int} (h : edgeOk n f ea eb = true) (hm : (lo = ea ∧ hi = eb) ∨ (lo = eb ∧ hi = ea)) (hl : lo ≤ hi) : ∃ la ha : Nat, lo = la ∧ hi = ha ∧ la < n ∧ ha < n ∧ la ≠ ha ∧ addE f ea.toNat eb.toNat = addE f la ha := by
  unfold edgeOk at h
  simp only [Bool.and_eq_true, decide_eq_true_eq] at h
  obtain ⟨⟨h1, h2, h3, h4, h5⟩, -⟩ := h
  rcases hm with ⟨rfl, rfl⟩ | ⟨rfl, rfl⟩
  · exact ⟨lo.toNat, hi.toNat, by omega, by omega, by omega, by omega, by omega, rfl⟩
  · refine ⟨lo.toNat, hi.toNat, by omega, by omega, by omega, by omega, by omega, ?_⟩
    funext i j
    unfold addE
    rw [Bool.or_assoc, Bool.or_assoc, Bool.or_comm (decide (i = hi.toNat) && _)]
theorem LinkAt.add {w W : World} {g a b : Nat} {f : Nat → Nat → Bool} (h : LinkAt W (g + 1) f) (hz : LinkAt W g noE) (hb : Below g w W) (ha : a < 6) (hb6 : b < 6) :
    LinkAt ((W.setCell ⟨g + 1, a * 6 + b, none⟩ (.bool true)).setCell ⟨g + 1, b * 6 + a, none⟩ (.bool true)) (g + 1) (addE f a b) ∧ LinkAt ((W.setCell ⟨g + 1, a * 6 + b, none⟩ (.bool true)).setCell ⟨g + 1, b * 6 + a, none⟩ (.bool true)) g noE ∧ Below g w ((W.setCell ⟨g + 1, a * 6 + b, none⟩ (.bool true)).setCell ⟨g + 1, b * 6 + a, none⟩ (.bool true)) := by
  have g1 := grown_setCell W ⟨g + 1, a * 6 + b, none⟩ (.bool true)
  have g2 := grown_setCell (W.setCell ⟨g + 1, a * 6 + b, none⟩ (.bool true)) ⟨g + 1, b * 6 + a, none⟩ (.bool true)
  have hlt := blk_lt hz
  have hg := grown_trans g1 g2
  refine ⟨?_, (hg.block g hlt (fun e => by have h0 : g = g + 1 := Option.some.inj e; omega)).trans hz, hb.grown hg (by omega) (fun k hk => by cases hk; exact Nat.le_succ _)⟩
  have := heap_setCell_at (o := b * 6 + a) (heap_setCell_at (o := a * 6 + b) h (.bool true)) (.bool true)
  rw [linkB_add f a b ha hb6] at this
  exact this
theorem results_link {fn : Func} {p q : Tmp} (h : fn.results = #[.cell p 104, .tmp q]) (tmps : Array Value) {W : World} {g : Nat} {f : Nat → Nat → Bool} {v : Value} (hp : tmps.getD p undef = .pointer (some ⟨g, 0, none⟩)) (hq : tmps.getD q undef = v) (hL : LinkAt W g f) :
    (results fn tmps).run Tryz.prog W = .ok (.tuple #[.agg (linkB f).toArray, v]) W := by
  have hp' : tmps[p]?.getD undef = .pointer (some ⟨g, 0, none⟩) := by simpa using hp
  have hq' : tmps[q]?.getD undef = v := by simpa using hq
  simp [results, h, hp', hq', asAddr, link_results hL]

set_option maxRecDepth 100000 in
set_option maxHeartbeats 4000000 in
theorem link_any (v : Value) (es : List (Int × Int)) (n : Nat) (w : World) (hv : EdgesOf w v es) (h6 : n ≤ 6) (hlen : es.length ≤ 1048576) :
    Calls Tryz.prog 54 #[v, .int .i64 n] w fun e w' => e = .returned (.tuple #[.agg (linkB ((linkAll n noE es).getD noE)).toArray, .bool (linkAll n noE es).isSome]) ∧ Below w.heap.size w w' := by
  obtain ⟨ad, cap, rfl, hcap, H⟩ := hv
  have HR : Hid (0 < es.length → ∃ b off, ad = some ⟨b, off, none⟩ ∧ b < w.heap.size ∧ ∀ i (h : i < es.length), w.cell? ⟨b, off + i * 2, none⟩ = some (.int .i64 es[i].1) ∧ w.cell? ⟨b, off + i * 2 + 1, none⟩ = some (.int .i64 es[i].2)) := H
  clear H
  go_enter Tryz.func54, Tryz.ntmps54
  go_wp2
  have hb0 := below_alloc (below_alloc (Below.refl _ w) (.cells (linkB noE).toArray 104)) (.cells (linkB noE).toArray 104)
  have hz0 := (two_blocks w (.cells (linkB noE).toArray 104) (.cells (linkB noE).toArray 104)).1
  have hz1 := (two_blocks w (.cells (linkB noE).toArray 104) (.cells (linkB noE).toArray 104)).2
  have HS : Hid (∃ f, LinkAt ((w.alloc (.cells (linkB noE).toArray 104)).alloc (.cells (linkB noE).toArray 104)) (w.heap.size + 1) f ∧ LinkAt ((w.alloc (.cells (linkB noE).toArray 104)).alloc (.cells (linkB noE).toArray 104)) w.heap.size noE ∧ SymE f ∧ linkAll n f (es.drop 0) = linkAll n noE es ∧ Below w.heap.size w ((w.alloc (.cells (linkB noE).toArray 104)).alloc (.cells (linkB noE).toArray 104))) := ⟨noE, hz0, hz1, symE_none, rfl, hb0⟩
  clear hb0 hz0 hz1
  go_loopw [13] (fun s wr => ∃ j : Nat, j ≤ es.length ∧ s = .int .i64 j ∧ Hid (∃ f, LinkAt wr (w.heap.size + 1) f ∧ LinkAt wr w.heap.size noE ∧ SymE f ∧ linkAll n f (es.drop j) = linkAll n noE es ∧ Below w.heap.size w wr)) (fun s _ => es.length - (intOf s).toNat)
  case atStart => exact ⟨0, Nat.zero_le _, rfl, HS⟩
  case round =>
    clear HS
    obtain ⟨j, hj, rfl, hst⟩ := hrel
    obtain ⟨f, hL, hZ, hsym, hlk, hbw⟩ := hst.out
    clear hst
    by_cases hl : j < es.length
    · obtain ⟨b, off, rfl, hb, hrow⟩ := HR.out (by omega)
      obtain ⟨r0, r1⟩ := hrow j hl
      have c0 := (hbw.cell (p := ⟨b, off + j * 2, none⟩) hb).trans r0
      have c1 := (hbw.cell (p := ⟨b, off + j * 2 + 1, none⟩) hb).trans r1
      have hlk' := hlk
      rw [linkAll_step hl] at hlk'
      clear hrow HR r0 r1 hlk
      generalize es[j] = ed at *
      obtain ⟨ea, eb⟩ := ed
      simp only at c0 c1 hlk'
      have q1 : (0 : Int) ≤ (j : Int) := by omega
      have q2 : (j : Int) < (es.length : Int) := by omega
      have HLK : Hid ((if edgeOk n f ea eb then linkAll n (addE f ea.toNat eb.toNat) (es.drop (j + 1)) else none) = linkAll n noE es) := hlk'
      clear hlk'
      have HL : Hid (LinkAt wr (w.heap.size + 1) f) := hL
      have HZ : Hid (LinkAt wr w.heap.size noE) := hZ
      clear hL hZ
      go_wp2
      go_quiet (fail)
      obtain ⟨W, hW⟩ : ∃ W : World, W = (wr.alloc (Obj.cells #[Value.int IntKind.i64 ea, Value.int IntKind.i64 eb] 55)).drewN nq := ⟨_, rfl⟩
      rw [← hW]
      have hbW0 : Below wr.heap.size wr W := by rw [hW]; exact below_drewN ((Below.refl _ wr).alloc (Nat.le_refl _) _) _
      clear hW
      have HLW : Hid (LinkAt W (w.heap.size + 1) f) := (hbW0.block _ (blk_lt HL.out)).trans HL.out
      have HZW : Hid (LinkAt W w.heap.size noE) := (hbW0.block _ (blk_lt HZ.out)).trans HZ.out
      have HBW : Hid (Below w.heap.size w W) := hbw.trans (hbW0.mono hbw.size)
      clear hbW0 HL HZ hbw c0 c1
      have HMM : Hid ((min ea eb = ea ∧ max ea eb = eb) ∨ (min ea eb = eb ∧ max ea eb = ea)) := minmax
      have HLE : Hid (min ea eb ≤ max ea eb) := by rw [Hid]; omega
      generalize min ea eb = lo at *
      generalize max ea eb = hi at *
      go_upto_region 6 with fail
      go_cut [45] from 27 to 55 (fun s45 wc => s45 = .bool (!edgeOk n f ea eb) ∧ wc = W)
      case first =>
        by_cases hA : lo < 0
        · have hE : edgeOk n f ea eb = false := by
            unfold edgeOk
            rw [decide_eq_false (by rcases HMM.out with ⟨h1, h2⟩ | ⟨h1, h2⟩ <;> omega)]
            rfl
          go_wp2
          go_meet
          case rel => exact ⟨by rw [hE]; rfl, rfl⟩
        · by_cases hB : (n : Int) ≤ hi
          · have hE : edgeOk n f ea eb = false := by
              unfold edgeOk
              rw [decide_eq_false (by rcases HMM.out with ⟨h1, h2⟩ | ⟨h1, h2⟩ <;> omega)]
              rfl
            go_wp2
            go_meet
            case rel => exact ⟨by rw [hE]; rfl, rfl⟩
          · by_cases hC : lo = hi
            · have hE : edgeOk n f ea eb = false := by
                unfold edgeOk
                rw [decide_eq_false (by rcases HMM.out with ⟨h1, h2⟩ | ⟨h1, h2⟩ <;> omega)]
                rfl
              subst hC
              go_wp2
              go_meet
              case rel => exact ⟨by rw [hE]; rfl, rfl⟩
            · obtain ⟨la, rfl⟩ : ∃ la : Nat, lo = la := ⟨lo.toNat, by omega⟩
              have hle := HLE.out
              obtain ⟨ha, rfl⟩ : ∃ ha : Nat, hi = ha := ⟨hi.toNat, by omega⟩
              have hE : edgeOk n f ea eb = !f la ha := by
                unfold edgeOk
                rw [decide_eq_true (by rcases HMM.out with ⟨h1, h2⟩ | ⟨h1, h2⟩ <;> omega), Bool.true_and]
                rcases HMM.out with ⟨h1, h2⟩ | ⟨h1, h2⟩
                · rw [← h1, ← h2, Int.toNat_natCast, Int.toNat_natCast]
                · rw [← h1, ← h2, Int.toNat_natCast, Int.toNat_natCast, hsym]
              have cc := HLW.out.cell (la * 6 + ha) (by omega)
              rw [show (la * 6 + ha) / 6 = la by omega, show (la * 6 + ha) % 6 = ha by omega] at cc
              have q3 : (0 : Int) ≤ (la : Int) := by omega
              have q4 : (la : Int) < 6 := by omega
              have q5 : (0 : Int) ≤ (ha : Int) := by omega
              have q6 : (ha : Int) < 6 := by omega
              have q7 : ¬ (la : Int) < 0 := by omega
              have q8 : ¬ (la : Int) = (ha : Int) := hC
              go_wp2
              go_meet
              case rel => exact ⟨by rw [hE]; simp [q8], rfl⟩
      case rest =>
        obtain ⟨rfl, rfl⟩ := hcut
        cases hE : edgeOk n f ea eb
        · have hfin := HLK.out
          rw [hE, if_neg (by simp)] at hfin
          have HF : Hid (linkAll n noE es = none) := hfin.symm
          have hz := HZW.out
          clear hfin HLK HMM HLE
          go_wp2_with (refine wpList_store_row rfl 104 _ _ rfl w.heap.size (linkB noE).toArray rfl rfl _ _ hz (linkI noE) rfl (linkB_one noE) ?_)
          obtain ⟨hZ', hB'⟩ := HZW.out.over HBW.out noE
          refine bodyPost_ret (v := .tuple #[.agg (linkB noE).toArray, .bool false]) ?_ rfl ⟨?_, hB'⟩
          · exact results_link Tryz.results54 _ rfl rfl hZ'
          · rw [HF.out]; rfl
        · have hfin := HLK.out
          rw [hE, if_pos rfl] at hfin
          obtain ⟨la, ha, rfl, rfl, hla, hha, hlh, hadd⟩ := edge_nat hE HMM.out HLE.out
          have hst : Hid (LinkAt ((wc.setCell ⟨w.heap.size + 1, la * 6 + ha, none⟩ (.bool true)).setCell ⟨w.heap.size + 1, ha * 6 + la, none⟩ (.bool true)) (w.heap.size + 1) (addE f ea.toNat eb.toNat) ∧ LinkAt ((wc.setCell ⟨w.heap.size + 1, la * 6 + ha, none⟩ (.bool true)).setCell ⟨w.heap.size + 1, ha * 6 + la, none⟩ (.bool true)) w.heap.size noE ∧ Below w.heap.size w ((wc.setCell ⟨w.heap.size + 1, la * 6 + ha, none⟩ (.bool true)).setCell ⟨w.heap.size + 1, ha * 6 + la, none⟩ (.bool true))) := by
            rw [hadd]
            exact HLW.out.add HZW.out HBW.out (by omega) (by omega)
          have cA := HLW.out.cell (la * 6 + ha) (by omega)
          have cB := HLW.out.cell (ha * 6 + la) (by omega)
          have fA := blk_thaw HLW.out (la * 6 + ha)
          have fB := blk_thaw HLW.out (ha * 6 + la)
          have HSY : Hid (SymE (addE f ea.toNat eb.toNat)) := symE_add hsym _ _
          have HFI : Hid (linkAll n (addE f ea.toNat eb.toNat) (es.drop (j + 1)) = linkAll n noE es) := hfin
          clear HLW HZW HBW HMM HLE HLK hfin hsym hE hadd
          have q3 : (0 : Int) ≤ (la : Int) := by omega
          have q4 : (la : Int) < 6 := by omega
          have q5 : (0 : Int) ≤ (ha : Int) := by omega
          have q6 : (ha : Int) < 6 := by omega
          have hne : la * 6 + ha ≠ ha * 6 + la := by omega
          have hne' : ha * 6 + la ≠ la * 6 + ha := by omega
          go_wp2
          go_region_held3 (fun w' => True) (trivial) (fail)
          all_goals go_wp2
          exact ⟨⟨j + 1, by omega, by go_num, _, hst.out.1, hst.out.2.1, HSY.out, HFI.out, hst.out.2.2.drew⟩, by simp [intOf]; omega⟩
    · rw [linkAll_end (by omega)] at hlk
      have HLK : Hid (linkAll n noE es = some f) := hlk.symm
      have q2 : ¬ (j : Int) < (es.length : Int) := by omega
      have HZ : Hid (LinkAt wr w.heap.size noE) := hZ
      have HB : Hid (Below w.heap.size w wr) := hbw
      clear hlk hsym HR hbw
      go_wp2_with (first | (refine wpList_load_row rfl 104 _ rfl (w.heap.size + 1) rfl _ _ _ _ hL Tryz.underlying104 rfl (linkI f) ?_) | (refine wpList_store_row rfl 104 _ _ rfl w.heap.size (linkB f).toArray rfl rfl _ _ hZ (linkI f) rfl (linkB_one f) ?_))
      obtain ⟨hZ', hB'⟩ := HZ.out.over HB.out f
      refine bodyPost_ret (v := .tuple #[.agg (linkB f).toArray, .bool true]) ?_ rfl ⟨?_, hB'⟩
      · exact results_link Tryz.results54 _ rfl rfl hZ'
      · rw [HLK.out]; rfl
end Go.Proofs.YtahdlejgjcjeoabGreatDoor

namespace Go.Proofs.YtahdlejgjcjeoabGreatDoor
open Go.RowKit Go.ChangeShapes Go.WideShapes

theorem cellsE : Tryz.prog.cellsOf 55 = 2 := by kernel_rfl
theorem cellsSE : Tryz.prog.cellsOf 22 = 1 := by kernel_rfl
theorem cellsC : Tryz.prog.cellsOf 24 = 5 := by kernel_rfl
def edgeD {H : Type} (p : Int × Int) : DataW H := .agg [.lit (.int .i64 p.1), .lit (.int .i64 p.2)]
theorem bulk_edges {H : Type} : ∀ l : List (DataW H), (∀ d ∈ l, ∃ p, d = edgeD p) → l.length ≤ Rows.uptoBulkAll l
  | [], _ => Nat.zero_le _
  | x :: r, h => by
    obtain ⟨a, rfl⟩ := h x (by simp)
    have := bulk_edges r (fun d hd => h d (by simp [hd]))
    simp only [Rows.uptoBulkAll, List.length_cons]
    have : 1 ≤ Rows.uptoBulk (edgeD (H := H) a) := by simp [edgeD, Rows.uptoBulk]
    omega

/-- THE TABLE OF RULES, out of what the rows list. -/
theorem rules_of_laid2 {W : World} (h : laidMetH Tryz.prog [("ripple/state.steps", Rows.laid_ripple_state_steps), ("ripple/state.rules", Rows.laid_ripple_state_rules)] W) : RulesAt W := by
  have h' : laidMet Tryz.prog [("ripple/state.steps", Rows.laid_ripple_state_steps), ("ripple/state.rules", Rows.laid_ripple_state_rules)] W := h
  obtain ⟨ps, ⟨g, t, cs, fuel, p, q, hg, ht, hvar, hd, hrest, rfl⟩, hnd, hall⟩ := h'
  refine rules_of_laid (show laidMet Tryz.prog [("ripple/state.rules", Rows.laid_ripple_state_rules)] W from ⟨q, hrest, (List.nodup_append.1 hnd).2.1, fun b off hm => hall b off (List.mem_append.2 (.inr hm))⟩)
end Go.Proofs.YtahdlejgjcjeoabGreatDoor

namespace Go.Proofs.YtahdlejgjcjeoabGreatDoor
open Go.RowKit

/-- An operation as a value. -/
def OpV.val (o : OpV) : Value := .agg #[.int .i64 o.ty, .string o.key, .int .i64 o.side, .string o.elem, .int .i64 o.n]
/-- Texts that a length can tell. -/
def OpV.short (o : OpV) : Prop := o.key.size ≤ 281474976710656 ∧ o.elem.size ≤ 281474976710656

end Go.Proofs.YtahdlejgjcjeoabGreatDoor

namespace Go.Proofs.YtahdlejgjcjeoabGreatDoor
open Go.RowKit

/-- An act of a script. -/
structure ActV where
  k : Int
  r : Int
  q : Int
  n : Int
  op : OpV
  key : ByteArray
def ActV.cells (a : ActV) : List Value := [.int .i64 a.k, .int .i64 a.r, .int .i64 a.q, .int .i64 a.n, .int .i64 a.op.ty, .string a.op.key, .int .i64 a.op.side, .string a.op.elem, .int .i64 a.op.n, .string a.key]
/-- Numbers as an int holds them. -/
def i64r (x : Int) : Prop := -9223372036854775808 ≤ x ∧ x ≤ 9223372036854775807
structure ActV.rng (a : ActV) : Prop where
  n : i64r a.n
  r : i64r a.r
  q : i64r a.q
  ty : i64r a.op.ty
  sd : i64r a.op.side
  on : i64r a.op.n
structure ActV.fit (a : ActV) : Prop where
  op : a.op.short
  n0 : -9223372036854775808 ≤ a.n
  n1 : a.n ≤ 9223372036854775807
  key : a.key.size ≤ 1099511627776
  rng : a.rng
/-- The struct that act got, as it lies. -/
def actB (k r q n ty : Int) (ky : ByteArray) (sd : Int) (el : ByteArray) (on : Int) (key : ByteArray) : Obj := .cells #[.int .i64 k, .int .i64 r, .int .i64 q, .int .i64 n, .int .i64 ty, .string ky, .int .i64 sd, .string el, .int .i64 on, .string key] 33 (0, 0)
end Go.Proofs.YtahdlejgjcjeoabGreatDoor

namespace Go.Proofs.YtahdlejgjcjeoabGreatDoor
open Go.RowKit
/-- A script, as it lies. -/
def ActsOf (w : World) (v : Value) (l : List ActV) : Prop :=
  ∃ ad cap, v = .slice ad l.length cap ∧ l.length ≤ cap ∧ (0 < l.length → ∃ b off, ad = some ⟨b, off, none⟩ ∧ b < w.heap.size ∧ ∀ i (h : i < l.length) j u, (l[i]).cells[j]? = some u → w.cell? ⟨b, off + i * 10 + j, none⟩ = some u)
theorem ActsOf.below {w w' : World} {v : Value} {l : List ActV} (h : ActsOf w v l) (hb : Below w.heap.size w w') : ActsOf w' v l := by
  obtain ⟨ad, cap, rfl, hc, H⟩ := h
  refine ⟨ad, cap, rfl, hc, fun h0 => ?_⟩
  obtain ⟨b, off, rfl, hlt, hrow⟩ := H h0
  exact ⟨b, off, rfl, Nat.lt_of_lt_of_le hlt hb.size, fun i hi j u hu => (hb.cell (p := ⟨b, _, none⟩) hlt).trans (hrow i hi j u hu)⟩
theorem ActsOf.nth {w : World} {v : Value} {l : List ActV} (h : ActsOf w v l) (i : Nat) (hi : i < l.length) : ∃ b off cap, v = .slice (some ⟨b, off, none⟩) l.length cap ∧ b < w.heap.size ∧
    w.cell? ⟨b, off + i * 10, none⟩ = some (.int .i64 l[i].k) ∧ w.cell? ⟨b, off + i * 10 + 1, none⟩ = some (.int .i64 l[i].r) ∧ w.cell? ⟨b, off + i * 10 + 2, none⟩ = some (.int .i64 l[i].q) ∧ w.cell? ⟨b, off + i * 10 + 3, none⟩ = some (.int .i64 l[i].n) ∧ w.cell? ⟨b, off + i * 10 + 4, none⟩ = some (.int .i64 l[i].op.ty) ∧ w.cell? ⟨b, off + i * 10 + 5, none⟩ = some (.string l[i].op.key) ∧ w.cell? ⟨b, off + i * 10 + 6, none⟩ = some (.int .i64 l[i].op.side) ∧ w.cell? ⟨b, off + i * 10 + 7, none⟩ = some (.string l[i].op.elem) ∧ w.cell? ⟨b, off + i * 10 + 8, none⟩ = some (.int .i64 l[i].op.n) ∧ w.cell? ⟨b, off + i * 10 + 9, none⟩ = some (.string l[i].key) := by
  obtain ⟨ad, cap, rfl, -, H⟩ := h
  obtain ⟨b, off, rfl, hlt, hrow⟩ := H (by omega)
  exact ⟨b, off, cap, rfl, hlt, hrow i hi 0 _ rfl, hrow i hi 1 _ rfl, hrow i hi 2 _ rfl, hrow i hi 3 _ rfl, hrow i hi 4 _ rfl, hrow i hi 5 _ rfl, hrow i hi 6 _ rfl, hrow i hi 7 _ rfl, hrow i hi 8 _ rfl, hrow i hi 9 _ rfl⟩

end Go.Proofs.YtahdlejgjcjeoabGreatDoor

namespace Go.Proofs.YtahdlejgjcjeoabGreatDoor
open Go.RowKit

theorem hid_of {p : Prop} (h : p) : Hid p := h
/-- An entry of a buffer, as it lies. -/
structure Pe where
  num : Nat
  org : Nat
  v : Value
  d : List At
def Pe.cells (e : Pe) : List Value := [.int .i64 e.num, .int .i64 e.org, e.v]
def Pe.ent (e : Pe) : Ent := ⟨e.num, e.org, e.d⟩
theorem Pe.cells_length (e : Pe) : e.cells.length = 3 := rfl

/-- What a replica has, as it lies. -/
structure PrD where
  up : Bool
  num : Nat
  base : Nat
  b : Nat
  n : Nat
  M : Sl → Option Gr
  vb : Value
  es : List Pe
  ak : Nat → Nat
  vl : Value
  bytes : List UInt8
  frames : Nat
  weight : Nat
def PrD.cells (D : PrD) : List Value := [.bool D.up, .int .i64 D.num, .int .i64 D.base, .map (some D.b), D.vb, .int .i64 (D.ak 0), .int .i64 (D.ak 1), .int .i64 (D.ak 2), .int .i64 (D.ak 3), .int .i64 (D.ak 4), .int .i64 (D.ak 5), D.vl, .int .i64 D.frames, .int .i64 D.weight]
theorem PrD.cells_length (D : PrD) : D.cells.length = 14 := rfl

structure PrRep (w : World) (col : Col) (o i : Nat) (D : PrD) : Prop where
  st : StMap w D.b D.n D.M
  cb : col D.b = (o, 10 + i)
  buf : RowC w col (o, 20 + i) 85 3 D.vb D.es.length (D.es.flatMap Pe.cells)
  ed : ∀ e ∈ D.es, Held w col (o, 1) e.v e.d
  log : RowC w col (o, 50 + i) 5 1 D.vl D.bytes.length (bcells D.bytes)

theorem StMap.block {w w' : World} {b n : Nat} {M : Sl → Option Gr} (h : StMap w b n M) (hb : w'.heap[b]? = w.heap[b]?) : StMap w' b n M := by
  obtain ⟨D, ⟨es, clock, h1, h2⟩, h3⟩ := h
  exact ⟨D, ⟨es, clock, hb.trans h1, h2⟩, h3⟩
theorem PrRep.kept {w w' : World} {col col' : Col} {S : Nat × Nat → Prop} {o i : Nat} {D : PrD} (h : PrRep w col o i D) (hf : FrC S col col' w w') (h1 : ¬ S (o, 1)) (h2 : ¬ S (o, 10 + i)) (h3 : ¬ S (o, 20 + i)) (h4 : ¬ S (o, 50 + i)) : PrRep w' col' o i D where
  st := h.st.block (hf.fr.block _ h.st.lt (by rw [h.cb]; exact h2))
  cb := (hf.col _ h.st.lt).trans h.cb
  buf := h.buf.kept hf h3
  ed e he := (h.ed e he).kept hf h1
  log := h.log.kept hf h4

structure PrK where
  lk : Int
  bp : Bool
  rr : Bool
  room : Nat
  near : Nat → Nat → Bool
  R : Nat
  vF : Value
  Ds : List PrD
  ns : List Fm
def PrK.block (K : PrK) : List Value := [.int .i32 K.lk, .int .u32 0, .bool K.bp, .bool K.rr, .int .i64 K.room] ++ (linkB K.near ++ [.slice (some ⟨K.R, 0, none⟩) K.Ds.length K.Ds.length, K.vF])
def PrK.setD (K : PrK) (i : Nat) (D : PrD) : PrK := { K with Ds := K.Ds.set i D }

/-- The cluster, but for what hangs on the replica that is out. -/
structure PrB (w : World) (col : Col) (o x : Nat) (ex : Option Nat) (K : PrK) : Prop where
  blk : w.heap[x]? = some (.cells K.block.toArray 108 (0, 0))
  cx : col x = (o, 0)
  row : w.heap[K.R]? = some (.cells (K.Ds.flatMap PrD.cells).toArray 126 (0, 0))
  cR : col K.R = (o, 2)
  net : RowC w col (o, 3) 110 5 K.vF K.ns.length (K.ns.flatMap Fm.cells)
  netd : ∀ f ∈ K.ns, Held w col (o, 1) f.v f.f.d
  reps : ∀ i (h : i < K.Ds.length), some i ≠ ex → PrRep w col o i K.Ds[i]
abbrev PrAt (w : World) (col : Col) (o x : Nat) (K : PrK) : Prop := PrB w col o x none K

theorem PrB.kept {w w' : World} {col col' : Col} {S : Nat × Nat → Prop} {o x : Nat} {ex : Option Nat} {K : PrK} (h : PrB w col o x ex K) (hf : FrC S col col' w w') (h4 : ∀ k, k < 4 → ¬ S (o, k)) (hS : ∀ i, i < K.Ds.length → some i ≠ ex → ∀ k, k = 1 ∨ k = 2 ∨ k = 5 → ¬ S (o, k * 10 + i)) : PrB w' col' o x ex K where
  blk := hf.block h.blk (by rw [h.cx]; exact h4 0 (by omega))
  cx := (hf.colB h.blk).trans h.cx
  row := hf.block h.row (by rw [h.cR]; exact h4 2 (by omega))
  cR := (hf.colB h.row).trans h.cR
  net := h.net.kept hf (h4 3 (by omega))
  netd f hm := (h.netd f hm).kept hf (h4 1 (by omega))
  reps i hi hne := (h.reps i hi hne).kept hf (h4 1 (by omega)) (hS i hi hne 1 (by omega)) (hS i hi hne 2 (by omega)) (hS i hi hne 5 (by omega))
theorem PrB.far {w w' : World} {col col' : Col} {S : Nat × Nat → Prop} {o x : Nat} {ex : Option Nat} {K : PrK} (h : PrB w col o x ex K) (hf : FrC S col col' w w') (hS : ∀ k, ¬ S (o, k)) : PrB w' col' o x ex K := h.kept hf (fun k _ => hS k) fun _ _ _ _ _ => hS _
theorem PrB.below {w w' : World} {col : Col} {o x : Nat} {ex : Option Nat} {K : PrK} (h : PrB w col o x ex K) (hb : Below w.heap.size w w') (κ : Nat × Nat) : PrB w' (paint col w.heap.size κ) o x ex K := h.far (S := fun _ => False) (frC_below hb κ) fun _ => id
theorem PrB.same {w w' : World} {col : Col} {o x : Nat} {ex : Option Nat} {K : PrK} (h : PrB w col o x ex K) (hb : Below w.heap.size w w') : PrB w' col o x ex K := h.far (S := fun _ => False) (frC_same hb) fun _ => id
/-- Only what hangs on replica i has turned. -/
theorem PrB.rest {w w' : World} {col col' : Col} {o x i : Nat} {K : PrK} (h : PrB w col o x (some i) K) (h6 : K.Ds.length ≤ 6) (hi : i < K.Ds.length) (hf : FrC (ofRep o i) col col' w w') : PrB w' col' o x (some i) K :=
  h.kept hf (fun k hk => by unfold ofRep; simp only; omega) fun j hj hne k hk => by
    have : j ≠ i := fun e => hne (by rw [e])
    unfold ofRep
    simp only
    omega
theorem PrB.open {w : World} {col : Col} {o x i : Nat} {K : PrK} (h : PrAt w col o x K) (hi : i < K.Ds.length) : PrB w col o x (some i) K ∧ PrRep w col o i K.Ds[i] :=
  ⟨⟨h.blk, h.cx, h.row, h.cR, h.net, h.netd, fun j hj _ => h.reps j hj (by simp)⟩, h.reps i hi (by simp)⟩
theorem PrB.close {w : World} {col : Col} {o x i : Nat} {K : PrK} (h : PrB w col o x (some i) K) (hp : ∀ hi : i < K.Ds.length, PrRep w col o i K.Ds[i]) : PrAt w col o x K :=
  ⟨h.blk, h.cx, h.row, h.cR, h.net, h.netd, fun j hj _ => by
    by_cases e : j = i
    · subst e; exact hp hj
    · exact h.reps j hj (fun e' => e (Option.some.inj e'))⟩
theorem PrB.xR {w : World} {col : Col} {o x : Nat} {ex : Option Nat} {K : PrK} (h : PrB w col o x ex K) : x ≠ K.R := fun e => by
  have h1 := h.cx
  have h2 := h.cR
  rw [e, h2] at h1
  cases h1
theorem PrK.setD_len (K : PrK) (i : Nat) (D : PrD) : (K.setD i D).Ds.length = K.Ds.length := List.length_set ..
theorem PrK.setD_block (K : PrK) (i : Nat) (D : PrD) : (K.setD i D).block = K.block := by simp [PrK.block, PrK.setD]
theorem PrK.setD_at (K : PrK) (i : Nat) (D : PrD) (h : i < (K.setD i D).Ds.length) : (K.setD i D).Ds[i] = D := List.getElem_set_self ..
theorem PrK.setD_setD (K : PrK) (i : Nat) (D E : PrD) : (K.setD i D).setD i E = K.setD i E := by simp [PrK.setD]

/-- The cells of a replica. -/
theorem PrB.cell {w : World} {col : Col} {o x : Nat} {ex : Option Nat} {K : PrK} (h : PrB w col o x ex K) {i : Nat} (hi : i < K.Ds.length) {k : Nat} (hk : k < 14) {u : Value} (hu : (K.Ds[i]).cells[k]? = some u) : w.cell? ⟨K.R, i * 14 + k, none⟩ = some u := by
  rw [blk_cell h.row, List.getElem?_toArray, flatMap_get PrD.cells 14 PrD.cells_length K.Ds i k hi hk]
  exact hu
theorem PrB.thaw {w : World} {col : Col} {o x : Nat} {ex : Option Nat} {K : PrK} (h : PrB w col o x ex K) (k : Nat) : w.frozen? ⟨K.R, k, none⟩ = false := blk_thaw h.row k
structure Cells14 (w : World) (R i : Nat) (D : PrD) : Prop where
  c0 : w.cell? ⟨R, i * 14, none⟩ = some (.bool D.up)
  c1 : w.cell? ⟨R, i * 14 + 1, none⟩ = some (.int .i64 D.num)
  c2 : w.cell? ⟨R, i * 14 + 2, none⟩ = some (.int .i64 D.base)
  c3 : w.cell? ⟨R, i * 14 + 3, none⟩ = some (.map (some D.b))
  c4 : w.cell? ⟨R, i * 14 + 4, none⟩ = some D.vb
  c11 : w.cell? ⟨R, i * 14 + 11, none⟩ = some D.vl
  c12 : w.cell? ⟨R, i * 14 + 12, none⟩ = some (.int .i64 D.frames)
  c13 : w.cell? ⟨R, i * 14 + 13, none⟩ = some (.int .i64 D.weight)
  fz : ∀ k, w.frozen? ⟨R, k, none⟩ = false
  ak : ∀ q, q < 6 → w.cell? ⟨R, i * 14 + (5 + q), none⟩ = some (.int .i64 (D.ak q))
theorem PrB.cells {w : World} {col : Col} {o x : Nat} {ex : Option Nat} {K : PrK} (h : PrB w col o x ex K) {i : Nat} (hi : i < K.Ds.length) : Cells14 w K.R i K.Ds[i] where
  c0 := h.cell hi (k := 0) (by omega) rfl
  c1 := h.cell hi (by omega) rfl
  c2 := h.cell hi (by omega) rfl
  c3 := h.cell hi (by omega) rfl
  c4 := h.cell hi (by omega) rfl
  c11 := h.cell hi (by omega) rfl
  c12 := h.cell hi (by omega) rfl
  c13 := h.cell hi (by omega) rfl
  fz := h.thaw
  ak q hq := h.cell hi (by omega) (by
    rcases (by omega : q = 0 ∨ q = 1 ∨ q = 2 ∨ q = 3 ∨ q = 4 ∨ q = 5) with rfl | rfl | rfl | rfl | rfl | rfl <;> rfl)

theorem flatMap_same {α : Type} (f : α → List Value) (l : List α) (i : Nat) (a : α) (h : ∀ hi : i < l.length, f a = f l[i]) : (l.set i a).flatMap f = l.flatMap f := by
  induction l generalizing i with
  | nil => rfl
  | cons b l ih =>
    cases i with
    | zero => simp [h (by simp)]
    | succ i => simp only [List.set_cons_succ, List.flatMap_cons]; rw [ih i (fun hi => h (Nat.succ_lt_succ hi))]
/-- What hangs on the replica may be called otherwise, if its cells are the same. -/
theorem PrB.as {w : World} {col : Col} {o x i : Nat} {K : PrK} (h : PrB w col o x (some i) K) (D : PrD) (hD : ∀ hi : i < K.Ds.length, D.cells = (K.Ds[i]).cells) : PrB w col o x (some i) (K.setD i D) where
  blk := by rw [K.setD_block]; exact h.blk
  cx := h.cx
  row := by
    show w.heap[K.R]? = some (.cells ((K.Ds.set i D).flatMap PrD.cells).toArray _ _)
    rw [flatMap_same PrD.cells K.Ds i D hD]
    exact h.row
  cR := h.cR
  net := h.net
  netd := h.netd
  reps j hj hne := by
    have hj' : j < K.Ds.length := by rw [← K.setD_len i D]; exact hj
    have : (K.setD i D).Ds[j] = K.Ds[j] := List.getElem_set_ne (fun e => hne (by rw [e])) _
    rw [this]
    exact h.reps j hj' hne
/-- A cell of the replica is written. -/
theorem PrB.put {w : World} {col : Col} {o x i k : Nat} {K : PrK} {u : Value} (h : PrB w col o x (some i) K) (hi : i < K.Ds.length) (hk : k < 14) (D : PrD) (hD : (K.Ds[i]).cells.set k u = D.cells) : PrB (w.setCell ⟨K.R, i * 14 + k, none⟩ u) col o x (some i) (K.setD i D) ∧ FrC (fun κ => κ = (o, 2)) col col w (w.setCell ⟨K.R, i * 14 + k, none⟩ u) := by
  have hf : FrC (fun κ => κ = (o, 2)) col col w (w.setCell ⟨K.R, i * 14 + k, none⟩ u) := frC_setCell _ u h.cR
  refine ⟨?_, hf⟩
  have n0 : ∀ j, j ≠ 2 → ¬ ((o, j) = (o, 2)) := fun j hj e => hj (congrArg Prod.snd e)
  exact {
    blk := by rw [K.setD_block]; exact hf.block h.blk (by rw [h.cx]; exact n0 0 (by omega))
    cx := h.cx
    row := by
      show _ = some (Obj.cells ((K.Ds.set i D).flatMap PrD.cells).toArray _ _)
      rw [← flatMap_set PrD.cells 14 PrD.cells_length K.Ds i k u D hi hk hD, ← List.setIfInBounds_toArray]
      exact heap_setCell_at h.row u
    cR := h.cR
    net := h.net.kept hf (n0 3 (by omega))
    netd := fun f hm => (h.netd f hm).kept hf (n0 1 (by omega))
    reps := fun j hj hne => by
      have hj' : j < K.Ds.length := by rw [← K.setD_len i D]; exact hj
      have : (K.setD i D).Ds[j] = K.Ds[j] := List.getElem_set_ne (fun e => hne (by rw [e])) _
      rw [this]
      exact (h.reps j hj' hne).kept hf (n0 1 (by omega)) (n0 _ (by omega)) (n0 _ (by omega)) (n0 _ (by omega)) }

/-- The lock is taken, or given back. -/
theorem PrB.lock {w : World} {col : Col} {o x : Nat} {ex : Option Nat} {K : PrK} (h : PrB w col o x ex K) (l : Int) : PrB (w.setCell ⟨x, 0, none⟩ (.int .i32 l)) col o x ex { K with lk := l } ∧ FrC (fun κ => κ = (o, 0)) col col w (w.setCell ⟨x, 0, none⟩ (.int .i32 l)) := by
  have hf : FrC (fun κ => κ = (o, 0)) col col w (w.setCell ⟨x, 0, none⟩ (.int .i32 l)) := frC_setCell _ _ h.cx
  refine ⟨?_, hf⟩
  have n0 : ∀ j, j ≠ 0 → ¬ ((o, j) = (o, 0)) := fun j hj e => hj (congrArg Prod.snd e)
  exact {
    blk := by
      rw [heap_setCell_at h.blk]
      simp [PrK.block]
    cx := h.cx
    row := hf.block h.row (by rw [h.cR]; exact n0 2 (by omega))
    cR := h.cR
    net := h.net.kept hf (n0 3 (by omega))
    netd := fun f hm => (h.netd f hm).kept hf (n0 1 (by omega))
    reps := fun j hj hne => (h.reps j hj hne).kept hf (n0 1 (by omega)) (n0 _ (by omega)) (n0 _ (by omega)) (n0 _ (by omega)) }
theorem PrB.cl {w : World} {col : Col} {o x : Nat} {ex : Option Nat} {K : PrK} (h : PrB w col o x ex K) :
    w.cell? ⟨x, 0, none⟩ = some (.int .i32 K.lk) ∧ w.cell? ⟨x, 2, none⟩ = some (.bool K.bp) ∧ w.cell? ⟨x, 3, none⟩ = some (.bool K.rr) ∧ w.cell? ⟨x, 4, none⟩ = some (.int .i64 K.room) ∧ w.cell? ⟨x, 41, none⟩ = some (.slice (some ⟨K.R, 0, none⟩) K.Ds.length K.Ds.length) ∧ w.cell? ⟨x, 42, none⟩ = some K.vF ∧ ∀ k, w.frozen? ⟨x, k, none⟩ = false := by
  have hl : (linkB K.near).length = 36 := by simp [linkB]
  refine ⟨?_, ?_, ?_, ?_, ?_, ?_, blk_thaw h.blk⟩ <;> rw [blk_cell h.blk] <;> simp [PrK.block, hl]
theorem PrB.clAt {w : World} {col : Col} {o x : Nat} {ex : Option Nat} {K : PrK} (h : PrB w col o x ex K) (h0 : K.lk = 0) : ClAt w x K.R K.Ds.length K.Ds.length := by
  obtain ⟨c0, _, _, _, c41, _, fz⟩ := h.cl
  rw [h0] at c0
  exact ⟨c0, fz 0, c41, h.xR, Nat.le_refl _⟩

/-- What a replica has is what the model says. -/
structure PrD.is (D : PrD) (p : Rep) : Prop where
  up : D.up = !p.down
  num : D.num = p.num
  base : D.base = p.base
  M : D.M = addTo (fun _ => none) p.atoms
  buf : D.es.map Pe.ent = p.buf
  ak : ∀ q, q < 6 → D.ak q = p.acked.getD q 0
  bytes : D.bytes = logBytes p
  frames : D.frames = p.frames
  weight : D.weight = p.weight
structure PrK.is (K : PrK) (c : Clu) : Prop where
  lk : K.lk = 0
  bp : K.bp = c.bp
  rr : K.rr = c.rr
  room : K.room = c.room
  near : ∀ i j, i < 6 → j < 6 → K.near i j = c.near i j
  len : K.Ds.length = c.reps.length
  nets : K.ns.map Fm.f = c.net
  reps : ∀ i (h : i < K.Ds.length), (K.Ds[i]).is (c.rep i)
theorem PrK.is.set {K : PrK} {c : Clu} {i : Nat} {D : PrD} {p : Rep} (h : K.is c) (hi : i < c.reps.length) (hD : D.is p) : (K.setD i D).is (c.setRep i p) where
  lk := h.lk
  bp := h.bp
  rr := h.rr
  room := h.room
  near := h.near
  len := by rw [K.setD_len, h.len]; simp [Clu.setRep]
  nets := h.nets
  reps j hj := by
    have hj' : j < K.Ds.length := by rw [← K.setD_len i D]; exact hj
    by_cases e : j = i
    · subst e
      rw [K.setD_at]
      simpa [Clu.rep, Clu.setRep, hi] using hD
    · have h1 : (K.setD i D).Ds[j] = K.Ds[j] := List.getElem_set_ne (fun e' => e e'.symm) _
      rw [h1]
      have := h.reps j hj'
      simpa [Clu.rep, Clu.setRep, Ne.symm e] using this

end Go.Proofs.YtahdlejgjcjeoabGreatDoor
