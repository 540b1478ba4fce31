/- The program's New: settings that may be, links. -/
import Derived.Test.YtahdlejgjcjeoaaGreatDoorP17
import Derived.Test.YtahdlejgjcjeoaaGreatDoorP14
import Derived.Test.YtahdlejgjcjeoaaGreatDoorP19
import Derived.Deep.CutRange
namespace Go.Proofs.YtahdlejgjcjeoaaGreatDoor
open Go.RowKit Go.MuLone

/-- A slice of edges. -/
def EdgesOf (w : World) (v : Value) (es : List (Int × Int)) : Prop :=
  ∃ ad cap, v = .slice ad es.length cap ∧ es.length ≤ cap ∧ (0 < es.length → ∃ b off, ad = some ⟨b, off, none⟩ ∧ b < w.heap.size ∧ ∀ i (h : i < es.length), w.cell? ⟨b, off + i * 2, none⟩ = some (.int .i64 es[i].1) ∧ w.cell? ⟨b, off + i * 2 + 1, none⟩ = some (.int .i64 es[i].2))
theorem EdgesOf.below {w w' : World} {v : Value} {es : List (Int × Int)} (h : EdgesOf w v es) (hb : Below w.heap.size w w') : EdgesOf w' v es := by
  obtain ⟨ad, cap, rfl, hc, H⟩ := h
  refine ⟨ad, cap, rfl, hc, fun h0 => ?_⟩
  obtain ⟨b, off, rfl, hlt, hrow⟩ := H h0
  exact ⟨b, off, rfl, Nat.lt_of_lt_of_le hlt hb.size, fun i hi => ⟨(hb.cell (p := ⟨b, _, none⟩) hlt).trans (hrow i hi).1, (hb.cell (p := ⟨b, _, none⟩) hlt).trans (hrow i hi).2⟩⟩

set_option maxRecDepth 100000 in
theorem sizes_any (reps room : Int) (ad : Option Addr) (m cap : Nat) (bp rr : Bool) (w : World) :
    Calls Tryz.prog 58 #[.agg #[.int .i64 reps, .slice ad m cap, .bool bp, .bool rr, .int .i64 room]] w fun e w' => e = .returned (.bool (decide (1 ≤ reps ∧ reps ≤ 6 ∧ 1 ≤ room ∧ room ≤ 8))) ∧ Below w.heap.size w w' := by
  go_enter Tryz.func58, Tryz.ntmps58
  by_cases h1 : 1 ≤ reps
  · by_cases h2 : reps ≤ 6
    · by_cases h3 : 1 ≤ room
      · by_cases h4 : room ≤ 8
        · go_wp2
          go_ret
          exact ⟨ret_bool (by simp [h1, h2, h3, h4]), below_alloc (Below.refl _ _) _⟩
        · go_wp2
          go_ret
          exact ⟨ret_bool (by simp; omega), below_alloc (Below.refl _ _) _⟩
      · go_wp2
        go_ret
        exact ⟨ret_bool (by simp; omega), below_alloc (Below.refl _ _) _⟩
    · go_wp2
      go_ret
      exact ⟨ret_bool (by simp; omega), below_alloc (Below.refl _ _) _⟩
  · go_wp2
    go_ret
    exact ⟨ret_bool (by simp; omega), below_alloc (Below.refl _ _) _⟩

/-- The table of links, as it lies. -/
def linkB (f : Nat → Nat → Bool) : List Value := (List.range 36).map fun k => .bool (f (k / 6) (k % 6))
theorem linkB_none : linkB noE = List.replicate 36 (.bool false) := rfl
theorem linkB_get (f : Nat → Nat → Bool) (k : Nat) (hk : k < 36) : (linkB f).toArray[k]? = some (.bool (f (k / 6) (k % 6))) := by
  simp [linkB, hk]
theorem linkB_add (f : Nat → Nat → Bool) (a b : Nat) (ha : a < 6) (hb : b < 6) : ((linkB f).toArray.setIfInBounds (a * 6 + b) (.bool true)).setIfInBounds (b * 6 + a) (.bool true) = (linkB (addE f a b)).toArray := by
  apply Array.ext_getElem?
  intro k
  by_cases hk : k < 36
  · rw [linkB_get _ k hk, Array.getElem?_setIfInBounds]
    have hs : ((linkB f).toArray.setIfInBounds (a * 6 + b) (.bool true)).size = 36 := by simp [linkB]
    have hs0 : (linkB f).toArray.size = 36 := by simp [linkB]
    unfold addE
    by_cases e1 : b * 6 + a = k
    · rw [if_pos e1, if_pos (by omega)]
      have h1 : k / 6 = b := by omega
      have h2 : k % 6 = a := by omega
      simp [h1, h2]
    · rw [if_neg e1, Array.getElem?_setIfInBounds]
      by_cases e2 : a * 6 + b = k
      · rw [if_pos e2, if_pos (by omega)]
        have h1 : k / 6 = a := by omega
        have h2 : k % 6 = b := by omega
        simp [h1, h2]
      · rw [if_neg e2, linkB_get _ k hk]
        have n1 : ¬ (k / 6 = a ∧ k % 6 = b) := by omega
        have n2 : ¬ (k / 6 = b ∧ k % 6 = a) := by omega
        have : (decide (k / 6 = a) && decide (k % 6 = b)) = false := by simpa using n1
        have h3 : (decide (k / 6 = b) && decide (k % 6 = a)) = false := by simpa using n2
        rw [this, h3, Bool.or_false, Bool.or_false]
  · rw [Array.getElem?_eq_none (by simp [linkB]; omega), Array.getElem?_eq_none (by simp [linkB]; omega)]

theorem minmax {a b : Int} : (min a b = a ∧ max a b = b) ∨ (min a b = b ∧ max a b = a) := by omega
/-- The table in its block. -/
def LinkAt (w : World) (g : Nat) (f : Nat → Nat → Bool) : Prop := w.heap[g]? = some (.cells (linkB f).toArray 113 (0, 0))
theorem LinkAt.cell {w : World} {g : Nat} {f : Nat → Nat → Bool} (h : LinkAt w g f) (k : Nat) (hk : k < 36) : w.cell? ⟨g, k, none⟩ = some (.bool (f (k / 6) (k % 6))) := by
  unfold LinkAt at h
  rw [blk_cell h, linkB_get f k hk]

theorem infoLinks : (Tryz.prog.info? 113).map (·.size) = some 36 := by kernel_rfl
theorem linkB_size (f : Nat → Nat → Bool) : (linkB f).toArray.size = 36 := by simp [linkB]
theorem linkB_one (f : Nat → Nat → Bool) : (linkB f).toArray.all (·.oneCell') = true := by
  rw [Array.all_eq_true_iff_forall_mem]
  intro v hv
  simp only [linkB, List.mem_toArray, List.mem_map] at hv
  obtain ⟨k, -, rfl⟩ := hv
  rfl
theorem linkI (f : Nat → Nat → Bool) : (Tryz.prog.info? 113).map (·.size) = some (linkB f).toArray.size := by rw [linkB_size]; exact infoLinks
/-- A table written over from end to end. -/
theorem LinkAt.over {w W : World} {g : Nat} {f : Nat → Nat → Bool} (h : LinkAt W g f) (hb : Below g w W) (f' : Nat → Nat → Bool) : LinkAt (W.setRow g (linkB f').toArray) g f' ∧ Below g w (W.setRow g (linkB f').toArray) := by
  have hlt := blk_lt h
  refine ⟨setRow_heap W g _ _ _ _ h, hb.os, hb.tape, hb.output, by simpa [World.setRow] using hb.size, fun k hk => ?_⟩
  rw [setRow_other W g k _ (by omega)]
  exact hb.block k hk
theorem link_results {W : World} {g : Nat} {f : Nat → Nat → Bool} (h : LinkAt W g f) : (loadVar 113 ⟨g, 0, none⟩).run Tryz.prog W = .ok (.agg (linkB f).toArray) W :=
  run_loadVar_row W g _ _ _ _ _ h Tryz.underlying113 rfl (linkI f)

theorem edge_nat {n : Nat} {f : Nat → Nat → Bool} {ea eb lo hi : Int} (h : edgeOk n f ea eb = true) (hm : (lo = ea ∧ hi = eb) ∨ (lo = eb ∧ hi = ea)) (hl : lo ≤ hi) : ∃ la ha : Nat, lo = la ∧ hi = ha ∧ la < n ∧ ha < n ∧ la ≠ ha ∧ addE f ea.toNat eb.toNat = addE f la ha := by
  unfold edgeOk at h
  simp only [Bool.and_eq_true, decide_eq_true_eq] at h
  obtain ⟨⟨h1, h2, h3, h4, h5⟩, -⟩ := h
  rcases hm with ⟨rfl, rfl⟩ | ⟨rfl, rfl⟩
  · exact ⟨lo.toNat, hi.toNat, by omega, by omega, by omega, by omega, by omega, rfl⟩
  · refine ⟨lo.toNat, hi.toNat, by omega, by omega, by omega, by omega, by omega, ?_⟩
    funext i j
    unfold addE
    rw [Bool.or_assoc, Bool.or_assoc, Bool.or_comm (decide (i = hi.toNat) && _)]
theorem LinkAt.add {w W : World} {g a b : Nat} {f : Nat → Nat → Bool} (h : LinkAt W (g + 1) f) (hz : LinkAt W g noE) (hb : Below g w W) (ha : a < 6) (hb6 : b < 6) :
    LinkAt ((W.setCell ⟨g + 1, a * 6 + b, none⟩ (.bool true)).setCell ⟨g + 1, b * 6 + a, none⟩ (.bool true)) (g + 1) (addE f a b) ∧ LinkAt ((W.setCell ⟨g + 1, a * 6 + b, none⟩ (.bool true)).setCell ⟨g + 1, b * 6 + a, none⟩ (.bool true)) g noE ∧ Below g w ((W.setCell ⟨g + 1, a * 6 + b, none⟩ (.bool true)).setCell ⟨g + 1, b * 6 + a, none⟩ (.bool true)) := by
  have g1 := grown_setCell W ⟨g + 1, a * 6 + b, none⟩ (.bool true)
  have g2 := grown_setCell (W.setCell ⟨g + 1, a * 6 + b, none⟩ (.bool true)) ⟨g + 1, b * 6 + a, none⟩ (.bool true)
  have hlt := blk_lt hz
  have hg := grown_trans g1 g2
  refine ⟨?_, (hg.block g hlt (fun e => by have h0 : g = g + 1 := Option.some.inj e; omega)).trans hz, hb.grown hg (by omega) (fun k hk => by cases hk; exact Nat.le_succ _)⟩
  have := heap_setCell_at (o := b * 6 + a) (heap_setCell_at (o := a * 6 + b) h (.bool true)) (.bool true)
  rw [linkB_add f a b ha hb6] at this
  exact this
theorem results_link {fn : Func} {p q : Tmp} (h : fn.results = #[.cell p 113, .tmp q]) (tmps : Array Value) {W : World} {g : Nat} {f : Nat → Nat → Bool} {v : Value} (hp : tmps.getD p undef = .pointer (some ⟨g, 0, none⟩)) (hq : tmps.getD q undef = v) (hL : LinkAt W g f) :
    (results fn tmps).run Tryz.prog W = .ok (.tuple #[.agg (linkB f).toArray, v]) W := by
  have hp' : tmps[p]?.getD undef = .pointer (some ⟨g, 0, none⟩) := by simpa using hp
  have hq' : tmps[q]?.getD undef = v := by simpa using hq
  simp [results, h, hp', hq', asAddr, link_results hL]

set_option maxRecDepth 100000 in
set_option maxHeartbeats 4000000 in
theorem link_any (v : Value) (es : List (Int × Int)) (n : Nat) (w : World) (hv : EdgesOf w v es) (h6 : n ≤ 6) (hlen : es.length ≤ 1048576) :
    Calls Tryz.prog 59 #[v, .int .i64 n] w fun e w' => e = .returned (.tuple #[.agg (linkB ((linkAll n noE es).getD noE)).toArray, .bool (linkAll n noE es).isSome]) ∧ Below w.heap.size w w' := by
  obtain ⟨ad, cap, rfl, hcap, H⟩ := hv
  have HR : Hid (0 < es.length → ∃ b off, ad = some ⟨b, off, none⟩ ∧ b < w.heap.size ∧ ∀ i (h : i < es.length), w.cell? ⟨b, off + i * 2, none⟩ = some (.int .i64 es[i].1) ∧ w.cell? ⟨b, off + i * 2 + 1, none⟩ = some (.int .i64 es[i].2)) := H
  clear H
  go_enter Tryz.func59, Tryz.ntmps59
  go_wp2
  have hb0 := below_alloc (below_alloc (Below.refl _ w) (.cells (linkB noE).toArray 113)) (.cells (linkB noE).toArray 113)
  have hz0 := (two_blocks w (.cells (linkB noE).toArray 113) (.cells (linkB noE).toArray 113)).1
  have hz1 := (two_blocks w (.cells (linkB noE).toArray 113) (.cells (linkB noE).toArray 113)).2
  have HS : Hid (∃ f, LinkAt ((w.alloc (.cells (linkB noE).toArray 113)).alloc (.cells (linkB noE).toArray 113)) (w.heap.size + 1) f ∧ LinkAt ((w.alloc (.cells (linkB noE).toArray 113)).alloc (.cells (linkB noE).toArray 113)) w.heap.size noE ∧ SymE f ∧ linkAll n f (es.drop 0) = linkAll n noE es ∧ Below w.heap.size w ((w.alloc (.cells (linkB noE).toArray 113)).alloc (.cells (linkB noE).toArray 113))) := ⟨noE, hz0, hz1, symE_none, rfl, hb0⟩
  clear hb0 hz0 hz1
  go_loopw [13] (fun s wr => ∃ j : Nat, j ≤ es.length ∧ s = .int .i64 j ∧ Hid (∃ f, LinkAt wr (w.heap.size + 1) f ∧ LinkAt wr w.heap.size noE ∧ SymE f ∧ linkAll n f (es.drop j) = linkAll n noE es ∧ Below w.heap.size w wr)) (fun s _ => es.length - (intOf s).toNat)
  case atStart => exact ⟨0, Nat.zero_le _, rfl, HS⟩
  case round =>
    clear HS
    obtain ⟨j, hj, rfl, hst⟩ := hrel
    obtain ⟨f, hL, hZ, hsym, hlk, hbw⟩ := hst.out
    clear hst
    by_cases hl : j < es.length
    · obtain ⟨b, off, rfl, hb, hrow⟩ := HR.out (by omega)
      obtain ⟨r0, r1⟩ := hrow j hl
      have c0 := (hbw.cell (p := ⟨b, off + j * 2, none⟩) hb).trans r0
      have c1 := (hbw.cell (p := ⟨b, off + j * 2 + 1, none⟩) hb).trans r1
      have hlk' := hlk
      rw [linkAll_step hl] at hlk'
      clear hrow HR r0 r1 hlk
      generalize es[j] = ed at *
      obtain ⟨ea, eb⟩ := ed
      simp only at c0 c1 hlk'
      have q1 : (0 : Int) ≤ (j : Int) := by omega
      have q2 : (j : Int) < (es.length : Int) := by omega
      have HLK : Hid ((if edgeOk n f ea eb then linkAll n (addE f ea.toNat eb.toNat) (es.drop (j + 1)) else none) = linkAll n noE es) := hlk'
      clear hlk'
      have HL : Hid (LinkAt wr (w.heap.size + 1) f) := hL
      have HZ : Hid (LinkAt wr w.heap.size noE) := hZ
      clear hL hZ
      go_wp2
      go_quiet (fail)
      obtain ⟨W, hW⟩ : ∃ W : World, W = (wr.alloc (Obj.cells #[Value.int IntKind.i64 ea, Value.int IntKind.i64 eb] 53)).drewN nq := ⟨_, rfl⟩
      rw [← hW]
      have hbW0 : Below wr.heap.size wr W := by rw [hW]; exact below_drewN ((Below.refl _ wr).alloc (Nat.le_refl _) _) _
      clear hW
      have HLW : Hid (LinkAt W (w.heap.size + 1) f) := (hbW0.block _ (blk_lt HL.out)).trans HL.out
      have HZW : Hid (LinkAt W w.heap.size noE) := (hbW0.block _ (blk_lt HZ.out)).trans HZ.out
      have HBW : Hid (Below w.heap.size w W) := hbw.trans (hbW0.mono hbw.size)
      clear hbW0 HL HZ hbw c0 c1
      have HMM : Hid ((min ea eb = ea ∧ max ea eb = eb) ∨ (min ea eb = eb ∧ max ea eb = ea)) := minmax
      have HLE : Hid (min ea eb ≤ max ea eb) := by rw [Hid]; omega
      generalize min ea eb = lo at *
      generalize max ea eb = hi at *
      go_upto_region 6 with fail
      go_cut [45] from 27 to 55 (fun s45 wc => s45 = .bool (!edgeOk n f ea eb) ∧ wc = W)
      case first =>
        by_cases hA : lo < 0
        · have hE : edgeOk n f ea eb = false := by
            unfold edgeOk
            rw [decide_eq_false (by rcases HMM.out with ⟨h1, h2⟩ | ⟨h1, h2⟩ <;> omega)]
            rfl
          go_wp2
          go_meet
          case rel => exact ⟨by rw [hE]; rfl, rfl⟩
        · by_cases hB : (n : Int) ≤ hi
          · have hE : edgeOk n f ea eb = false := by
              unfold edgeOk
              rw [decide_eq_false (by rcases HMM.out with ⟨h1, h2⟩ | ⟨h1, h2⟩ <;> omega)]
              rfl
            go_wp2
            go_meet
            case rel => exact ⟨by rw [hE]; rfl, rfl⟩
          · by_cases hC : lo = hi
            · have hE : edgeOk n f ea eb = false := by
                unfold edgeOk
                rw [decide_eq_false (by rcases HMM.out with ⟨h1, h2⟩ | ⟨h1, h2⟩ <;> omega)]
                rfl
              subst hC
              go_wp2
              go_meet
              case rel => exact ⟨by rw [hE]; rfl, rfl⟩
            · obtain ⟨la, rfl⟩ : ∃ la : Nat, lo = la := ⟨lo.toNat, by omega⟩
              have hle := HLE.out
              obtain ⟨ha, rfl⟩ : ∃ ha : Nat, hi = ha := ⟨hi.toNat, by omega⟩
              have hE : edgeOk n f ea eb = !f la ha := by
                unfold edgeOk
                rw [decide_eq_true (by rcases HMM.out with ⟨h1, h2⟩ | ⟨h1, h2⟩ <;> omega), Bool.true_and]
                rcases HMM.out with ⟨h1, h2⟩ | ⟨h1, h2⟩
                · rw [← h1, ← h2, Int.toNat_natCast, Int.toNat_natCast]
                · rw [← h1, ← h2, Int.toNat_natCast, Int.toNat_natCast, hsym]
              have cc := HLW.out.cell (la * 6 + ha) (by omega)
              rw [show (la * 6 + ha) / 6 = la by omega, show (la * 6 + ha) % 6 = ha by omega] at cc
              have q3 : (0 : Int) ≤ (la : Int) := by omega
              have q4 : (la : Int) < 6 := by omega
              have q5 : (0 : Int) ≤ (ha : Int) := by omega
              have q6 : (ha : Int) < 6 := by omega
              have q7 : ¬ (la : Int) < 0 := by omega
              have q8 : ¬ (la : Int) = (ha : Int) := hC
              go_wp2
              go_meet
              case rel => exact ⟨by rw [hE]; simp [q8], rfl⟩
      case rest =>
        obtain ⟨rfl, rfl⟩ := hcut
        cases hE : edgeOk n f ea eb
        · have hfin := HLK.out
          rw [hE, if_neg (by simp)] at hfin
          have HF : Hid (linkAll n noE es = none) := hfin.symm
          have hz := HZW.out
          clear hfin HLK HMM HLE
          go_wp2_with (refine wpList_store_row rfl 113 _ _ rfl w.heap.size (linkB noE).toArray rfl rfl _ _ hz (linkI noE) rfl (linkB_one noE) ?_)
          obtain ⟨hZ', hB'⟩ := HZW.out.over HBW.out noE
          refine bodyPost_ret (v := .tuple #[.agg (linkB noE).toArray, .bool false]) ?_ rfl ⟨?_, hB'⟩
          · exact results_link Tryz.results59 _ rfl rfl hZ'
          · rw [HF.out]; rfl
        · have hfin := HLK.out
          rw [hE, if_pos rfl] at hfin
          obtain ⟨la, ha, rfl, rfl, hla, hha, hlh, hadd⟩ := edge_nat hE HMM.out HLE.out
          have hst : Hid (LinkAt ((wc.setCell ⟨w.heap.size + 1, la * 6 + ha, none⟩ (.bool true)).setCell ⟨w.heap.size + 1, ha * 6 + la, none⟩ (.bool true)) (w.heap.size + 1) (addE f ea.toNat eb.toNat) ∧ LinkAt ((wc.setCell ⟨w.heap.size + 1, la * 6 + ha, none⟩ (.bool true)).setCell ⟨w.heap.size + 1, ha * 6 + la, none⟩ (.bool true)) w.heap.size noE ∧ Below w.heap.size w ((wc.setCell ⟨w.heap.size + 1, la * 6 + ha, none⟩ (.bool true)).setCell ⟨w.heap.size + 1, ha * 6 + la, none⟩ (.bool true))) := by
            rw [hadd]
            exact HLW.out.add HZW.out HBW.out (by omega) (by omega)
          have cA := HLW.out.cell (la * 6 + ha) (by omega)
          have cB := HLW.out.cell (ha * 6 + la) (by omega)
          have fA := blk_thaw HLW.out (la * 6 + ha)
          have fB := blk_thaw HLW.out (ha * 6 + la)
          have HSY : Hid (SymE (addE f ea.toNat eb.toNat)) := symE_add hsym _ _
          have HFI : Hid (linkAll n (addE f ea.toNat eb.toNat) (es.drop (j + 1)) = linkAll n noE es) := hfin
          clear HLW HZW HBW HMM HLE HLK hfin hsym hE hadd
          have q3 : (0 : Int) ≤ (la : Int) := by omega
          have q4 : (la : Int) < 6 := by omega
          have q5 : (0 : Int) ≤ (ha : Int) := by omega
          have q6 : (ha : Int) < 6 := by omega
          have hne : la * 6 + ha ≠ ha * 6 + la := by omega
          have hne' : ha * 6 + la ≠ la * 6 + ha := by omega
          go_wp2
          go_region_held3 (fun w' => True) (trivial) (fail)
          all_goals go_wp2
          exact ⟨⟨j + 1, by omega, by go_num, _, hst.out.1, hst.out.2.1, HSY.out, HFI.out, hst.out.2.2.drew⟩, by simp [intOf]; omega⟩
    · rw [linkAll_end (by omega)] at hlk
      have HLK : Hid (linkAll n noE es = some f) := hlk.symm
      have q2 : ¬ (j : Int) < (es.length : Int) := by omega
      have HZ : Hid (LinkAt wr w.heap.size noE) := hZ
      have HB : Hid (Below w.heap.size w wr) := hbw
      clear hlk hsym HR hbw
      go_wp2_with (first | (refine wpList_load_row rfl 113 _ rfl (w.heap.size + 1) rfl _ _ _ _ hL Tryz.underlying113 rfl (linkI f) ?_) | (refine wpList_store_row rfl 113 _ _ rfl w.heap.size (linkB f).toArray rfl rfl _ _ hZ (linkI f) rfl (linkB_one f) ?_))
      obtain ⟨hZ', hB'⟩ := HZ.out.over HB.out f
      refine bodyPost_ret (v := .tuple #[.agg (linkB f).toArray, .bool true]) ?_ rfl ⟨?_, hB'⟩
      · exact results_link Tryz.results59 _ rfl rfl hZ'
      · rw [HLK.out]; rfl
end Go.Proofs.YtahdlejgjcjeoaaGreatDoor
