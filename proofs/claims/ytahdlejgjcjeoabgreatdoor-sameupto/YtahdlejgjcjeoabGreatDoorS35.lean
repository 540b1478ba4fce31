/- The card of the law Same in its second form is proved: for all settings, all choices of BP and RR and all scripts of bulk at most 1048576 in all the law answers true (two clusters that differ in BP and RR alone: every answer, every state, value and number, every frame's head is the same, whatever is done; with both set each frame is below the other's, and the weight no greater) and the arguments read as before. Conditions: the bulk; the tables ripple/state.steps and ripple/state.rules lie as the program's text lays them (the card ties them, to the pruned copy of the project). -/
import Derived.Test.YtahdlejgjcjeoabGreatDoorS34
import Derived.Conc.Holds
import Derived.Deep.DeepHandedRow
import Derived.JoinedCond
import Derived.Below
import Derived.SevenTiedAt
import Derived.Test.YtahdlejgjcjeoabGreatDoorCards
import Derived.Test.YtahdlejgjcjeoabGreatDoorTie
import Derived.Test.YtahdlejgjcjeoabGreatDoorS09
import Derived.WalkKit
import Derived.ProofKit
import Derived.OpenShut
import Derived.Carry
import Derived.LaidLaws
namespace Go.Proofs.YtahdlejgjcjeoabGreatDoor
open Go.RowKit
/-- Where Same stands. -/
def SmP (Z w : World) (x y : Nat) (b : Bool) (i j : Nat) : Prop := ∃ c0 cx cy, Sm (Snap.all Z) w x y b (i + 2 * j) (20 * i + 40 * j) c0 cx cy
theorem SmP.bel {Z w : World} {x y i j : Nat} {b : Bool} (h : SmP Z w x y b i j) : Below Z.heap.size Z w := by
  obtain ⟨c0, cx, cy, h⟩ := h
  exact h.bi.bel
set_option maxRecDepth 100000 in
set_option maxHeartbeats 8000000 in
theorem same_walk (v vs : Value) (rs : List (Int × Int)) (l : List ActV) (reps room : Int) (bp0 rr0 bp rr : Bool) (w : World) (hr : RulesAt w) (hst : StepsAt w) (hv : EdgesOf w v rs) (hlen : rs.length ≤ 1048576) (h1 : i64r reps) (h2 : i64r room) (hrs : ∀ e ∈ rs, i64r e.1 ∧ i64r e.2) (hs : ActsOf w vs l) (hll : l.length ≤ 87381) (hfit : ∀ a ∈ l, a.fit) :
    Calls Tryz.prog 5 #[.agg #[.int .i64 reps, v, .bool bp0, .bool rr0, .int .i64 room], .bool bp, .bool rr, vs] w fun e w' => e = .returned (.bool true) ∧ Below w.heap.size w w' := by
  have HSE : Hid (∀ W, Below w.heap.size w W → Calls Tryz.prog 11 #[.agg #[.int .i64 reps, v, .bool bp0, .bool rr0, .int .i64 room]] W fun e w' => ∃ (n : Nat) (rm : Int) (ad : Option Addr) (cp : Nat) (es : List (Int × Int)), e = .returned (.agg #[.int .i64 n, .slice ad es.length cp, .bool bp0, .bool rr0, .int .i64 rm]) ∧ Hid (newOk n rm es = true ∧ es.length ≤ 1048576) ∧ Hid (w'.ownsRow W.heap.size 55 2 (.slice ad es.length cp) es.length (es.flatMap edV)) ∧ Below W.heap.size W w') := fun W hW => by
    refine (settings_any v rs reps room bp0 rr0 W (hv.below hW) hlen h1 h2 hrs).mono fun e w' ⟨n, rm, u, es, k1, k2, k3, k4, k5⟩ => ?_
    obtain ⟨ad, cp, hu⟩ := own_form k4
    subst hu
    exact ⟨n, rm, ad, cp, es, k1, ⟨k2, k3⟩, k4, k5⟩
  have HR := Hid.mk hr
  have HST := Hid.mk hst
  have HS := Hid.mk hs
  have HF := Hid.mk hfit
  obtain ⟨ad, cap, rfl, -⟩ := hv
  obtain ⟨adS, capS, rfl, -⟩ := hs
  obtain ⟨m, HLN⟩ : ∃ m, Hid (l.length = m) := ⟨_, rfl⟩
  rw [HLN.out] at hll HS ⊢
  clear hr hst hfit h1 h2 hrs
  obtain ⟨b, hbb⟩ : ∃ b : Bool, b = (bp && rr && !bp0 && !rr0) := ⟨_, rfl⟩
  have HBO : Hid (b = true → bp0 = false ∧ rr0 = false) := fun e => by
    rw [hbb] at e
    simp at e
    exact ⟨e.1.2, e.2⟩
  have HBV := Hid.mk hbb
  clear hbb
  go_enter Tryz.func5, Tryz.ntmps5
  go_wp2_with fail
  refine (HSE.out _ (below_alloc (Below.refl _ _) _)).mono ?_
  rintro e wS ⟨n, rm, adu, capu, es, rfl, hok, hown, hbS⟩
  have HCD := Hid.mk (cd_made (w := w) (n := n) (rm := rm) (bp0 := bp0) (rr0 := rr0) (bp := bp) (rr := rr) rfl hbS hown.out)
  have hq := (hbS.block _ (blk_lt (heap_alloc_new w _))).trans (heap_alloc_new w _)
  obtain ⟨c0, c1, c2, c3, c4⟩ : (∃ u, wS.cell? ⟨w.heap.size, 0, none⟩ = some u) ∧ (∃ u, wS.cell? ⟨w.heap.size, 1, none⟩ = some u) ∧ (∃ u, wS.cell? ⟨w.heap.size, 2, none⟩ = some u) ∧ (∃ u, wS.cell? ⟨w.heap.size, 3, none⟩ = some u) ∧ (∃ u, wS.cell? ⟨w.heap.size, 4, none⟩ = some u) := ⟨⟨_, (blk_cell hq 0).trans rfl⟩, ⟨_, (blk_cell hq 1).trans rfl⟩, ⟨_, (blk_cell hq 2).trans rfl⟩, ⟨_, (blk_cell hq 3).trans rfl⟩, ⟨_, (blk_cell hq 4).trans rfl⟩⟩
  obtain ⟨y0, c0⟩ := c0
  obtain ⟨y1, c1⟩ := c1
  obtain ⟨y2, c2⟩ := c2
  obtain ⟨y3, c3⟩ := c3
  obtain ⟨y4, c4⟩ := c4
  have fz := blk_thaw hq
  have hlt : w.heap.size < wS.heap.size := blk_lt hq
  unfold set5 at HCD
  clear hbS hown HSE hq
  go_wp2_with fail
  clear c0 c1 c2 c3 c4 fz y0 y1 y2 y3 y4
  generalize ((((((wS.setCell ⟨w.heap.size, 0, none⟩ (.int .i64 n)).setCell ⟨w.heap.size, 1, none⟩ (.slice adu es.length capu)).setCell ⟨w.heap.size, 2, none⟩ (.bool bp0)).setCell ⟨w.heap.size, 3, none⟩ (.bool rr0)).setCell ⟨w.heap.size, 4, none⟩ (.int .i64 rm)).alloc (.cells #[.int .i64 n, .slice adu es.length capu, .bool bp, .bool rr, .int .i64 rm] 24)) = wD at HCD ⊢
  have hnums := newOk_nums hok.out.1
  have HNW : Hid (∀ W b1 b2, Below wD.heap.size wD W → Calls Tryz.prog 18 #[.agg #[.int .i64 n, .slice adu es.length capu, .bool b1, .bool b2, .int .i64 rm]] W fun e w' => Below W.heap.size W w' ∧ ∃ x R F, e = .returned (.tuple #[.pointer (some ⟨x, 0, none⟩), .int .i64 0]) ∧ Hid (linkAll n noE es = some F ∧ FillQ W w' x R n n b1 b2 rm F)) := fun W b1 b2 hW => by
    refine (prgNew2 _ es n rm b1 b2 W (HCD.out.ed.below hW) hok.out.2).mono fun e w' ⟨h1, h2⟩ => ⟨h1, ?_⟩
    rcases h2 with ⟨h2, -⟩ | ⟨-, x, R, h3, F, h4, h5⟩
    · rw [hok.out.1] at h2; cases h2
    · rw [Int.toNat_natCast] at h4 h5
      exact ⟨x, R, F, h3, h4, h5⟩
  have HRD := Hid.mk (HR.out.below HCD.out.bel HR.out.1)
  have HSD := Hid.mk (HST.out.block (HCD.out.bel.block 0 HST.out.1) HCD.out.bel.size)
  have HPL : Hid (∀ W, Below wD.heap.size wD W → Calls Tryz.prog 19 #[.agg #[.int .i64 n, .slice adu es.length capu, .bool bp0, .bool rr0, .int .i64 rm]] W fun e w' => ∃ P : Nat, e = .returned (.pointer (some ⟨P, 0, none⟩)) ∧ Below W.heap.size W w') := fun W hW => by
    refine (player_any _ es n rm bp0 rr0 W (HRD.out.below hW HRD.out.1) (HSD.out.block (hW.block 0 HSD.out.1) hW.size) (HCD.out.ed.below hW) hok.out.2 hok.out.1).mono fun e w' ⟨P, x, U, c, he, hg, _⟩ => ⟨P, he, ?_⟩
    obtain ⟨D, ⟨L, hp⟩, -⟩ := hg.pm
    exact hp.bel
  have HCC : Hid (∀ W, Below wD.heap.size wD W → W.heap[w.heap.size]? = some (.cells #[.int .i64 n, .slice adu es.length capu, .bool bp0, .bool rr0, .int .i64 rm] 24 (0, 0))) := fun W hW => (hW.block _ (blk_lt HCD.out.c)).trans HCD.out.c
  have HDD : Hid (∀ W, Below wD.heap.size wD W → W.heap[wS.heap.size]? = some (.cells #[.int .i64 n, .slice adu es.length capu, .bool bp, .bool rr, .int .i64 rm] 24 (0, 0))) := fun W hW => (hW.block _ (blk_lt HCD.out.d)).trans HCD.out.d
  have HBD := Hid.mk HCD.out.bel
  have HSS := Hid.mk (HS.out.below HBD.out)
  clear HCD HR HST HS hok
  refine (HNW.out _ _ _ (Below.refl _ _)).mono ?_
  rintro e w1 ⟨hb1, x, R, F, rfl, hQ⟩
  have HB1 := Hid.mk hb1
  clear hb1
  obtain ⟨d0, d1, d2, d3, d4⟩ : w1.cell? ⟨wS.heap.size, 0, none⟩ = some (.int .i64 n) ∧ w1.cell? ⟨wS.heap.size, 1, none⟩ = some (.slice adu es.length capu) ∧ w1.cell? ⟨wS.heap.size, 2, none⟩ = some (.bool bp) ∧ w1.cell? ⟨wS.heap.size, 3, none⟩ = some (.bool rr) ∧ w1.cell? ⟨wS.heap.size, 4, none⟩ = some (.int .i64 rm) := by
    have := HDD.out _ HB1.out
    exact ⟨(blk_cell this 0).trans rfl, (blk_cell this 1).trans rfl, (blk_cell this 2).trans rfl, (blk_cell this 3).trans rfl, (blk_cell this 4).trans rfl⟩
  go_wp2_with fail
  refine (HNW.out _ _ _ HB1.out).mono ?_
  rintro e w2 ⟨hb2, y, R', F', rfl, hQ'⟩
  have HSM : Hid (Sm (Snap.all wD) w2 x y b 0 0 (clu0 rm.toNat false false n F) (clu0 rm.toNat bp0 rr0 n F) (clu0 rm.toNat bp rr n F)) := by
    have e1 := hQ.out.1
    rw [hQ'.out.1] at e1
    cases e1
    exact sm_new HRD.out HSD.out hQ.out.2 hQ'.out.2 hQ'.out.1 ⟨hnums.1, hnums.2.1⟩ hnums.2.2 HBO.out
  have HB2 := Hid.mk (HB1.out.trans (hb2.mono HB1.out.size))
  clear hb2 hQ hQ' HNW d0 d1 d2 d3 d4 HDD HRD HSD
  obtain ⟨k0, k1, k2, k3, k4⟩ : w2.cell? ⟨w.heap.size, 0, none⟩ = some (.int .i64 n) ∧ w2.cell? ⟨w.heap.size, 1, none⟩ = some (.slice adu es.length capu) ∧ w2.cell? ⟨w.heap.size, 2, none⟩ = some (.bool bp0) ∧ w2.cell? ⟨w.heap.size, 3, none⟩ = some (.bool rr0) ∧ w2.cell? ⟨w.heap.size, 4, none⟩ = some (.int .i64 rm) := by
    have := HCC.out _ HB2.out
    exact ⟨(blk_cell this 0).trans rfl, (blk_cell this 1).trans rfl, (blk_cell this 2).trans rfl, (blk_cell this 3).trans rfl, (blk_cell this 4).trans rfl⟩
  go_wp2_with fail
  refine (HPL.out _ HB2.out).mono ?_
  rintro e w3 ⟨P, rfl, hb3⟩
  have HB3 := Hid.mk (HB2.out.trans (hb3.mono HB2.out.size))
  have HP0 : Hid (SmP wD w3 x y b 0 0) := ⟨_, _, _, HSM.out.same hb3⟩
  have m2 := cell_kept k2 hb3
  have m3 := cell_kept k3 hb3
  clear hb3 HSM HPL HB2 HB1 k0 k1 k2 k3 k4
  by_cases hT : bp = true ∧ rr = true ∧ bp0 = false ∧ rr0 = false
  · obtain ⟨rfl, rfl, rfl, rfl⟩ := hT
    have hbt : b = true := HBV.out
    subst hbt
    clear HBV HBO
    go_wp2_with fail
    clear m2 m3
    go_loopw [16] (fun s wr => ∃ i : Nat, i ≤ m ∧ s = .int .i64 i ∧ Hid (SmP wD wr x y true i 0)) (fun s _ => m - (intOf s).toNat)
    case atStart => exact ⟨0, Nat.zero_le _, rfl, HP0⟩
    case round =>
      clear HP0 HB3
      obtain ⟨i, hi, rfl, hp⟩ := hrel
      by_cases hlt2 : i < m
      · have q1 : (i : Int) < (m : Int) := by omega
        have q2 : (0 : Int) ≤ (i : Int) := by omega
        have hil : i < l.length := by rw [HLN.out]; exact hlt2
        obtain ⟨bb, off, cp, hv0, hbl, e0, e1, e2, e3, e4, e5, e6, e7, e8, e9⟩ := (HSS.out.below hp.out.bel).nth i hil
        cases hv0
        have ha := HF.out _ (List.getElem_mem hil)
        obtain ⟨c0, cx, cy, hsm⟩ := hp.out
        generalize l[i] = a at *
        obtain ⟨ak, ar, aq, an, ⟨ty, ky, sd, el, on⟩, key⟩ := a
        have HA := Hid.mk (hsm.lAlike (by omega) (by omega) ak ar aq an ty ky sd el on key ha)
        simp only at e0 e1 e2 e3 e4 e5 e6 e7 e8 e9
        clear ha hp hsm
        go_wp2_with fail
        refine HA.out.mono ?_
        rintro e w5 ⟨rfl, c0', cx', cy', h5⟩
        have HP5 : Hid (SmP wD w5 x y true (i + 1) 0) := ⟨c0', cx', cy', h5.later (by omega) (by omega)⟩
        clear h5 HA e0 e1 e2 e3 e4 e5 e6 e7 e8 e9
        go_wp2
        exact ⟨⟨i + 1, by omega, by go_num, HP5⟩, by simp [intOf]; omega⟩
      · have q1 : ¬ (i : Int) < (m : Int) := by omega
        have him : m = i := by omega
        subst him
        go_wp2
        go_loopw [18] (fun s wr => ∃ r : Nat, r ≤ n ∧ s = .int .i64 r ∧ Hid (SmP wD wr x y true m r)) (fun s _ => n - (intOf s).toNat)
        case atStart => exact ⟨0, Nat.zero_le _, rfl, hp⟩
        case round =>
          clear hp
          obtain ⟨r, hr, rfl, hp⟩ := hrel
          have k0 : wr.cell? ⟨w.heap.size, 0, none⟩ = some (.int .i64 n) := (blk_cell (HCC.out _ hp.out.bel) 0).trans rfl
          by_cases hrl : r < n
          · have q3 : (r : Int) < (n : Int) := by omega
            obtain ⟨c0, cx, cy, hsm⟩ := hp.out
            have HA := Hid.mk (hsm.lAlike13 (by omega) (by omega) r 0 0 0 ⟨#[]⟩ 0 ⟨#[]⟩ 0 ⟨#[]⟩)
            clear hp hsm
            go_wp2_with fail
            refine HA.out.mono ?_
            rintro e w5 ⟨rfl, c0', cx', cy', h5⟩
            have HA2 := Hid.mk (h5.lAlike17 (by omega) (by omega) r 0 0 0 ⟨#[]⟩ 0 ⟨#[]⟩ 0 ⟨#[]⟩)
            clear h5 HA k0
            go_wp2_with fail
            refine HA2.out.mono ?_
            rintro e w6 ⟨rfl, c0'', cx'', cy'', h6⟩
            have HP6 : Hid (SmP wD w6 x y true m (r + 1)) := ⟨c0'', cx'', cy'', h6.later (by omega) (by omega)⟩
            clear h6 HA2
            go_wp2
            exact ⟨⟨r + 1, by omega, by go_num, HP6⟩, by simp [intOf]; omega⟩
          · have q3 : ¬ (r : Int) < (n : Int) := by omega
            have HBF := Hid.mk (HBD.out.trans (hp.out.bel.mono HBD.out.size))
            clear hp
            go_wp2
            go_ret
            exact ⟨rfl, HBF.out⟩
  · have hbf : b = false := by
      rw [HBV.out]
      cases bp <;> cases rr <;> cases bp0 <;> cases rr0 <;> simp_all
    subst hbf
    clear HBV HBO
    have h4 : bp = false ∨ (bp = true ∧ rr = false) ∨ (bp = true ∧ rr = true ∧ bp0 = true) ∨ (bp = true ∧ rr = true ∧ bp0 = false ∧ rr0 = true) := by
      cases bp <;> cases rr <;> cases bp0 <;> cases rr0 <;> simp_all
    clear hT
    rcases h4 with rfl | ⟨rfl, rfl⟩ | ⟨rfl, rfl, rfl⟩ | ⟨rfl, rfl, rfl, rfl⟩
    all_goals
      go_wp2_with fail
      clear m2 m3
      go_loopw [16] (fun s wr => ∃ i : Nat, i ≤ m ∧ s = .int .i64 i ∧ Hid (SmP wD wr x y false i 0)) (fun s _ => m - (intOf s).toNat)
      case atStart => exact ⟨0, Nat.zero_le _, rfl, HP0⟩
      case round =>
        clear HP0 HB3
        obtain ⟨i, hi, rfl, hp⟩ := hrel
        by_cases hlt2 : i < m
        · have q1 : (i : Int) < (m : Int) := by omega
          have q2 : (0 : Int) ≤ (i : Int) := by omega
          have hil : i < l.length := by rw [HLN.out]; exact hlt2
          obtain ⟨bb, off, cp, hv0, hbl, e0, e1, e2, e3, e4, e5, e6, e7, e8, e9⟩ := (HSS.out.below hp.out.bel).nth i hil
          cases hv0
          have ha := HF.out _ (List.getElem_mem hil)
          obtain ⟨c0, cx, cy, hsm⟩ := hp.out
          generalize l[i] = a at *
          obtain ⟨ak, ar, aq, an, ⟨ty, ky, sd, el, on⟩, key⟩ := a
          have HA := Hid.mk (hsm.lAlike (by omega) (by omega) ak ar aq an ty ky sd el on key ha)
          simp only at e0 e1 e2 e3 e4 e5 e6 e7 e8 e9
          clear ha hp hsm
          go_wp2_with fail
          refine HA.out.mono ?_
          rintro e w5 ⟨rfl, c0', cx', cy', h5⟩
          have HP5 : Hid (SmP wD w5 x y false (i + 1) 0) := ⟨c0', cx', cy', h5.later (by omega) (by omega)⟩
          clear h5 HA e0 e1 e2 e3 e4 e5 e6 e7 e8 e9
          go_wp2
          exact ⟨⟨i + 1, by omega, by go_num, HP5⟩, by simp [intOf]; omega⟩
        · have q1 : ¬ (i : Int) < (m : Int) := by omega
          have him : m = i := by omega
          subst him
          go_wp2
          go_loopw [18] (fun s wr => ∃ r : Nat, r ≤ n ∧ s = .int .i64 r ∧ Hid (SmP wD wr x y false m r)) (fun s _ => n - (intOf s).toNat)
          case atStart => exact ⟨0, Nat.zero_le _, rfl, hp⟩
          case round =>
            clear hp
            obtain ⟨r, hr, rfl, hp⟩ := hrel
            have k0 : wr.cell? ⟨w.heap.size, 0, none⟩ = some (.int .i64 n) := (blk_cell (HCC.out _ hp.out.bel) 0).trans rfl
            by_cases hrl : r < n
            · have q3 : (r : Int) < (n : Int) := by omega
              obtain ⟨c0, cx, cy, hsm⟩ := hp.out
              have HA := Hid.mk (hsm.lAlike13 (by omega) (by omega) r 0 0 0 ⟨#[]⟩ 0 ⟨#[]⟩ 0 ⟨#[]⟩)
              clear hp hsm
              go_wp2_with fail
              refine HA.out.mono ?_
              rintro e w5 ⟨rfl, c0', cx', cy', h5⟩
              have HA2 := Hid.mk (h5.lAlike17 (by omega) (by omega) r 0 0 0 ⟨#[]⟩ 0 ⟨#[]⟩ 0 ⟨#[]⟩)
              clear h5 HA k0
              go_wp2_with fail
              refine HA2.out.mono ?_
              rintro e w6 ⟨rfl, c0'', cx'', cy'', h6⟩
              have HP6 : Hid (SmP wD w6 x y false m (r + 1)) := ⟨c0'', cx'', cy'', h6.later (by omega) (by omega)⟩
              clear h6 HA2
              go_wp2
              exact ⟨⟨r + 1, by omega, by go_num, HP6⟩, by simp [intOf]; omega⟩
            · have q3 : ¬ (r : Int) < (n : Int) := by omega
              have HBF := Hid.mk (HBD.out.trans (hp.out.bel.mono HBD.out.size))
              clear hp
              go_wp2
              go_ret
              exact ⟨rfl, HBF.out⟩
end Go.Proofs.YtahdlejgjcjeoabGreatDoor

namespace Go.Proofs.YtahdlejgjcjeoabGreatDoor

/-- WHAT A CALL LEAVES THAT WRITES INTO NEW MEMORY ALONE. -/
theorem post_of_below {H : Type} {enc : TypeId × Value → H} {P : Program} {f : Func} {s : ChangeSpec} {apart fresh handsOn again : Bool} {W W' : World} {args : Array Value} {v : Value} {ds gs : List (DataW H)} {before pa pv : List MemPlace}
    (hW : DataW.Whole enc P f.params.toList s.vars apart W args.toList ds gs before)
    (hres : ∀ (b : Nat) (sp : Nat → Bool) (hd : Bool), DataW.TrodAll enc P W' b sp hd f.resultTypes.toList (v.resultList f.resultTypes.size) (s.fn H (ds ++ gs)).results [])
    (hargs : ∀ sp : Nat → Bool, (∀ p ∈ before, sp p.block = true) → DataW.TrodAll enc P W' 0 sp true f.params.toList args.toList (s.fn H (ds ++ gs)).args pa)
    (hvars : ∀ sp : Nat → Bool, (∀ p ∈ before, sp p.block = true) → DataW.TrodVars enc P W' sp s.vars (s.fn H (ds ++ gs)).vars pv)
    (hps : before = pa ++ pv) (hb : RowKit.Below W.heap.size W W')
    (hok : ∀ (j : Nat) (t : TypeId) (r : Value), f.resultTypes[j]? = some t → (v.resultList f.resultTypes.size)[j]? = some r → Value.okWide P W' .any 0 t r) :
    s.post enc P f apart fresh handsOn again W args v W' := by
  have hlt : ∀ p ∈ before, p.block < W.heap.size := fun p hp => hW.lt p hp
  have hold : ∀ p ∈ before, (fun b => decide (b < W.heap.size)) p.block = true := fun p hp => by simpa using hlt p hp
  refine ⟨ds, gs, before, [], pa, pv, hW, hres _ _ _, hargs _ hold, hvars _ hold, hb.frame _, fun _ => ?_⟩
  obtain ⟨_, _, _, _, _, hz, hn⟩ := hW
  refine ⟨hok, _, _, ([] ++ pa) ++ pv, ⟨[] ++ pa, pv, ChangeShapes.trodAll_append (hargs _ (fun _ _ => rfl)) (hres _ _ _), hvars _ (fun _ _ => rfl), rfl, ?_, ?_⟩, ?_⟩
  · intro b off hp
    have hp' : MemPlace.cell b off ∈ before := by rw [hps]; simpa using hp
    rw [hb.frozen (hlt _ hp')]
    exact hz b off hp'
  · intro ha
    have := hn ha
    rw [hps] at this
    simpa using this
  · intro p hp _
    rw [hps]
    simpa using hp

end Go.Proofs.YtahdlejgjcjeoabGreatDoor

namespace Go.Proofs.YtahdlejgjcjeoabGreatDoor.sameCardP
open Go.ChangeShapes Go.WideShapes Go.ChangeAt Go.RowKit

theorem own : ownKnob Tryz.prog.godebug = none := by kernel_rfl
theorem lays : laidOutB Tryz.prog = true := by kernel_rfl
theorem readC : Tryz.prog.readableRec 24 = true := by kernel_rfl
theorem readS : Tryz.prog.readableRec 25 = true := by kernel_rfl
theorem readB : Tryz.prog.readableRec 4 = true := by kernel_rfl
theorem rowB : 4 < Tryz.prog.types.size := of_decide_eq_true (by kernel_rfl)
theorem rowS : 25 < Tryz.prog.types.size := of_decide_eq_true (by kernel_rfl)
theorem rowC : 24 < Tryz.prog.types.size := of_decide_eq_true (by kernel_rfl)

set_option maxRecDepth 100000 in
/-- FOR EVERY INPUT OF THAT BULK AND EVERY WORLD THAT HOLDS THE TABLE. -/
theorem contract (H : Type) (en : TypeId × Value → H) (W : World) (base : Nat) (args : Array Value) (ds gs : List (DataW H)) (before : List MemPlace)
    (hval : ∀ (j : Nat) t v, Tryz.f5.params[j]? = some t → args[j]? = some v → Value.okWide Tryz.prog W .any base t v)
    (hW : DataW.Whole en Tryz.prog Tryz.f5.params.toList Rows.sameSpec.vars false W args.toList ds gs before) (hk : Rows.uptoSmall H (ds ++ gs) = true) (hL : laidMetH Tryz.prog Rows.sameUptoRow.laid W) :
    Calls Tryz.prog 5 args W fun e W' => ∃ v, e = .returned v ∧ Rows.sameSpec.post en Tryz.prog Tryz.f5 false true false false W args v W' := by
  have hW' := hW
  obtain ⟨p, q, hA0, hV, rfl, hfz, hnd⟩ := hW
  have hA : DataW.TrodAll en Tryz.prog W 0 (fun _ => true) true Tryz.f5.params.toList args.toList ds p := hA0
  rw [Tryz.params5] at hA hval
  obtain ⟨v0, v1, v2, v3, d0, d1, d2, d3, p0, p1, p2, p3, rfl, rfl, rfl, h0, h1, h2, h3⟩ := trodAll_four hA
  obtain ⟨rfl, rfl⟩ := trodVars_none hV
  clear hA0
  have hb : Rows.uptoBulk d0 + (Rows.uptoBulk d1 + (Rows.uptoBulk d2 + (Rows.uptoBulk d3 + 0))) ≤ 1048576 := by simpa [Rows.uptoSmall, Rows.uptoBulkAll] using hk
  obtain ⟨reps, room, bp, rr, vE, es, rfl, hed, hel, hre, hro, her⟩ := open_cfgR (hval 0 _ v0 rfl rfl) h0 (by omega)
  obtain ⟨b1, rfl, rfl, rfl⟩ := open_bool Tryz.underlying4 (hval 1 _ v1 rfl rfl) h1
  obtain ⟨b2, rfl, rfl, rfl⟩ := open_bool Tryz.underlying4 (hval 2 _ v2 rfl rfl) h2
  obtain ⟨l, hs, hll, hfit⟩ := open_script (hval 3 _ v3 rfl rfl) h3 (by omega)
  have hr := rules_of_laid2 hL
  have hst := steps_of_laid hL
  refine (same_walk vE v3 es l reps room bp rr b1 b2 W hr hst hed hel hre hro her hs hll hfit).mono fun e W' ⟨he, hbel⟩ => ?_
  subst he
  have hlt : ∀ x ∈ p0 ++ [] ++ [] ++ p3, x.block < W.heap.size := fun x hx => hW'.lt x (by simpa using hx)
  refine ⟨_, rfl, post_of_below (pa := p0 ++ [] ++ [] ++ p3) (pv := []) hW' (fun _ _ _ => trodAll_cons_mk (shut_bool Tryz.underlying4 _) trodAll_mk0) (fun sp hsp => ?_) (fun _ _ => rfl) rfl hbel (ok_one (by kernel_rfl) rfl (okWide_bool_mk Tryz.underlying4 _))⟩
  rw [Tryz.params5]
  have k0 : DataW.Trod en Tryz.prog W' 0 sp true 24 (.agg #[.int .i64 reps, vE, .bool bp, .bool rr, .int .i64 room]) d0 p0 := WideElems.Trod_stays lays readC rowC h0 (fun x hx => hbel.same (hlt x (by simp [hx]))) (fun x hx => hsp x (by simp [hx]))
  have k1 : DataW.Trod en Tryz.prog W' 0 sp true 4 (.bool b1) (.lit (.bool b1)) [] := WideElems.Trod_stays lays readB rowB h1 (fun x hx => by cases hx) (fun x hx => by cases hx)
  have k2 : DataW.Trod en Tryz.prog W' 0 sp true 4 (.bool b2) (.lit (.bool b2)) [] := WideElems.Trod_stays lays readB rowB h2 (fun x hx => by cases hx) (fun x hx => by cases hx)
  have k3 : DataW.Trod en Tryz.prog W' 0 sp true 25 v3 d3 p3 := WideElems.Trod_stays lays readS rowS h3 (fun x hx => hbel.same (hlt x (by simp [hx]))) (fun x hx => hsp x (by simp [hx]))
  rw [show p0 ++ [] ++ [] ++ p3 = p0 ++ ([] ++ ([] ++ p3)) by simp]
  exact trodAll_mk4 k0 k1 k2 k3

/-- A WORLD FOR THE WITNESS. -/
def layCells (cs : Array Value) : Obj → Obj
  | .cells _ t frozen => .cells cs t frozen
  | o => o
def laidWorld (P : Program) (os : Os) : World :=
  { World.holding P os ⟨#[], #[], []⟩ with heap := ((World.holding P os ⟨#[], #[], []⟩).heap.modify 1 (layCells #[.int .i64 0, .int .i64 5, .int .i64 1, .int .i64 2147483647, .int .i64 0, .bool false, .int .i64 1, .int .i64 5, .int .i64 1, .int .i64 2147483647, .int .i64 0, .bool false, .int .i64 0, .int .i64 0, .int .i64 0, .int .i64 0, .int .i64 8, .bool false, .int .i64 1, .int .i64 0, .int .i64 0, .int .i64 0, .int .i64 8, .bool false, .int .i64 0, .int .i64 5, .int .i64 1, .int .i64 2147483647, .int .i64 8, .bool true])).modify 0 (layCells #[.int .i64 0, .int .i64 1, .int .i64 1000, .int .i64 0, .bool false, .int .i64 0, .int .i64 (-1000), .int .i64 1000, .int .i64 0, .bool true, .int .i64 0, .int .i64 0, .int .i64 0, .int .i64 8, .bool false, .int .i64 1, .int .i64 0, .int .i64 0, .int .i64 8, .bool false, .int .i64 0, .int .i64 0, .int .i64 0, .int .i64 8, .bool false]) }
theorem laid_met (os : Os) : laidMet Tryz.prog Rows.sameUptoRow.laid ((laidWorld Tryz.prog os).forCall (fun _ _ => 0) ⟨#[], #[.agg #[.int .i64 0, .slice none 0 0, .bool false, .bool false, .int .i64 0], .bool false, .bool false, .slice none 0 0], []⟩).memory :=
  laidMet_of_run' 8 (by kernel_rfl) (by kernel_rfl)
theorem reads (os : Os) {H : Type} (en : TypeId × Value → H) : ∃ places, DataW.whole en Tryz.prog ((laidWorld Tryz.prog os).forCall (fun _ _ => 0) ⟨#[], #[.agg #[.int .i64 0, .slice none 0 0, .bool false, .bool false, .int .i64 0], .bool false, .bool false, .slice none 0 0], []⟩).memory Tryz.f5.params.toList Rows.sameSpec.vars false #[Value.agg #[.int .i64 0, .slice none 0 0, .bool false, .bool false, .int .i64 0], .bool false, .bool false, .slice none 0 0].toList 8 = some ([.agg [.lit (.int .i64 0), .nil, .lit (.bool false), .lit (.bool false), .lit (.int .i64 0)], .lit (.bool false), .lit (.bool false), .nil], [], places) :=
  ⟨[], by kernel_rfl⟩

set_option maxRecDepth 100000 in
theorem liftedUpto (os : Os) (started : os.Started) (H : Type) (en : TypeId × Value → H) (F : Stop.Interp) :
    ReturnsInHanded {} Tryz.checked os 5 .any ((Rows.OpenSpec.upto Rows.sameSpec).preRow en Tryz.prog Tryz.f5 Rows.sameUptoRow.domain false Rows.sameUptoRow.laid) (((Rows.OpenSpec.upto Rows.sameSpec).at F).post en Tryz.prog Tryz.f5 false true false false) := by
  obtain ⟨places, hx⟩ := reads os en
  refine returnsInHanded_of_row (C := Tryz.checked) (s := Rows.OpenSpec.upto Rows.sameSpec) own started (by kernel_rfl) Tryz.func5
    (witness_row_at (enc := en) (C := Tryz.checked) false (laidWorld Tryz.prog os) #[.agg #[.int .i64 0, .slice none 0 0, .bool false, .bool false, .int .i64 0], .bool false, .bool false, .slice none 0 0] rfl (by kernel_rfl) (by kernel_rfl) (by kernel_rfl)
      (OpenSpec.preRow_of_cond 8 hx (by kernel_rfl) (fun k hk => by cases hk; kernel_rfl) (by kernel_rfl) (laid_met os))) ?_
  intro W base args ds gs before hval hW _ hcond _ hL _ _
  exact contract H en W base args ds gs before hval hW (hcond _ rfl) hL

theorem saidUpto : Rows.SameUptoSaid :=
  OpenClaim.holds_of_cond 5 Tryz.f5 rfl rfl rfl rfl rfl rfl rfl ⟨rfl, rfl, rfl, rfl, rfl⟩ rfl rfl rfl rfl rfl (by kernel_rfl) Tryz.func5 (by kernel_rfl)
    (of_decide_eq_true (by kernel_rfl)) (by unfold Func.isWrapper; first | (rw [if_pos (by decide +kernel)]; kernel_rfl) | (rw [if_neg (by decide +kernel)]; exact ⟨rfl, rfl⟩))
    (fun os started H en _ F => by rw [OpenClaim.pre_eq_preRow]; exact liftedUpto os started H en F)

theorem plain (f : FuncId) (fn : Func) (hf : Tryz.pinned.checked.prog.funcNamed "ripple/ripplelaw.Same" = some f) (hfn : Tryz.pinned.checked.prog.funcs[f]? = some fn) :
    false = Tryz.pinned.checked.prog.looks [] ∧ ∀ (j : Nat) t, fn.params[j]? = some t → Tryz.pinned.checked.prog.wantsStandIn t = false := by
  obtain rfl : f = 5 := Option.some.inj ((show Tryz.prog.funcNamed "ripple/ripplelaw.Same" = some 5 by kernel_rfl).symm.trans hf) |>.symm
  obtain rfl : fn = Tryz.f5 := (Option.some.inj (Tryz.func5.symm.trans hfn)).symm
  refine ⟨by kernel_rfl, fun j t ht => ?_⟩
  rw [Tryz.params5] at ht
  have hm : t = 24 ∨ t = 4 ∨ t = 25 := by simpa using Array.mem_of_getElem? ht
  rcases hm with rfl | rfl | rfl
  · exact (show Tryz.prog.wantsStandIn 24 = false by kernel_rfl)
  · exact (show Tryz.prog.wantsStandIn 4 = false by kernel_rfl)
  · exact (show Tryz.prog.wantsStandIn 25 = false by kernel_rfl)

/-- THE CARD. -/
theorem cardUpto : Rows.SameUptoCardSaid :=
  Claim7.holds_tied_plain_at .later [] _ _ _ _ saidUpto (fun _ h => by cases h) (by kernel_rfl) (fun _ h => by cases h) sameUpto_row_tie rfl ⟨rfl, rfl⟩ (by kernel_rfl) rfl plain (by kernel_rfl)

end Go.Proofs.YtahdlejgjcjeoabGreatDoor.sameCardP

namespace Go.Proofs.YtahdlejgjcjeoabGreatDoor
theorem sameUpto_holds : Rows.SameUptoCardSaid := sameCardP.cardUpto
end Go.Proofs.YtahdlejgjcjeoabGreatDoor
