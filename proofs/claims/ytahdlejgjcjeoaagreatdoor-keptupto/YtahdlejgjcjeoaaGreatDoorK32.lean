/- Walks of the laws' played and Kept. -/
import Derived.Test.YtahdlejgjcjeoaaGreatDoorK29
import Derived.Test.YtahdlejgjcjeoaaGreatDoorK30
import Derived.Test.YtahdlejgjcjeoaaGreatDoorK31
import Derived.Test.YtahdlejgjcjeoaaGreatDoorK12
import Derived.Test.YtahdlejgjcjeoaaGreatDoorK06
namespace Go.Proofs.YtahdlejgjcjeoaaGreatDoor
open Go.RowKit
theorem crash_keep {c : Clu} {r : Nat} (hr : r < c.reps.length) : (c.crash r).near = c.near ∧ ((c.crash r).rep r).down = true ∧ ∀ q, q ≠ r → ((c.crash r).rep q).down = (c.rep q).down := by
  unfold Clu.crash
  rw [works_rep hr]
  cases hd : (c.rep r).down
  · simp only [Bool.false_eq_true, if_false, if_true, Int.toNat_natCast]
    refine ⟨rfl, ?_, fun q hq => ?_⟩
    · rw [rep_setRep c r r _ hr, if_pos rfl]; rfl
    · rw [rep_setRep c r q _ hr, if_neg hq]
  · exact ⟨rfl, hd, fun _ _ => rfl⟩
theorem compact_keep {c : Clu} {r : Nat} (hr : r < c.reps.length) : (c.compact r).near = c.near ∧ ∀ q, ((c.compact r).rep q).down = (c.rep q).down := by
  unfold Clu.compact
  split
  · simp only [Int.toNat_natCast]
    refine ⟨rfl, fun q => ?_⟩
    rw [rep_setRep c r q _ hr]
    split
    · rename_i e; rw [e]; rfl
    · rfl
  · exact ⟨rfl, fun _ => rfl⟩
theorem near_update (c : Clu) (r : Int) (o : OpV) : (c.update r o).near = c.near := by unfold Clu.update; split <;> rfl
theorem near_torn (c : Clu) (r : Int) (o : OpV) (k : Int) : (c.tornOp r o k).near = c.near := by unfold Clu.tornOp; split <;> rfl
theorem near_start (c : Clu) (r : Int) : (c.start r).near = c.near := by unfold Clu.start; split <;> rfl
theorem near_send (c : Clu) (r q : Int) : (c.send r q).near = c.near := by unfold Clu.send Clu.sent; split; rw [near_put]; rfl; rfl
section
variable {Z : Snap} {w w' : World} {P x N : Nat} {g : Cf} {c : Clu} {U : List At} {es : List (Int × Int)}
/-- What an act leaves. -/
def ActQ (Z : Snap) (P x : Nat) (g : Cf) (es : List (Int × Int)) (U : List At) (N : Nat) (e : Ending) (w' : World) : Prop := e = .returned (.bool true) ∧ ∃ c' U', Pg Z w' P x g es U' (N + 20) c' ∧ U'.length ≤ U.length + 1
theorem Pg.lUpdate (h : Pg Z w P x g es U N c) (hL : N + 20 ≤ 2097152 ∧ U.length + 1 ≤ 131072) {r : Nat} (hr : r < g.n) (op : OpV) (hf : fineOp op = true) :
    Calls Tryz.prog 44 #[.pointer (some ⟨P, 0, none⟩), .int .i64 r, op.val] w (ActQ Z P x g es U N) := by
  obtain ⟨D, ⟨L, hp⟩, ht⟩ := h.pm
  have hrc : r < c.reps.length := by rw [h.len]; exact hr
  refine (hp.lUpdate h.ok ⟨by omega, hL.2⟩ h.inv ht hr op hf).mono fun e w' ⟨h1, L', h2⟩ => ?_
  obtain ⟨U', hU, -, hok⟩ := h.ok.update r op
  exact ⟨h1, _, U', ⟨⟨D, ⟨L', h2⟩, ht.same (len_update _ _ _) (update_down c r op hrc)⟩, hok.later (by omega), (h.inv.update h.ok r op).1, far_of h.far (near_update _ _ _) (len_update _ _ _), fun i j => by rw [near_update]; exact h.nr i j, h.ed⟩, hU⟩
theorem Pg.lStart (h : Pg Z w P x g es U N c) (hL : N + 20 ≤ 2097152 ∧ U.length + 1 ≤ 131072) {r : Nat} (hr : r < g.n) :
    Calls Tryz.prog 10 #[.pointer (some ⟨P, 0, none⟩), .int .i64 r] w (ActQ Z P x g es U N) := by
  obtain ⟨D, ⟨L, hp⟩, ht⟩ := h.pm
  have hrc : r < c.reps.length := by rw [h.len]; exact hr
  have hLL : Lim U N := ⟨by omega, by omega⟩
  cases hd : (c.rep r).down
  · refine (hp.lStart_up h.ok hLL h.inv ht hr hd).mono fun e w' ⟨h1, h2⟩ => ?_
    exact ⟨h1, c, U, ⟨⟨D, ⟨L, h2⟩, ht⟩, h.ok.later (by omega), h.inv, h.far, h.nr, h.ed⟩, by omega⟩
  · refine (hp.lStart_down h.ok hLL h.inv ht hr hd).mono fun e w' ⟨h1, h2⟩ => ?_
    have hrep := start_rep hrc hd
    refine ⟨h1, _, U, ⟨⟨_, ⟨_, h2⟩, ht.set (len_start _ _) (by rw [hp.lenD]; exact hr) (by rw [hrep, if_pos rfl]; rfl) (fun q hq => by rw [hrep, if_neg hq])⟩, (h.ok.start r).later (by omega), (h.inv.start h.ok r).1, far_of h.far (near_start _ _) (len_start _ _), fun i j => by rw [near_start]; exact h.nr i j, h.ed⟩, by omega⟩
theorem Pg.lTorn (h : Pg Z w P x g es U N c) (hL : N + 20 ≤ 2097152 ∧ U.length + 1 ≤ 131072) {r : Nat} (hr : r < g.n) (op : OpV) (hf : fineOp op = true) (keep : Int) :
    Calls Tryz.prog 47 #[.pointer (some ⟨P, 0, none⟩), .int .i64 r, op.val, .int .i64 keep] w (ActQ Z P x g es U N) := by
  obtain ⟨D, ⟨L, hp⟩, ht⟩ := h.pm
  have hLL : Lim U N := ⟨by omega, by omega⟩
  cases hd : (c.rep r).down
  · refine (hp.lTorn_up h.ok ⟨by omega, hL.2⟩ h.inv ht hr op hf keep hd).mono fun e w' ⟨h1, D', ⟨L', h2⟩, h3⟩ => ?_
    obtain ⟨U', hU, -, hok⟩ := h.ok.tornOp r op keep
    have hit := (h.inv.tornOp h.ok r op keep).1
    exact ⟨h1, _, U', ⟨⟨D', ⟨L', h2⟩, h3⟩, (hok.start r).later (by omega), (hit.start hok r).1, far_of h.far ((near_start _ _).trans (near_torn _ _ _ _)) ((len_start _ _).trans (len_tornOp _ _ _ _)), fun i j => by rw [near_start, near_torn]; exact h.nr i j, h.ed⟩, hU⟩
  · refine (hp.lTorn_down h.ok hLL h.inv ht hr op hf keep hd).mono fun e w' ⟨h1, h2⟩ => ?_
    exact ⟨h1, c, U, ⟨⟨D, ⟨L, h2⟩, ht⟩, h.ok.later (by omega), h.inv, h.far, h.nr, h.ed⟩, by omega⟩
theorem Pg.lSend (h : Pg Z w P x g es U N c) (hL : N + 20 ≤ 2097152 ∧ U.length + 1 ≤ 131072) {r q : Nat} (hr : r < g.n) (hq : q < g.n) :
    Calls Tryz.prog 48 #[.pointer (some ⟨P, 0, none⟩), .int .i64 r, .int .i64 q] w (ActQ Z P x g es U N) := by
  obtain ⟨D, ⟨L, hp⟩, ht⟩ := h.pm
  have hrc : r < c.reps.length := by rw [h.len]; exact hr
  refine (hp.lSend h.ok ⟨by omega, by omega⟩ h.inv ht h.ed.1 h.ed.2 h.nr hr hq).mono fun e w' ⟨h1, h2⟩ => ?_
  exact ⟨h1, _, U, ⟨⟨D, ⟨L, h2⟩, ht.same (len_send _ _ _) (send_down c r q hrc)⟩, (h.ok.send r q).later (by omega), (h.inv.send h.ok r q).1, far_send h.far r q, fun i j => by rw [near_send]; exact h.nr i j, h.ed⟩, by omega⟩
theorem act_more {w : World} {b : Nat} {k r q n ty sd on : Int} {ky el key : ByteArray} (h : w.heap[b]? = some (actB k r q n ty ky sd el on key)) : w.cell? ⟨b, 0, none⟩ = some (.int .i64 k) ∧ w.cell? ⟨b, 1, none⟩ = some (.int .i64 r) ∧ w.cell? ⟨b, 2, none⟩ = some (.int .i64 q) ∧ w.cell? ⟨b, 3, none⟩ = some (.int .i64 n) ∧ w.cell? ⟨b, 4, none⟩ = some (.int .i64 ty) ∧ w.cell? ⟨b, 5, none⟩ = some (.string ky) ∧ w.cell? ⟨b, 6, none⟩ = some (.int .i64 sd) ∧ w.cell? ⟨b, 7, none⟩ = some (.string el) ∧ w.cell? ⟨b, 8, none⟩ = some (.int .i64 on) ∧ w.cell? ⟨b, 9, none⟩ = some (.string key) :=
  ⟨(blk_cell h 0).trans rfl, (blk_cell h 1).trans rfl, (blk_cell h 2).trans rfl, (blk_cell h 3).trans rfl, (blk_cell h 4).trans rfl, (blk_cell h 5).trans rfl, (blk_cell h 6).trans rfl, (blk_cell h 7).trans rfl, (blk_cell h 8).trans rfl, (blk_cell h 9).trans rfl⟩
set_option maxRecDepth 100000 in
set_option maxHeartbeats 4000000 in
theorem Pg.lAct (h : Pg Z w P x g es U N c) (hL : N + 20 ≤ 2097152 ∧ U.length + 1 ≤ 131072) (k r q n ty : Int) (ky : ByteArray) (sd : Int) (el : ByteArray) (on : Int) (key : ByteArray) (hfit : (⟨k, r, q, n, ⟨ty, ky, sd, el, on⟩, key⟩ : ActV).fit) :
    Calls Tryz.prog 17 #[.pointer (some ⟨P, 0, none⟩), .agg #[.int .i64 k, .int .i64 r, .int .i64 q, .int .i64 n, .int .i64 ty, .string ky, .int .i64 sd, .string el, .int .i64 on, .string key]] w (ActQ Z P x g es U N) := by
  have HB0 := Hid.mk (below_alloc (Below.refl _ w) (actB k r q n ty ky sd el on key))
  obtain ⟨Z1, hg1, back⟩ := h.rebase HB0.out
  have HG1 := Hid.mk hg1
  have HBK := Hid.mk back
  have HA0 := Hid.mk (heap_alloc_new w (actB k r q n ty ky sd el on key))
  have hn6 : g.n ≤ 6 := by rw [← h.len]; exact h.ok.n6
  have hn1 : 1 ≤ g.n := by rw [← h.len]; exact h.ok.n1
  have HPR := Hid.mk (fun W' => pick_any r g.n W' hfit.rng.r.1 hfit.rng.r.2 (by omega) (by omega))
  have HPQ := Hid.mk (fun W' => pick_any q g.n W' hfit.rng.q.1 hfit.rng.q.2 (by omega) (by omega))
  have HOP := Hid.mk (fun W' => opOf_any ⟨ty, ky, sd, el, on⟩ W' hfit.op hfit.rng.ty hfit.rng.sd hfit.rng.on)
  have c1 := hg1.cells.2
  obtain ⟨a0, a1, a2, a3, a4, a5, a6, a7, a8, a9⟩ := act_more HA0.out
  have hltP : P < w.heap.size := h.ltP
  unfold OpV.val at HOP
  simp only at HOP
  clear h hg1 back
  unfold actB at *
  go_enter Tryz.func17, Tryz.ntmps17
  go_wp2_with fail
  go_cut [5] from 11 (fun t wc => ∃ i : Nat, t = .int .i64 i ∧ i < g.n ∧ Hid (Pg Z1 wc P x g es U N c))
  case first =>
    go_region_law (first | (go_simp; go_at_call 18; refine (HPR.out _).mono ?_; rintro e w2 ⟨rr, rfl, hrr, rfl⟩; obtain ⟨ri, hri⟩ : ∃ ri : Nat, rr = ri := ⟨rr.toNat, by omega⟩; subst hri) | fail)
    all_goals clear HPR HPQ HOP HBK HA0 HB0
    all_goals go_wp2
    all_goals go_meet
    all_goals (case rel => exact ⟨_, rfl, by omega, by first | exact HG1.out | exact HG1.out.same (Below.refl _ _).drew⟩)
  case rest =>
    obtain ⟨i, rfl, hi, hgA⟩ := hcut
    obtain ⟨wA, hwA⟩ : ∃ wA, wA = wc := ⟨_, rfl⟩
    subst hwA
    have HKEEP : Hid (∀ W c' U' N', Pg Z1 W P x g es U' N' c' → W.heap[w.heap.size]? = some (actB k r q n ty ky sd el on key)) := fun W c' U' N' hW => ((HBK.out _ _ _ _ hW).2 _ (Nat.le_refl _) (blk_lt HA0.out)).trans HA0.out
    clear a0 a1 a2 a3 a4 a5 a6 a7 a8 a9 c1 HG1
    obtain ⟨a0, a1, a2, a3, a4, a5, a6, a7, a8, a9⟩ := act_more (HKEEP.out _ _ _ _ hgA.out)
    have hwl : w.heap.size < wA.heap.size := blk_lt (HKEEP.out _ _ _ _ hgA.out)
    go_wp2_with fail
    refine (HOP.out _).mono ?_
    rintro e w2 ⟨⟨oty, oky, osd, oel, oon⟩, rfl, hfine, hb2⟩
    have hbo : Below wA.heap.size wA (w2.alloc (.cells #[.int .i64 oty, .string oky, .int .i64 osd, .string oel, .int .i64 oon] 29)) := below_alloc hb2 _
    obtain ⟨Z2, hg2, back2⟩ := hgA.out.rebase hbo
    have HG2 := Hid.mk hg2
    have HFIN : Hid (∀ e W, ActQ Z2 P x g es U N e W → ActQ Z P x g es U N e W) := fun e W ⟨h1, c', U', h2, h3⟩ => ⟨h1, c', U', (HBK.out _ _ _ _ (back2 _ _ _ _ h2).1).1, h3⟩
    have HKP2 : Hid (∀ W c' U' N', Pg Z2 W P x g es U' N' c' → W.heap[w.heap.size]? = some (actB k r q n ty ky sd el on key)) := fun W c' U' N' hW => HKEEP.out _ _ _ _ (back2 _ _ _ _ hW).1
    have HFN := Hid.mk hfine
    have HOB := Hid.mk (heap_alloc_new w2 (.cells #[.int .i64 oty, .string oky, .int .i64 osd, .string oel, .int .i64 oon] 29))
    clear a0 a1 a2 a3 a4 a5 a6 a7 a8 a9 hgA HOP hbo hg2 back2 hfine HKEEP HBK
    obtain ⟨a0, a1, a2, a3, a4, a5, a6, a7, a8, a9⟩ := act_more (HKP2.out _ _ _ _ HG2.out)
    have o0 := blk_cell HOB.out 0
    have o1 := blk_cell HOB.out 1
    have o2 := blk_cell HOB.out 2
    have o3 := blk_cell HOB.out 3
    have o4 := blk_cell HOB.out 4
    simp at o0 o1 o2 o3 o4
    have c0 := HG2.out.cells.1
    have c1 := HG2.out.cells.2
    have hlw : w.heap.size < w2.heap.size := Nat.lt_of_lt_of_le hwl hb2.size
    have hlP : P < w2.heap.size := Nat.lt_trans hltP hlw
    by_cases k1 : k = 1
    · subst k1
      have HU := Hid.mk (fun W (hW : Pg Z2 W P x g es U N c) => hW.lUpdate hL hi ⟨oty, oky, osd, oel, oon⟩ HFN.out)
      unfold OpV.val at HU
      simp only at HU
      go_wp2_with fail
      refine (HU.out _ HG2.out).mono ?_
      rintro e w3 hq
      have HQ := Hid.mk (HFIN.out _ _ hq)
      obtain ⟨rfl, -⟩ := hq
      clear HFN HFIN HKP2 HG2 HPR HPQ HOB
      go_wp2
      go_ret
      exact HQ.out
    by_cases k2 : k = 2
    · subst k2
      have HU := Hid.mk (fun W (hW : Pg Z2 W P x g es U N c) => hW.lTorn hL hi ⟨oty, oky, osd, oel, oon⟩ HFN.out n)
      unfold OpV.val at HU
      simp only at HU
      go_wp2_with fail
      refine (HU.out _ (by first | exact HG2.out | exact HG2.out.same (Below.refl _ _).drew)).mono ?_
      rintro e w3 hq
      have HQ := Hid.mk (HFIN.out _ _ hq)
      obtain ⟨rfl, -⟩ := hq
      clear HFN HFIN HKP2 HG2 HPR HPQ HOB
      go_wp2
      go_ret
      exact HQ.out
    by_cases k4 : k = 4
    · subst k4
      have HU := Hid.mk (fun W (hW : Pg Z2 W P x g es U N c) => hW.lStart hL hi)
      go_wp2_with fail
      refine (HU.out _ HG2.out).mono ?_
      rintro e w3 hq
      have HQ := Hid.mk (HFIN.out _ _ hq)
      obtain ⟨rfl, -⟩ := hq
      clear HFN HFIN HKP2 HG2 HPR HPQ HOB
      go_wp2
      go_ret
      exact HQ.out
    by_cases k7 : k = 7
    · subst k7
      have HU := Hid.mk (fun W (hW : Pg Z2 W P x g es U N c) => hW.lNet7 ⟨hL.1, by omega⟩ r q n ty ky sd el on key hfit.n0 hfit.n1)
      go_wp2_with fail
      refine (HU.out _ HG2.out).mono ?_
      rintro e w3 ⟨rfl, c3, h3⟩
      have HQ := Hid.mk (HFIN.out _ _ ⟨rfl, c3, U, h3, by omega⟩)
      clear HFN HFIN HKP2 HG2 HPR HPQ HOB h3
      go_wp2
      go_ret
      exact HQ.out
    by_cases k8 : k = 8
    · subst k8
      have HU := Hid.mk (fun W (hW : Pg Z2 W P x g es U N c) => hW.lNet8 ⟨hL.1, by omega⟩ r q n ty ky sd el on key hfit.n0 hfit.n1)
      go_wp2_with fail
      refine (HU.out _ HG2.out).mono ?_
      rintro e w3 ⟨rfl, c3, h3⟩
      have HQ := Hid.mk (HFIN.out _ _ ⟨rfl, c3, U, h3, by omega⟩)
      clear HFN HFIN HKP2 HG2 HPR HPQ HOB h3
      go_wp2
      go_ret
      exact HQ.out
    by_cases k9 : k = 9
    · subst k9
      have HU := Hid.mk (fun W (hW : Pg Z2 W P x g es U N c) => hW.lNet9 ⟨hL.1, by omega⟩ r q n ty ky sd el on key hfit.n0 hfit.n1)
      go_wp2_with fail
      refine (HU.out _ HG2.out).mono ?_
      rintro e w3 ⟨rfl, c3, h3⟩
      have HQ := Hid.mk (HFIN.out _ _ ⟨rfl, c3, U, h3, by omega⟩)
      clear HFN HFIN HKP2 HG2 HPR HPQ HOB h3
      go_wp2
      go_ret
      exact HQ.out
    by_cases k10 : k = 10
    · subst k10
      have HU := Hid.mk (fun W (hW : Pg Z2 W P x g es U N c) => hW.lNet10 ⟨hL.1, by omega⟩ r q n ty ky sd el on key hfit.n0 hfit.n1)
      go_wp2_with fail
      refine (HU.out _ HG2.out).mono ?_
      rintro e w3 ⟨rfl, c3, h3⟩
      have HQ := Hid.mk (HFIN.out _ _ ⟨rfl, c3, U, h3, by omega⟩)
      clear HFN HFIN HKP2 HG2 HPR HPQ HOB h3
      go_wp2
      go_ret
      exact HQ.out
    have HLL : Hid (Lim U N) := ⟨by omega, by omega⟩
    by_cases k3 : k = 3
    · subst k3
      obtain ⟨D, ⟨L, hp⟩, ht⟩ := HG2.out.pm
      have hic : i < c.reps.length := by rw [HG2.out.len]; exact hi
      have hti := ht i hic
      obtain ⟨y1, y2, y3⟩ := crash_keep hic
      have HCR := Hid.mk (hp.pCrash HG2.out.ok HLL.out HG2.out.inv i)
      rw [works_rep hic] at HCR
      have HMK : Hid (∀ W L', Pm Z2 W P x g (c.crash i) (D.set i true) L' → ActQ Z P x g es U N (.returned (.bool true)) W) := fun W L' hW => HFIN.out _ _ ⟨rfl, _, U, ⟨⟨_, ⟨L', hW⟩, ht.set (len_crash _ _) (by rw [hp.lenD]; exact hi) y2 y3⟩, (HG2.out.ok.crash i).later (by omega), (HG2.out.inv.crash HG2.out.ok i).1, far_of HG2.out.far y1 (len_crash _ _), fun a b => by rw [y1]; exact HG2.out.nr a b, HG2.out.ed⟩, by omega⟩
      have p1 : (0 : Int) ≤ (i : Int) := by omega
      have p2 : (i : Int) < (g.n : Int) := by omega
      clear HFN HFIN HKP2 HG2 HPR HPQ HOB hp ht y1 y2 y3
      generalize (c.rep i).down = dn at *
      generalize c.crash i = cc at *
      go_wp2_with fail
      refine HCR.out.mono ?_
      rintro e w3 ⟨rfl, h3⟩
      obtain ⟨dB, dcap, k6, d0, df, hset⟩ := h3.downC hi
      rw [hti] at d0
      have HQ := Hid.mk (HMK.out _ _ (hset true))
      clear h3 hset HCR HMK hti
      cases dn
      all_goals simp only [Bool.false_eq_true, if_false, if_true]
      all_goals go_wp2
      all_goals go_ret
      all_goals exact HQ.out
    by_cases k5 : k = 5
    · subst k5
      obtain ⟨D, ⟨L, hp⟩, ht⟩ := HG2.out.pm
      have hic : i < c.reps.length := by rw [HG2.out.len]; exact hi
      have hti := ht i hic
      obtain ⟨y1, y2⟩ := compact_keep hic
      have hok' := HG2.out.ok.compact (i : Int)
      have hi' := (HG2.out.inv.compact HG2.out.ok (i : Int)).1
      have ht' : Tells (c.compact i) D := ht.same (len_compact _ _) y2
      have HCR := Hid.mk (hp.pCompact HG2.out.ok HLL.out HG2.out.inv i)
      obtain ⟨E, HE⟩ : ∃ E, Hid (c.works (i : Int) = E) := ⟨_, rfl⟩
      rw [HE.out] at HCR
      have HEV : Hid (E = if (c.rep i).down then 8 else 0) := HE.out.symm.trans (works_rep hic)
      clear HE
      have HSS := Hid.mk (fun W (hW : Pm Z2 W P x g (c.compact i) D L) => hW.lState hok' HLL.out hi' ht' hi)
      have HMK : Hid (∀ W L', Pm Z2 W P x g (c.compact i) D L' → ActQ Z P x g es U N (.returned (.bool true)) W) := fun W L' hW => HFIN.out _ _ ⟨rfl, _, U, ⟨⟨_, ⟨L', hW⟩, ht'⟩, hok'.later (by omega), hi', far_of HG2.out.far y1 (len_compact _ _), fun a b => by rw [y1]; exact HG2.out.nr a b, HG2.out.ed⟩, by omega⟩
      have p1 : (0 : Int) ≤ (i : Int) := by omega
      have p2 : (i : Int) < (g.n : Int) := by omega
      clear HFN HFIN HKP2 HG2 HPR HPQ HOB hp ht y1 y2 hok' hi' ht'
      generalize c.compact i = cc at *
      go_wp2_with fail
      refine HCR.out.mono ?_
      rintro e w3 ⟨rfl, h3⟩
      have H3 := Hid.mk (HSS.out _ h3)
      clear h3 HCR HSS
      go_wp2_with fail
      refine H3.out.mono ?_
      rintro e w4 ⟨rfl, h4⟩
      obtain ⟨dB, dcap, k6, d0, -⟩ := h4.downC hi
      rw [hti] at d0
      have HQ := Hid.mk (fun W (hW : Below w4.heap.size w4 W) => HMK.out _ _ (h4.same hW))
      clear h4 H3 HMK hti
      generalize (c.rep i).down = dn at *
      cases dn
      · have he : E = 0 := HEV.out
        subst he
        clear HEV
        go_wp2
        go_ret
        exact HQ.out _ (Below.refl _ _)
      · have he : E = 8 := HEV.out
        subst he
        clear HEV
        go_wp2
        go_ret
        exact HQ.out _ (Below.refl _ _)
    by_cases k6' : k = 6
    · subst k6'
      have HU := Hid.mk (fun W (j : Nat) (hj : j < g.n) (hW : Pg Z2 W P x g es U N c) => hW.lSend hL hi hj)
      go_wp2_with fail
      go_region_law (first | (go_simp; go_at_call 18; refine (HPQ.out _).mono ?_; rintro e w3 ⟨rr, rfl, hrr, rfl⟩; obtain ⟨ri, hri⟩ : ∃ ri : Nat, rr = ri := ⟨rr.toNat, by omega⟩; subst hri) | (go_simp; go_at_call 48; refine (HU.out _ _ (by omega) (by first | exact HG2.out | exact HG2.out.same (Below.refl _ _).drew)).mono ?_; rintro e w4 hq; have HQ := Hid.mk (HFIN.out _ _ hq); obtain ⟨rfl, -⟩ := hq) | fail)
      all_goals clear HFN HFIN HKP2 HG2 HPR HPQ HOB HU
      all_goals go_wp2
      all_goals go_ret
      all_goals exact HQ.out
    have HQ : Hid (∀ W, Below _ _ W → ActQ Z P x g es U N (.returned (.bool true)) W) := fun W hW => HFIN.out _ _ ⟨rfl, c, U, (HG2.out.same hW).later (by omega), by omega⟩
    clear HFN HFIN HKP2 HG2 HPR HPQ HOB
    go_wp2
    go_ret
    exact HQ.out _ (Below.refl _ _)
end
end Go.Proofs.YtahdlejgjcjeoaaGreatDoor

namespace Go.Proofs.YtahdlejgjcjeoaaGreatDoor
open Go.RowKit
theorem newOk_nums {n : Nat} {rm : Int} {es : List (Int × Int)} (h : newOk n rm es = true) : 1 ≤ n ∧ n ≤ 6 ∧ 1 ≤ rm ∧ rm ≤ 8 := by
  unfold newOk at h
  simp only [Bool.and_eq_true, decide_eq_true_eq] at h
  omega
theorem linkAll_beyond {n : Nat} : ∀ (l : List (Int × Int)) (f F : Nat → Nat → Bool), (∀ i j, n ≤ j → f i j = false) → linkAll n f l = some F → ∀ i j, n ≤ j → F i j = false
  | [], f, F, hf, h => by
    rw [linkAll] at h
    cases h
    exact hf
  | p :: l, f, F, hf, h => by
    rw [linkAll] at h
    split at h
    · rename_i he
      refine linkAll_beyond l _ F (fun i j hj => ?_) h
      unfold edgeOk at he
      simp only [Bool.and_eq_true, decide_eq_true_eq] at he
      unfold addE
      rw [hf i j hj]
      have h1 : ¬ j = p.2.toNat := by omega
      have h2 : ¬ j = p.1.toNat := by omega
      simp [h1, h2]
    · cases h
theorem clu0_rep {room n : Nat} (bp rr : Bool) (f : Nat → Nat → Bool) {r : Nat} (hr : r < n) : (clu0 room bp rr n f).rep r = rep0 n := by
  unfold Clu.rep clu0
  rw [List.getD_eq_getElem?_getD, List.getElem?_replicate, if_pos hr]
  rfl
theorem owns_block {w : World} {g n : Nat} {e : TypeId} {l : List Value} (h : w.heap[g]? = some (.cells l.toArray e (0, 0))) (hl : l.length = n) (hn : n ≤ maxLen) : w.ownsRow 0 e 1 (.slice (some ⟨g, 0, none⟩) n n) n l :=
  ⟨by omega, .inr ⟨g, n, l.toArray, rfl, Nat.zero_le _, h, Nat.le_refl _, hn, by simp [hl], by simp [← hl]⟩⟩
def plCol (c5 : Col) (s d h : Nat) : Col := fun q => if q < s then c5 q else if q = d then (4, 1) else if q = h then (4, 2) else (4, 0)
/-- The Player, made. -/
theorem pst_new {w w0 w1 w2 : World} {x R n d h P : Nat} {bp rr : Bool} {room : Int} {F : Nat → Nat → Bool} {ev : Value} {es : List (Int × Int)} (hr : RulesAt w) (hs : StepsAt w) (hb0 : Below w.heap.size w w0) (hQ : FillQ w0 w1 x R n n bp rr room F) (hroom : 1 ≤ room ∧ room ≤ 8) (hn : 1 ≤ n ∧ n ≤ 6) (hb2 : Below w1.heap.size w1 w2)
    (hd : w2.heap[d]? = some (.cells (Array.replicate n (Value.bool false)) 4 (0, 0))) (hh : w2.heap[h]? = some (.cells (Array.replicate n (Value.slice none 0 0)) 56 (0, 0)))
    (hP : w2.heap[P]? = some (.cells #[.pointer (some ⟨x, 0, none⟩), .int .i64 n, ev, .bool bp, .bool rr, .int .i64 room, .slice (some ⟨d, 0, none⟩) n n, .slice (some ⟨h, 0, none⟩) n n] 39 (0, 0)))
    (gd : w1.heap.size ≤ d) (gh : w1.heap.size ≤ h) (gP : w1.heap.size ≤ P) (dh : d ≠ h) (dP : P ≠ d) (hP' : P ≠ h) (hF : linkAll n noE es = some F) (hev : EdgesOf w ev es) (hel : es.length ≤ 1048576) :
    Pg (Snap.all w) w2 P x ⟨n, ev, room, bp, rr⟩ es [] 0 (clu0 room.toNat bp rr n F) := by
  obtain ⟨KP, c5, hp5, hf5⟩ := hQ.prgAt (by omega : 0 ≤ room) (fun _ => (0, 0)) 2
  have hb1 : Below w.heap.size w w1 := hb0.trans (hQ.bel.mono hb0.size)
  have hbw : Below w.heap.size w w2 := hb1.trans (hb2.mono hb1.size)
  have s1 := hb1.size
  have f12 : FrC (fun _ => False) c5 (plCol c5 w1.heap.size d h) w1 w2 := ⟨(Fr.refl _ w1).below hb2, fun q hq => if_pos hq⟩
  have cO : ∀ q, q < w.heap.size → plCol c5 w1.heap.size d h q = (0, 0) := fun q hq => by
    have h0 := hb0.size
    rw [f12.col q (by omega), (hf5 (fun _ => False)).col q (by omega)]
  have cd : plCol c5 w1.heap.size d h d = (4, 1) := by
    unfold plCol
    rw [if_neg (by omega), if_pos rfl]
  have ch : plCol c5 w1.heap.size d h h = (4, 2) := by
    unfold plCol
    rw [if_neg (by omega), if_neg (fun e => dh e.symm), if_pos rfl]
  have cP : plCol c5 w1.heap.size d h P = (4, 0) := by
    unfold plCol
    rw [if_neg (by omega), if_neg dP, if_neg hP']
  have hl : (clu0 room.toNat bp rr n F).reps.length = n := by simp [clu0]
  have hml : n ≤ maxLen := by unfold maxLen; omega
  have hst : PSt (Snap.all w) w2 (plCol c5 w1.heap.size d h) P x ⟨n, ev, room, bp, rr⟩ KP (clu0 room.toNat bp rr n F) (.slice (some ⟨d, 0, none⟩) n n) (.slice (some ⟨h, 0, none⟩) n n) (List.replicate n false) (List.replicate n (Value.slice none 0 0, [])) := {
    old := old_all hbw (fun q hq => by rw [cO q hq])
    tab := ⟨hr.block (hbw.block 0 hr.1) hbw.size, hs.block (hbw.block 1 hs.1) hbw.size, cO 0 hr.1, cO 1 hs.1⟩
    prg := hp5.kept f12 (fun _ => id)
    len := hl
    lD := by simp
    lH := by simp
    blk := hP
    cP := cP
    dn := by
      rw [List.map_replicate]
      exact ⟨owns_block (by rw [List.toArray_replicate]; exact hd) (by simp) hml, fun q hq => by cases hq; exact cd⟩
    hd := by
      rw [List.map_replicate]
      exact ⟨owns_block (by rw [List.toArray_replicate]; exact hh) (by simp) hml, fun q hq => by cases hq; exact ch⟩
    ls := fun e he => by
      rw [List.eq_of_mem_replicate he]
      exact ⟨⟨(4, 3), .inl rfl, held_nil _ _ _⟩, by simp⟩
    lo := fun i hi => by
      rw [List.getElem_replicate]
      exact Lo.nil _ }
  refine ⟨⟨_, ⟨_, _, KP, _, _, _, hst, rfl⟩, fun r hr => ?_⟩, clu0_ok bp rr F hn.1 hn.2 (by omega) (by omega), ⟨_, inv_new _ _ _ _ _⟩, fun i j hj => linkAll_beyond es noE F (fun _ _ _ => rfl) hF i j (by rw [hl] at hj; exact hj), fun i j => ?_, fun W c' D' L' hp => hev.below hp.bel, hel⟩
  · rw [hl] at hr
    rw [clu0_rep bp rr F hr, List.getD_eq_getElem?_getD, List.getElem?_replicate, if_pos hr]
    rfl
  · show F i j = _
    rw [linkAll_near es noE F hF i j]
    rfl
/-- The first Count: of 5. -/
def op5 : OpV := ⟨1, ⟨#[97]⟩, 0, ⟨#[]⟩, 5⟩
theorem fine5 : fineOp op5 = true := by decide
theorem count5 {room n : Nat} {bp rr : Bool} {F : Nat → Nat → Bool} (hn : 1 ≤ n) (_hrm : 1 ≤ room) :
    ((clu0 room bp rr n F).update (0 : Nat) op5).works 0 = 0 ∧ readErr ((clu0 room bp rr n F).update (0 : Nat) op5) 0 1 = 0 ∧ ∀ (m : Int) (es : List ByteArray), ReadSpec (tell (((clu0 room bp rr n F).update (0 : Nat) op5).rep 0).atoms) 1 ⟨#[97]⟩ m es → m = 5 := by
  have hl : (clu0 room bp rr n F).reps.length = n := by simp [clu0]
  have h0 := clu0_rep (room := room) bp rr F (by omega : 0 < n)
  have hat : opAtom ((clu0 room bp rr n F).rep 0).atoms 0 op5 = ⟨1, ⟨#[97]⟩, 0, 0, ⟨#[]⟩, 5⟩ := by rw [h0]; rfl
  have he : (clu0 room bp rr n F).opErr (0 : Nat) op5 = 0 := by
    rw [opErr_of (by omega) fine5, h0, show (rep0 n).atoms = [] from rfl]
    rfl
  have hu := update_rep (c := clu0 room bp rr n F) (r := 0) (o := op5) (by omega) he 0
  rw [if_pos rfl, hat] at hu
  have hlu : ((clu0 room bp rr n F).update (0 : Nat) op5).reps.length = n := by
    unfold Clu.update
    rw [if_pos he, setRep_len, hl]
  have hA : (((clu0 room bp rr n F).update (0 : Nat) op5).rep 0).atoms = [⟨1, ⟨#[97]⟩, 0, 0, ⟨#[]⟩, 5⟩] := by
    rw [hu, take_atoms, h0]
    rfl
  have hd : (((clu0 room bp rr n F).update (0 : Nat) op5).rep 0).down = false := by
    rw [update_down _ _ _ (by omega), h0]
    rfl
  have hw : ((clu0 room bp rr n F).update (0 : Nat) op5).works 0 = 0 := by
    have := works_rep (c := (clu0 room bp rr n F).update (0 : Nat) op5) (r := 0) (by omega)
    rw [hd] at this
    exact this
  have hm : ∀ a ∈ [(⟨1, ⟨#[97]⟩, 0, 0, ⟨#[]⟩, 5⟩ : At)], mayB a = true := fun a ha => by
    rw [List.mem_singleton.1 ha]
    decide
  refine ⟨hw, ?_, fun m es hsp => ?_⟩
  · unfold readErr
    rw [hw]
    have hmt : ∀ a ∈ tell (((clu0 room bp rr n F).update (0 : Nat) op5).rep 0).atoms, mayB a = true := fun a ha => by
      have := ((tell_told _).great a ha).1
      rw [hA] at this
      exact hm a this
    exact readCode_ok hmt (by decide) (by decide)
  · rw [hA] at hsp
    have h1 := (read_is hm (by decide) (by decide) hsp).1
    have h2 := val_sum (A := []) (T := []) (T' := tell [⟨1, ⟨#[97]⟩, 0, 0, ⟨#[]⟩, 5⟩]) (a := ⟨1, ⟨#[97]⟩, 0, 0, ⟨#[]⟩, 5⟩) ⟨List.Pairwise.nil, (fun x hx => by cases hx), (fun x hx => by cases hx)⟩ (tell_told _) hm (.inl rfl) (by decide)
    rw [h1]
    exact h2.trans (by decide)
section
variable {Z : Snap} {w w' : World} {P x N : Nat} {g : Cf} {c : Clu} {U : List At} {es : List (Int × Int)}
theorem Pg.lFirst (h : Pg Z w P x g es [] 0 c) :
    Calls Tryz.prog 44 #[.pointer (some ⟨P, 0, none⟩), .int .i64 0, .agg #[.int .i64 1, .string ⟨#[97]⟩, .int .i64 0, .string ⟨#[]⟩, .int .i64 5]] w fun e w' => e = .returned (.bool true) ∧ Hid (∃ U', Pg Z w' P x g es U' 20 (c.update (0 : Nat) op5) ∧ U'.length ≤ 1) := by
  obtain ⟨D, ⟨L, hp⟩, ht⟩ := h.pm
  have hg1 : 0 < g.n := by rw [← h.len]; exact h.ok.n1
  have hrc : 0 < c.reps.length := by rw [h.len]; exact hg1
  refine (hp.lUpdate h.ok ⟨by omega, by decide⟩ h.inv ht hg1 op5 fine5).mono fun e w' ⟨h1, L', h2⟩ => ?_
  obtain ⟨U', hU, -, hok⟩ := h.ok.update (0 : Nat) op5
  exact ⟨h1, U', ⟨⟨D, ⟨L', h2⟩, ht.same (len_update _ _ _) (update_down c 0 op5 hrc)⟩, hok.later (by omega), (h.inv.update h.ok (0 : Nat) op5).1, far_of h.far (near_update _ _ _) (len_update _ _ _), fun i j => by rw [near_update]; exact h.nr i j, h.ed⟩, hU⟩
theorem Pg.pRead5 {room n : Nat} {bp rr : Bool} {F : Nat → Nat → Bool} (hn : 1 ≤ n) (hrm : 1 ≤ room) (h : Pg Z w P x g es U 20 ((clu0 room bp rr n F).update (0 : Nat) op5)) (hU : U.length ≤ 1) :
    Calls Tryz.prog 45 #[.pointer (some ⟨x, 0, none⟩), .int .i64 0, .int .i64 1, .string ⟨#[97]⟩] w fun e w' => ∃ (ad : Option Addr) (m cp : Nat), e = .returned (.tuple #[.agg #[.int .i64 5, .slice ad m cp], .int .i64 0]) ∧ Below w.heap.size w w' := by
  obtain ⟨D, ⟨L, hp⟩, ht⟩ := h.pm
  obtain ⟨h1, h2, h3⟩ := count5 (room := room) (n := n) (bp := bp) (rr := rr) (F := F) hn hrm
  refine (hp.pRead h.ok ⟨by omega, by omega⟩ 0 1 ⟨#[97]⟩ (by decide)).mono fun e w' ⟨m, ad, cp, es', k1, k2, k3, k4⟩ => ?_
  have k3 := k3.out
  rw [if_pos h1] at k3
  have hm := h3 m es' k3
  subst hm
  rw [h2] at k1
  exact ⟨ad, _, cp, k1, k4⟩
end
theorem three_new (w : World) (o1 o2 o3 : Obj) : Below w.heap.size w (((w.alloc o1).alloc o2).alloc o3).drew ∧ (((w.alloc o1).alloc o2).alloc o3).drew.heap[w.heap.size]? = some o1 ∧ (((w.alloc o1).alloc o2).alloc o3).drew.heap[w.heap.size + 1]? = some o2 ∧ (((w.alloc o1).alloc o2).alloc o3).drew.heap[w.heap.size + 1 + 1]? = some o3 := by
  have h1 := two_blocks w o1 o2
  have h2 := two_blocks (w.alloc o1) o2 o3
  rw [show (w.alloc o1).heap.size = w.heap.size + 1 by simp] at h2
  exact ⟨(below_alloc (below_alloc (below_alloc (Below.refl _ w) _) _) _).drew, (Below.heap_alloc _ _ _ (by simp; omega)).trans h1.2, h2.2, h2.1⟩
end Go.Proofs.YtahdlejgjcjeoaaGreatDoor

namespace Go.Proofs.YtahdlejgjcjeoaaGreatDoor
open Go.RowKit
theorem cell_kept3 {w : World} {a : Addr} {v : Value} {o1 o2 o3 : Obj} (h : w.cell? a = some v) : (((w.alloc o1).alloc o2).alloc o3).drew.cell? a = some v := cell_kept h (below_alloc (below_alloc (below_alloc (Below.refl _ _) _) _) _).drew
theorem infoBoolP : (Tryz.prog.info? 4).map (fun i => (i.zero, i.size, i.bytes)) = some (some (.bool false), 1, 1) := by kernel_rfl
theorem infoListP : (Tryz.prog.info? 56).map (fun i => (i.zero, i.size, i.bytes)) = some (some (.slice none 0 0), 1, 24) := by kernel_rfl
theorem made_one (v : Value) (n : Nat) (hv : v.cells = #[v]) : madeCells (Value.cells v) (n * 1) = (List.replicate n v).toArray := by
  apply Array.ext_getElem?
  intro t
  rw [hv, Nat.mul_one]
  by_cases ht : t < n
  · simp [madeCells, ht, Nat.mod_one]
  · simp [madeCells, ht]
theorem make_boolsP (n : Nat) (h : n ≤ 6) (W : World) : (Instr.makeSlice 36 (.int .i64 (n : Int)) (.int .i64 (n : Int))).run Tryz.prog W = .ok (.slice (some ⟨W.heap.size, 0, none⟩) n n) (W.alloc (.cells (List.replicate n (Value.bool false)).toArray 4)) := by
  obtain ⟨i, hi, hz0, hz1, hz2⟩ := info_parts infoBoolP
  have hr := run_make (P := Tryz.prog) W 36 4 i _ Tryz.underlying36 hi hz0 .i64 .i64 n n (by omega) (Int.le_refl _) (by rw [hz2]; omega) (by omega)
  simp only [Int.toNat_natCast] at hr
  rw [hr, hz1, made_one _ _ rfl]
theorem make_lists (n : Nat) (h : n ≤ 6) (W : World) : (Instr.makeSlice 37 (.int .i64 (n : Int)) (.int .i64 (n : Int))).run Tryz.prog W = .ok (.slice (some ⟨W.heap.size, 0, none⟩) n n) (W.alloc (.cells (List.replicate n (Value.slice none 0 0)).toArray 56)) := by
  obtain ⟨i, hi, hz0, hz1, hz2⟩ := info_parts infoListP
  have hr := run_make (P := Tryz.prog) W 37 56 i _ Tryz.underlying37 hi hz0 .i64 .i64 n n (by omega) (Int.le_refl _) (by rw [hz2]; omega) (by omega)
  simp only [Int.toNat_natCast] at hr
  rw [hr, hz1, made_one _ _ rfl]
/-- What player gives. -/
def PlayerQ (w : World) (g : Cf) (es : List (Int × Int)) (e : Ending) (w' : World) : Prop := ∃ P x U c, e = .returned (.pointer (some ⟨P, 0, none⟩)) ∧ Pg (Snap.all w) w' P x g es U 20 c ∧ U.length ≤ 1
set_option maxRecDepth 100000 in
set_option maxHeartbeats 4000000 in
theorem player_any (v : Value) (es : List (Int × Int)) (n : Nat) (rm : Int) (bp rr : Bool) (w : World) (hr : RulesAt w) (hst : StepsAt w) (hv : EdgesOf w v es) (hlen : es.length ≤ 1048576) (hnew : newOk n rm es = true) :
    Calls Tryz.prog 16 #[.agg #[.int .i64 n, v, .bool bp, .bool rr, .int .i64 rm]] w (PlayerQ w ⟨n, v, rm, bp, rr⟩ es) := by
  have hnums := newOk_nums hnew
  have HN := Hid.mk hnums
  have HE := Hid.mk hv
  have HR := Hid.mk hr
  have HS := Hid.mk hst
  have hnn : ((n : Int)).toNat = n := Int.toNat_natCast n
  obtain ⟨ad, cap, rfl, -⟩ := hv
  have HNW : Hid (∀ W, Below w.heap.size w W → Calls Tryz.prog 24 #[.agg #[.int .i64 n, .slice ad es.length cap, .bool bp, .bool rr, .int .i64 rm]] W fun e w' => Below W.heap.size W w' ∧ ∃ x R F, e = .returned (.tuple #[.pointer (some ⟨x, 0, none⟩), .int .i64 0]) ∧ Hid (linkAll n noE es = some F ∧ FillQ W w' x R n n bp rr rm F)) := fun W hW => by
    refine (prgNew2 _ es n rm bp rr W (HE.out.below hW) hlen).mono fun e w' ⟨h1, h2⟩ => ⟨h1, ?_⟩
    rcases h2 with ⟨h2, -⟩ | ⟨-, x, R, h3, F, h4, h5⟩
    · rw [hnew] at h2; cases h2
    · rw [hnn] at h4 h5
      exact ⟨x, R, F, h3, h4, h5⟩
  have hn6 : n ≤ 6 := hnums.2.1
  have hmb := make_boolsP n hn6
  have hml := make_lists n hn6
  clear hr hst hnums hnew
  have hq0 := heap_alloc_new w (.cells #[.int .i64 n, .slice ad es.length cap, .bool bp, .bool rr, .int .i64 rm] 24)
  go_enter Tryz.func16, Tryz.ntmps16
  go_wp2_with fail
  refine (HNW.out _ (below_alloc (Below.refl _ _) _)).mono ?_
  rintro e w1 ⟨hb1, x, R, F, rfl, hQ⟩
  have hq1 := (hb1.block _ (blk_lt hq0)).trans hq0
  obtain ⟨c0, c1, c2, c3, c4⟩ : w1.cell? ⟨w.heap.size, 0, none⟩ = some (.int .i64 n) ∧ w1.cell? ⟨w.heap.size, 1, none⟩ = some (.slice ad es.length cap) ∧ w1.cell? ⟨w.heap.size, 2, none⟩ = some (.bool bp) ∧ w1.cell? ⟨w.heap.size, 3, none⟩ = some (.bool rr) ∧ w1.cell? ⟨w.heap.size, 4, none⟩ = some (.int .i64 rm) := ⟨blk_cell hq1 0, blk_cell hq1 1, blk_cell hq1 2, blk_cell hq1 3, blk_cell hq1 4⟩
  have hlt : w.heap.size < w1.heap.size := blk_lt hq1
  have n0 := World.new_ne _ _ c0
  have n1 := World.new_ne _ _ c1
  have n2 := World.new_ne _ _ c2
  have n3 := World.new_ne _ _ c3
  have n4 := World.new_ne _ _ c4
  have HB1 : Hid (Below w.heap.size w (w.alloc (.cells #[.int .i64 n, .slice ad es.length cap, .bool bp, .bool rr, .int .i64 rm] 24))) := below_alloc (Below.refl _ _) _
  go_wp2_with fail
  go_cut [5] from 9 (fun s5 wc => ∃ P : Nat, s5 = .pointer (some ⟨P, 0, none⟩) ∧ Hid (Pg (Snap.all w) wc P x ⟨n, .slice ad es.length cap, rm, bp, rr⟩ es [] 0 (clu0 rm.toNat bp rr n F)))
  case first =>
    go_region_held3 (fun w' => w'.cell? ⟨w.heap.size, 0, none⟩ = some (.int .i64 n) ∧ w'.cell? ⟨w.heap.size, 1, none⟩ = some (.slice ad es.length cap) ∧ w'.cell? ⟨w.heap.size, 2, none⟩ = some (.bool bp) ∧ w'.cell? ⟨w.heap.size, 3, none⟩ = some (.bool rr) ∧ w'.cell? ⟨w.heap.size, 4, none⟩ = some (.int .i64 rm)) (first | assumption | exact ⟨cell_kept3 c0, cell_kept3 c1, cell_kept3 c2, cell_kept3 c3, cell_kept3 c4⟩ | (simp [*, World.cell?_alloc_some]; done)) (fail)
    all_goals clear hmb hml HNW n0 n1 n2 n3 n4 c0 c1 c2 c3 c4
    all_goals go_wp2_with fail
    all_goals go_meet
    all_goals case rel =>
      obtain ⟨t1, t2, t3, t4⟩ := three_new w1 _ _ _
      first
        | exact ⟨_, rfl, pst_new HR.out HS.out HB1.out hQ.out.2 ⟨HN.out.2.2.1, HN.out.2.2.2⟩ ⟨HN.out.1, HN.out.2.1⟩ t1 t2 t3 t4 (by omega) (by omega) (by omega) (by omega) (by omega) (by omega) hQ.out.1 HE.out hlen⟩
        | exact ⟨_, rfl, pst_new HR.out HS.out HB1.out hQ.out.2 ⟨HN.out.2.2.1, HN.out.2.2.2⟩ ⟨HN.out.1, HN.out.2.1⟩ t1 t3 t2 t4 (by omega) (by omega) (by omega) (by omega) (by omega) (by omega) hQ.out.1 HE.out hlen⟩
  case rest =>
    obtain ⟨P, rfl, hg⟩ := hcut
    have HUP := Hid.mk hg.out.lFirst
    have HRD : Hid (∀ W U, Pg (Snap.all w) W P x ⟨n, .slice ad es.length cap, rm, bp, rr⟩ es U 20 ((clu0 rm.toNat bp rr n F).update (0 : Nat) op5) → U.length ≤ 1 → Calls Tryz.prog 45 #[.pointer (some ⟨x, 0, none⟩), .int .i64 0, .int .i64 1, .string ⟨#[97]⟩] W fun e w' => ∃ (ad : Option Addr) (m cp : Nat), e = .returned (.tuple #[.agg #[.int .i64 5, .slice ad m cp], .int .i64 0]) ∧ Below W.heap.size W w') := fun W U hW hU => Pg.pRead5 HN.out.1 (by have := HN.out; omega) hW hU
    clear hq0 hq1 c0 c1 c2 c3 c4 n0 n1 n2 n3 n4 hlt hmb hml HNW
    go_wp2_with fail
    refine HUP.out.mono ?_
    rintro e w3 ⟨rfl, hg3⟩
    obtain ⟨U, hU, hU1⟩ := hg3.out
    have HU := Hid.mk hU
    clear hg3 hU
    go_wp2_with fail
    refine (HRD.out _ _ HU.out hU1).mono ?_
    rintro e w4 ⟨ad', m', cp', rfl, hb4⟩
    have HF := Hid.mk ((HU.out.same hb4).same (below_alloc (Below.refl _ _) (.cells #[.int .i64 5, .slice ad' m' cp'] 98)))
    clear HRD HUP HU hg hQ
    go_wp2
    go_ret
    exact ⟨P, x, U, _, rfl, HF.out, hU1⟩
end Go.Proofs.YtahdlejgjcjeoaaGreatDoor

namespace Go.Proofs.YtahdlejgjcjeoaaGreatDoor
open Go.RowKit
/-- Where a play stands after i acts. -/
def PlayK (Z w : World) (P x : Nat) (g : Cf) (es : List (Int × Int)) (i : Nat) : Prop := ∃ U c, Pg (Snap.all Z) w P x g es U (20 * i + 20) c ∧ U.length ≤ i + 1
theorem PlayK.bel {Z w : World} {P x : Nat} {g : Cf} {es : List (Int × Int)} {i : Nat} (h : PlayK Z w P x g es i) : Below Z.heap.size Z w := by
  obtain ⟨U, c, h1, h2⟩ := h
  obtain ⟨D, ⟨L, hp⟩, -⟩ := h1.pm
  exact hp.bel
/-- What played gives. -/
def PlayedQ (w : World) (g : Cf) (es : List (Int × Int)) (n : Nat) (e : Ending) (w' : World) : Prop := ∃ P x, e = .returned (.pointer (some ⟨P, 0, none⟩)) ∧ PlayK w w' P x g es n
set_option maxRecDepth 100000 in
set_option maxHeartbeats 4000000 in
theorem played_any (v vs : Value) (es : List (Int × Int)) (l : List ActV) (n : Nat) (rm : Int) (bp rr : Bool) (w : World) (hr : RulesAt w) (hst : StepsAt w) (hv : EdgesOf w v es) (hlen : es.length ≤ 1048576) (hnew : newOk n rm es = true) (hs : ActsOf w vs l) (hll : l.length ≤ 87381) (hfit : ∀ a ∈ l, a.fit) :
    Calls Tryz.prog 8 #[.agg #[.int .i64 n, v, .bool bp, .bool rr, .int .i64 rm], vs] w fun e w' => ∃ Z : World, Below w.heap.size w Z ∧ PlayedQ Z ⟨n, v, rm, bp, rr⟩ es l.length e w' := by
  have HR := Hid.mk hr
  have HST := Hid.mk hst
  have HV := Hid.mk hv
  have HS := Hid.mk hs
  have HF := Hid.mk hfit
  have HNW := Hid.mk hnew
  obtain ⟨ad, cap, rfl, -⟩ := hv
  obtain ⟨adS, capS, rfl, -⟩ := hs
  obtain ⟨m, HLN⟩ : ∃ m, Hid (l.length = m) := ⟨_, rfl⟩
  rw [HLN.out] at hll HS ⊢
  clear hr hst hfit hnew
  have HB0 := Hid.mk (below_alloc (Below.refl _ w) (.cells #[.int .i64 n, .slice ad es.length cap, .bool bp, .bool rr, .int .i64 rm] 24))
  go_enter Tryz.func8, Tryz.ntmps8
  go_wp2_with fail
  refine (player_any _ es n rm bp rr _ (HR.out.below HB0.out HR.out.1) (HST.out.block (HB0.out.block 1 HST.out.1) HB0.out.size) (HV.out.below HB0.out) hlen HNW.out).mono ?_
  generalize w.alloc (.cells #[.int .i64 n, .slice ad es.length cap, .bool bp, .bool rr, .int .i64 rm] 24) = Z at *
  have HSZ := Hid.mk (HS.out.below HB0.out)
  rintro e w1 ⟨P, x, U, c, rfl, hg, hU⟩
  have HP : Hid (PlayK Z w1 P x ⟨n, .slice ad es.length cap, rm, bp, rr⟩ es 0) := ⟨U, c, hg, hU⟩
  clear hg hU HS HV HR HST HNW
  go_wp2
  go_loopw [6] (fun s wr => ∃ i : Nat, i ≤ m ∧ s = .int .i64 i ∧ Hid (PlayK Z wr P x ⟨n, .slice ad es.length cap, rm, bp, rr⟩ es i)) (fun s _ => m - (intOf s).toNat)
  case atStart => exact ⟨0, Nat.zero_le _, rfl, HP⟩
  case round =>
    clear HP
    obtain ⟨i, hi, rfl, hp⟩ := hrel
    by_cases hlt : i < m
    · have q1 : (i : Int) < (m : Int) := by omega
      have q2 : (0 : Int) ≤ (i : Int) := by omega
      have hil : i < l.length := by rw [HLN.out]; exact hlt
      obtain ⟨b, off, cp, hv0, hbl, e0, e1, e2, e3, e4, e5, e6, e7, e8, e9⟩ := (HSZ.out.below hp.out.bel).nth i hil
      cases hv0
      have ha := HF.out _ (List.getElem_mem hil)
      obtain ⟨U', c', hg, hU⟩ := hp.out
      generalize l[i] = a at *
      obtain ⟨ak, ar, aq, an, ⟨ty, ky, sd, el, on⟩, key⟩ := a
      have HA := Hid.mk (hg.lAct ⟨by omega, by omega⟩ ak ar aq an ty ky sd el on key ha)
      simp only at e0 e1 e2 e3 e4 e5 e6 e7 e8 e9
      clear ha hp hg
      go_wp2_with fail
      refine HA.out.mono ?_
      rintro e w2 ⟨rfl, c2, U2, h2, hU2⟩
      have HP2 : Hid (PlayK Z w2 P x ⟨n, .slice ad es.length cap, rm, bp, rr⟩ es (i + 1)) := ⟨U2, c2, h2.later (by omega), by omega⟩
      clear h2 HA e0 e1 e2 e3 e4 e5 e6 e7 e8 e9
      go_wp2
      exact ⟨⟨i + 1, by omega, by go_num, HP2⟩, by simp [intOf]; omega⟩
    · have q1 : ¬ (i : Int) < (m : Int) := by omega
      have him : i = m := by omega
      subst him
      go_wp2
      go_ret
      exact ⟨Z, HB0.out, P, x, rfl, hp.out⟩
end Go.Proofs.YtahdlejgjcjeoaaGreatDoor
