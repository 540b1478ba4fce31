/- Walk of the Player's act. -/
import Derived.Test.YtahdlejgjcjeoabGreatDoorM31
import Derived.Test.YtahdlejgjcjeoabGreatDoorM29
import Derived.Test.YtahdlejgjcjeoabGreatDoorM30
namespace Go.Proofs.YtahdlejgjcjeoabGreatDoor
open Go.RowKit
section
variable {Z : Snap} {w w' : World} {P x N : Nat} {g : Cf} {c : Clu} {U : List At} {es : List (Int × Int)}

set_option maxRecDepth 100000 in
set_option maxHeartbeats 4000000 in
theorem Pg.lNet8 (h : Pg Z w P x g es U N c) (hL : Lim U (N + 20)) (r q n ty : Int) (ky : ByteArray) (sd : Int) (el : ByteArray) (on : Int) (key : ByteArray) (hn0 : -9223372036854775808 ≤ n) (hn1 : n ≤ 9223372036854775807) :
    Calls Tryz.prog 97 #[.pointer (some ⟨P, 0, none⟩), .agg #[.int .i64 8, .int .i64 r, .int .i64 q, .int .i64 n, .int .i64 ty, .string ky, .int .i64 sd, .string el, .int .i64 on, .string key]] w fun e w' => e = .returned (.bool true) ∧ ∃ c', Pg Z w' P x g es U (N + 20) c' := by
  have HB0 := Hid.mk (below_alloc (Below.refl _ w) (actB 8 r q n ty ky sd el on key))
  obtain ⟨Z1, hg1, back⟩ := h.rebase HB0.out
  have HG1 := Hid.mk hg1
  have HBK := Hid.mk back
  have HA0 := Hid.mk (heap_alloc_new w (actB 8 r q n ty ky sd el on key))
  have HPK := Hid.mk (fun W' => pick_any n 20 W' hn0 hn1 (by decide) (by decide))
  have HPN := Hid.mk (fun (m : Int) (h0 : 0 < m) (h1 : m ≤ 2147483647) W' => pick_any n m W' hn0 hn1 h0 h1)
  have HL0 : Hid (Lim U N) := ⟨Nat.le_trans (Nat.le_add_right N 20) hL.1, hL.2⟩
  have HL1 : Hid (Lim U (N + 1)) := ⟨Nat.le_trans (by omega) hL.1, hL.2⟩
  have HNL := Hid.mk h.ok.netL
  have hn6 : g.n ≤ 6 := by rw [← h.len]; exact h.ok.n6
  have c0 := hg1.cells.1
  have a3 := (act_cells HA0.out).2
  have a0 := (act_cells HA0.out).1
  have hltP : P < w.heap.size := h.ltP
  have HKEEP : Hid (∀ W, Pg Z1 W P x g es U N c → W.heap[w.heap.size]? = some (actB 8 r q n ty ky sd el on key)) := fun W hW => ((HBK.out _ _ _ _ hW).2 _ (Nat.le_refl _) (blk_lt HA0.out)).trans HA0.out
  clear h hg1 back hL
  unfold actB at *
  go_enter Tryz.func97, Tryz.ntmps97
  go_wp2_with fail
  refine HG1.out.pFlight.mono ?_
  rintro e w1 ⟨rfl, h1⟩
  have HG2 := Hid.mk h1
  clear h1 HG1 c0 a3 a0
  go_wp2
  go_loopw [5, 6] (fun s5 s6 wr => s5 = .int .i64 c.net.length ∧ s6 = .int .i64 0 ∧ Hid (Pg Z1 wr P x g es U N c)) (fun _ _ _ => 0)
  case atStart => exact ⟨rfl, rfl, HG2⟩
  case round =>
    clear HG2
    obtain ⟨rfl, rfl, hg⟩ := hrel
    have hblk := HKEEP.out _ hg.out
    have a3 := (act_cells hblk).2
    have a0 := (act_cells hblk).1
    have c0 := hg.out.cells.1
    have HEND := Hid.mk (HBK.out _ _ _ _ (hg.out.later (Nat.le_add_right N 20))).1
    clear hblk
    go_wp2_with fail
    refine (HPK.out _).mono ?_
    rintro e w5 ⟨rr, rfl, hr2, rfl⟩
    obtain ⟨q1, q2⟩ := hr2
    by_cases hnl : 0 < c.net.length
    · have hnl' : (0 : Int) < (c.net.length : Int) := by omega
      have hnl2 : (c.net.length : Int) ≤ 2147483647 := by have := HNL.out; omega
      clear HEND
      go_wp2_with fail
      refine (HPN.out (c.net.length : Int) hnl' hnl2 _).mono ?_
      rintro e w6 ⟨kk, rfl, hkk, rfl⟩
      obtain ⟨k1, k2⟩ := hkk
      obtain ⟨e0, hdst⟩ := frmAt_of hg.out.ok k1 k2
      rw [hg.out.len] at hdst
      have HFR := Hid.mk (hg.out.pFrame HL0.out kk)
      rw [e0] at HFR
      clear HPK HPN
      go_wp2_with fail
      refine HFR.out.mono ?_
      rintro e w7 ⟨ad, fn, cp, rfl, h7, hb7⟩
      have H7 := Hid.mk h7
      have c07 := h7.cells.1
      have c17 := h7.cells.2
      have a7 := (act_cells (HKEEP.out _ h7)).1
      have h7P := h7.ltP
      have hwb : w.heap.size < w7.heap.size := blk_lt (HKEEP.out _ h7)
      clear h7 HFR hb7
      generalize (c.frmAt kk).kind = fk at *
      generalize (c.frmAt kk).src = fs at *
      generalize (c.frmAt kk).dst = fd at *
      generalize (c.frmAt kk).upto = fu at *
      obtain ⟨Z2, h8, back2⟩ := H7.out.rebase (below_alloc (Below.refl _ w7) (.cells #[.int .i64 fk, .int .i64 fs, .int .i64 fd, .int .i64 fu, .slice ad fn cp] 110))
      have HF8 := Hid.mk (heap_alloc_new w7 (.cells #[.int .i64 fk, .int .i64 fs, .int .i64 fd, .int .i64 fu, .slice ad fn cp] 110))
      have HDP := Hid.mk (h8.pDrop HL0.out kk)
      rw [e0] at HDP
      have HBK2 := Hid.mk back2
      clear h8 back2 e0
      go_wp2_with fail
      refine HDP.out.mono ?_
      rintro e w9 ⟨rfl, h9⟩
      obtain ⟨hz1, hk9⟩ := HBK2.out _ _ _ _ h9
      have hf9 := (hk9 _ (Nat.le_refl _) (blk_lt HF8.out)).trans HF8.out
      have f2 := blk_cell hf9 2
      simp at f2
      have HS9 := Hid.mk (fun W (hW : Below w9.heap.size w9 W) => (hz1.same hW).lState HL1.out hdst)
      have HA9 := Hid.mk (fun W (hW : Pg Z1 W P x g es U (N + 1) (c.dropF kk)) => (act_cells (((HBK.out _ _ _ _ hW).2 _ (Nat.le_refl _) (blk_lt HA0.out)).trans HA0.out)).1)
      have c19 := hz1.cells.2
      obtain ⟨hz0, hka9⟩ := HBK.out _ _ _ _ hz1
      have ha9 := (act_cells ((hka9 _ (Nat.le_refl _) (blk_lt HA0.out)).trans HA0.out)).1
      have p1 : (0 : Int) ≤ (fd : Int) := by omega
      have p2 : (fd : Int) < (g.n : Int) := by omega
      clear hk9 hf9 hz1 hz0 hka9 h9 HBK2 HF8 HDP H7 c07 c17 a7 a3 a0 c0
      go_wp2_with fail
      go_quiet (fail)
      go_wp2_with fail
      refine (HS9.out _ (by first | exact below_drewN (Below.refl _ _) _ | exact Below.refl _ _)).mono ?_
      rintro e w10 ⟨rfl, h10⟩
      have a10 := HA9.out _ h10
      have HE10 := Hid.mk (HBK.out _ _ _ _ (h10.later (show N + 1 ≤ N + 20 by omega))).1
      clear h10 HS9 HA9 f2 c19 ha9
      go_wp2
      go_ret
      exact ⟨rfl, _, HE10.out⟩
    · have hnl' : (c.net.length : Int) = 0 := by omega
      rw [hnl'] at *
      go_wp2
      go_ret
      exact ⟨rfl, _, HEND.out⟩

set_option maxRecDepth 100000 in
set_option maxHeartbeats 4000000 in
theorem Pg.lNet7 (h : Pg Z w P x g es U N c) (hL : Lim U (N + 20)) (r q n ty : Int) (ky : ByteArray) (sd : Int) (el : ByteArray) (on : Int) (key : ByteArray) (hn0 : -9223372036854775808 ≤ n) (hn1 : n ≤ 9223372036854775807) :
    Calls Tryz.prog 97 #[.pointer (some ⟨P, 0, none⟩), .agg #[.int .i64 7, .int .i64 r, .int .i64 q, .int .i64 n, .int .i64 ty, .string ky, .int .i64 sd, .string el, .int .i64 on, .string key]] w fun e w' => e = .returned (.bool true) ∧ ∃ c', Pg Z w' P x g es U (N + 20) c' := by
  have HB0 := Hid.mk (below_alloc (Below.refl _ w) (actB 7 r q n ty ky sd el on key))
  obtain ⟨Z1, hg1, back⟩ := h.rebase HB0.out
  have HG1 := Hid.mk hg1
  have HBK := Hid.mk back
  have HA0 := Hid.mk (heap_alloc_new w (actB 7 r q n ty ky sd el on key))
  have HPK := Hid.mk (fun W' => pick_any n 20 W' hn0 hn1 (by decide) (by decide))
  have HPN := Hid.mk (fun (m : Int) (h0 : 0 < m) (h1 : m ≤ 2147483647) W' => pick_any n m W' hn0 hn1 h0 h1)
  have HL0 : Hid (Lim U N) := ⟨Nat.le_trans (Nat.le_add_right N 20) hL.1, hL.2⟩
  have HL1 : Hid (Lim U (N + 1)) := ⟨Nat.le_trans (by omega) hL.1, hL.2⟩
  have HNL := Hid.mk h.ok.netL
  have hn6 : g.n ≤ 6 := by rw [← h.len]; exact h.ok.n6
  have c0 := hg1.cells.1
  have a3 := (act_cells HA0.out).2
  have a0 := (act_cells HA0.out).1
  have hltP : P < w.heap.size := h.ltP
  have HKEEP : Hid (∀ W, Pg Z1 W P x g es U N c → W.heap[w.heap.size]? = some (actB 7 r q n ty ky sd el on key)) := fun W hW => ((HBK.out _ _ _ _ hW).2 _ (Nat.le_refl _) (blk_lt HA0.out)).trans HA0.out
  clear h hg1 back hL
  unfold actB at *
  go_enter Tryz.func97, Tryz.ntmps97
  go_wp2_with fail
  refine HG1.out.pFlight.mono ?_
  rintro e w1 ⟨rfl, h1⟩
  have HG2 := Hid.mk h1
  clear h1 HG1 c0 a3 a0
  go_wp2
  go_loopw [5, 6] (fun s5 s6 wr => s5 = .int .i64 c.net.length ∧ s6 = .int .i64 0 ∧ Hid (Pg Z1 wr P x g es U N c)) (fun _ _ _ => 0)
  case atStart => exact ⟨rfl, rfl, HG2⟩
  case round =>
    clear HG2
    obtain ⟨rfl, rfl, hg⟩ := hrel
    have hblk := HKEEP.out _ hg.out
    have a3 := (act_cells hblk).2
    have a0 := (act_cells hblk).1
    have c0 := hg.out.cells.1
    have HEND := Hid.mk (HBK.out _ _ _ _ (hg.out.later (Nat.le_add_right N 20))).1
    clear hblk
    go_wp2_with fail
    refine (HPK.out _).mono ?_
    rintro e w5 ⟨rr, rfl, hr2, rfl⟩
    obtain ⟨q1, q2⟩ := hr2
    by_cases hnl : 0 < c.net.length
    · have hnl' : (0 : Int) < (c.net.length : Int) := by omega
      have hnl2 : (c.net.length : Int) ≤ 2147483647 := by have := HNL.out; omega
      clear HEND
      go_wp2_with fail
      refine (HPN.out (c.net.length : Int) hnl' hnl2 _).mono ?_
      rintro e w6 ⟨kk, rfl, hkk, rfl⟩
      obtain ⟨k1, k2⟩ := hkk
      obtain ⟨e0, hdst⟩ := frmAt_of hg.out.ok k1 k2
      rw [hg.out.len] at hdst
      have HFR := Hid.mk (hg.out.pFrame HL0.out kk)
      rw [e0] at HFR
      clear HPK HPN
      go_wp2_with fail
      refine HFR.out.mono ?_
      rintro e w7 ⟨ad, fn, cp, rfl, h7, hb7⟩
      have H7 := Hid.mk h7
      have c07 := h7.cells.1
      have c17 := h7.cells.2
      have a7 := (act_cells (HKEEP.out _ h7)).1
      have h7P := h7.ltP
      have hwb : w.heap.size < w7.heap.size := blk_lt (HKEEP.out _ h7)
      clear h7 HFR hb7
      generalize (c.frmAt kk).kind = fk at *
      generalize (c.frmAt kk).src = fs at *
      generalize (c.frmAt kk).dst = fd at *
      generalize (c.frmAt kk).upto = fu at *
      obtain ⟨Z2, h8, back2⟩ := H7.out.rebase (below_alloc (Below.refl _ w7) (.cells #[.int .i64 fk, .int .i64 fs, .int .i64 fd, .int .i64 fu, .slice ad fn cp] 110))
      have HF8 := Hid.mk (heap_alloc_new w7 (.cells #[.int .i64 fk, .int .i64 fs, .int .i64 fd, .int .i64 fu, .slice ad fn cp] 110))
      have HDP := Hid.mk (h8.pDeliver HL0.out kk)
      rw [e0] at HDP
      have HBK2 := Hid.mk back2
      clear h8 back2 e0
      go_wp2_with fail
      refine HDP.out.mono ?_
      rintro e w9 ⟨rfl, h9⟩
      obtain ⟨hz1, hk9⟩ := HBK2.out _ _ _ _ h9
      have hf9 := (hk9 _ (Nat.le_refl _) (blk_lt HF8.out)).trans HF8.out
      have f2 := blk_cell hf9 2
      simp at f2
      have HS9 := Hid.mk (fun W (hW : Below w9.heap.size w9 W) => (hz1.same hW).lState HL1.out hdst)
      have HA9 := Hid.mk (fun W (hW : Pg Z1 W P x g es U (N + 1) (c.deliver kk)) => (act_cells (((HBK.out _ _ _ _ hW).2 _ (Nat.le_refl _) (blk_lt HA0.out)).trans HA0.out)).1)
      have c19 := hz1.cells.2
      obtain ⟨hz0, hka9⟩ := HBK.out _ _ _ _ hz1
      have ha9 := (act_cells ((hka9 _ (Nat.le_refl _) (blk_lt HA0.out)).trans HA0.out)).1
      have p1 : (0 : Int) ≤ (fd : Int) := by omega
      have p2 : (fd : Int) < (g.n : Int) := by omega
      clear hk9 hf9 hz1 hz0 hka9 h9 HBK2 HF8 HDP H7 c07 c17 a7 a3 a0 c0
      go_wp2_with fail
      go_quiet (fail)
      go_wp2_with fail
      refine (HS9.out _ (by first | exact below_drewN (Below.refl _ _) _ | exact Below.refl _ _)).mono ?_
      rintro e w10 ⟨rfl, h10⟩
      have a10 := HA9.out _ h10
      have HE10 := Hid.mk (HBK.out _ _ _ _ (h10.later (show N + 1 ≤ N + 20 by omega))).1
      clear h10 HS9 HA9 f2 c19 ha9
      go_wp2
      go_ret
      exact ⟨rfl, _, HE10.out⟩
    · have hnl' : (c.net.length : Int) = 0 := by omega
      rw [hnl'] at *
      go_wp2
      go_ret
      exact ⟨rfl, _, HEND.out⟩

set_option maxRecDepth 100000 in
set_option maxHeartbeats 4000000 in
theorem Pg.lNet9 (h : Pg Z w P x g es U N c) (hL : Lim U (N + 20)) (r q n ty : Int) (ky : ByteArray) (sd : Int) (el : ByteArray) (on : Int) (key : ByteArray) (hn0 : -9223372036854775808 ≤ n) (hn1 : n ≤ 9223372036854775807) :
    Calls Tryz.prog 97 #[.pointer (some ⟨P, 0, none⟩), .agg #[.int .i64 9, .int .i64 r, .int .i64 q, .int .i64 n, .int .i64 ty, .string ky, .int .i64 sd, .string el, .int .i64 on, .string key]] w fun e w' => e = .returned (.bool true) ∧ ∃ c', Pg Z w' P x g es U (N + 20) c' := by
  have HB0 := Hid.mk (below_alloc (Below.refl _ w) (actB 9 r q n ty ky sd el on key))
  obtain ⟨Z1, hg1, back⟩ := h.rebase HB0.out
  have HG1 := Hid.mk hg1
  have HBK := Hid.mk back
  have HA0 := Hid.mk (heap_alloc_new w (actB 9 r q n ty ky sd el on key))
  have HPK := Hid.mk (fun W' => pick_any n 20 W' hn0 hn1 (by decide) (by decide))
  have HPN := Hid.mk (fun (m : Int) (h0 : 0 < m) (h1 : m ≤ 2147483647) W' => pick_any n m W' hn0 hn1 h0 h1)
  have HL0 : Hid (Lim U N) := ⟨Nat.le_trans (Nat.le_add_right N 20) hL.1, hL.2⟩
  have HL1 : Hid (Lim U (N + 1)) := ⟨Nat.le_trans (by omega) hL.1, hL.2⟩
  have HNL := Hid.mk h.ok.netL
  have hn6 : g.n ≤ 6 := by rw [← h.len]; exact h.ok.n6
  have c0 := hg1.cells.1
  have a3 := (act_cells HA0.out).2
  have a0 := (act_cells HA0.out).1
  have hltP : P < w.heap.size := h.ltP
  have HKEEP : Hid (∀ W, Pg Z1 W P x g es U N c → W.heap[w.heap.size]? = some (actB 9 r q n ty ky sd el on key)) := fun W hW => ((HBK.out _ _ _ _ hW).2 _ (Nat.le_refl _) (blk_lt HA0.out)).trans HA0.out
  clear h hg1 back hL
  unfold actB at *
  go_enter Tryz.func97, Tryz.ntmps97
  go_wp2_with fail
  refine HG1.out.pFlight.mono ?_
  rintro e w1 ⟨rfl, h1⟩
  have HG2 := Hid.mk h1
  clear h1 HG1 c0 a3 a0
  go_wp2
  go_loopw [5, 6] (fun s5 s6 wr => s5 = .int .i64 c.net.length ∧ s6 = .int .i64 0 ∧ Hid (Pg Z1 wr P x g es U N c)) (fun _ _ _ => 0)
  case atStart => exact ⟨rfl, rfl, HG2⟩
  case round =>
    clear HG2
    obtain ⟨rfl, rfl, hg⟩ := hrel
    have hblk := HKEEP.out _ hg.out
    have a3 := (act_cells hblk).2
    have a0 := (act_cells hblk).1
    have c0 := hg.out.cells.1
    have HEND := Hid.mk (HBK.out _ _ _ _ (hg.out.later (Nat.le_add_right N 20))).1
    clear hblk
    go_wp2_with fail
    refine (HPK.out _).mono ?_
    rintro e w5 ⟨rr, rfl, hr2, rfl⟩
    obtain ⟨q1, q2⟩ := hr2
    by_cases hnl : 0 < c.net.length
    · have hnl' : (0 : Int) < (c.net.length : Int) := by omega
      have hnl2 : (c.net.length : Int) ≤ 2147483647 := by have := HNL.out; omega
      clear HEND
      go_wp2_with fail
      refine (HPN.out (c.net.length : Int) hnl' hnl2 _).mono ?_
      rintro e w6 ⟨kk, rfl, hkk, rfl⟩
      obtain ⟨k1, k2⟩ := hkk
      obtain ⟨e0, hdst⟩ := frmAt_of hg.out.ok k1 k2
      rw [hg.out.len] at hdst
      have HFR := Hid.mk (hg.out.pFrame HL0.out kk)
      rw [e0] at HFR
      clear HPK HPN
      go_wp2_with fail
      refine HFR.out.mono ?_
      rintro e w7 ⟨ad, fn, cp, rfl, h7, hb7⟩
      have H7 := Hid.mk h7
      have c07 := h7.cells.1
      have c17 := h7.cells.2
      have a7 := (act_cells (HKEEP.out _ h7)).1
      have h7P := h7.ltP
      have hwb : w.heap.size < w7.heap.size := blk_lt (HKEEP.out _ h7)
      clear h7 HFR hb7
      generalize (c.frmAt kk).kind = fk at *
      generalize (c.frmAt kk).src = fs at *
      generalize (c.frmAt kk).dst = fd at *
      generalize (c.frmAt kk).upto = fu at *
      obtain ⟨Z2, h8, back2⟩ := H7.out.rebase (below_alloc (Below.refl _ w7) (.cells #[.int .i64 fk, .int .i64 fs, .int .i64 fd, .int .i64 fu, .slice ad fn cp] 110))
      have HF8 := Hid.mk (heap_alloc_new w7 (.cells #[.int .i64 fk, .int .i64 fs, .int .i64 fd, .int .i64 fu, .slice ad fn cp] 110))
      have HDP := Hid.mk (h8.pCopy HL0.out kk)
      rw [e0] at HDP
      have HBK2 := Hid.mk back2
      clear h8 back2 e0
      go_wp2_with fail
      refine HDP.out.mono ?_
      rintro e w9 ⟨rfl, h9⟩
      obtain ⟨hz1, hk9⟩ := HBK2.out _ _ _ _ h9
      have hf9 := (hk9 _ (Nat.le_refl _) (blk_lt HF8.out)).trans HF8.out
      have f2 := blk_cell hf9 2
      simp at f2
      have HS9 := Hid.mk (fun W (hW : Below w9.heap.size w9 W) => (hz1.same hW).lState HL1.out hdst)
      have HA9 := Hid.mk (fun W (hW : Pg Z1 W P x g es U (N + 1) (c.copyF kk)) => (act_cells (((HBK.out _ _ _ _ hW).2 _ (Nat.le_refl _) (blk_lt HA0.out)).trans HA0.out)).1)
      have c19 := hz1.cells.2
      obtain ⟨hz0, hka9⟩ := HBK.out _ _ _ _ hz1
      have ha9 := (act_cells ((hka9 _ (Nat.le_refl _) (blk_lt HA0.out)).trans HA0.out)).1
      have p1 : (0 : Int) ≤ (fd : Int) := by omega
      have p2 : (fd : Int) < (g.n : Int) := by omega
      clear hk9 hf9 hz1 hz0 hka9 h9 HBK2 HF8 HDP H7 c07 c17 a7 a3 a0 c0
      go_wp2_with fail
      go_quiet (fail)
      go_wp2_with fail
      refine (HS9.out _ (by first | exact below_drewN (Below.refl _ _) _ | exact Below.refl _ _)).mono ?_
      rintro e w10 ⟨rfl, h10⟩
      have a10 := HA9.out _ h10
      have HE10 := Hid.mk (HBK.out _ _ _ _ (h10.later (show N + 1 ≤ N + 20 by omega))).1
      clear h10 HS9 HA9 f2 c19 ha9
      go_wp2
      go_ret
      exact ⟨rfl, _, HE10.out⟩
    · have hnl' : (c.net.length : Int) = 0 := by omega
      rw [hnl'] at *
      go_wp2
      go_ret
      exact ⟨rfl, _, HEND.out⟩

set_option maxRecDepth 100000 in
set_option maxHeartbeats 4000000 in
theorem Pg.lNet10 (h : Pg Z w P x g es U N c) (hL : Lim U (N + 20)) (r q n ty : Int) (ky : ByteArray) (sd : Int) (el : ByteArray) (on : Int) (key : ByteArray) (hn0 : -9223372036854775808 ≤ n) (hn1 : n ≤ 9223372036854775807) :
    Calls Tryz.prog 97 #[.pointer (some ⟨P, 0, none⟩), .agg #[.int .i64 10, .int .i64 r, .int .i64 q, .int .i64 n, .int .i64 ty, .string ky, .int .i64 sd, .string el, .int .i64 on, .string key]] w fun e w' => e = .returned (.bool true) ∧ ∃ c', Pg Z w' P x g es U (N + 20) c' := by
  have HB0 := Hid.mk (below_alloc (Below.refl _ w) (actB 10 r q n ty ky sd el on key))
  obtain ⟨Z1, hg1, back⟩ := h.rebase HB0.out
  have HG1 := Hid.mk hg1
  have HBK := Hid.mk back
  have HA0 := Hid.mk (heap_alloc_new w (actB 10 r q n ty ky sd el on key))
  have HPK := Hid.mk (fun W' => pick_any n 20 W' hn0 hn1 (by decide) (by decide))
  have HLM := Hid.mk hL
  have hn6 : g.n ≤ 6 := by rw [← h.len]; exact h.ok.n6
  have c0 := hg1.cells.1
  have a3 := (act_cells HA0.out).2
  have a0 := (act_cells HA0.out).1
  have hltP : P < w.heap.size := h.ltP
  have HKEEP : Hid (∀ W c' N', Pg Z1 W P x g es U N' c' → W.heap[w.heap.size]? = some (actB 10 r q n ty ky sd el on key)) := fun W c' N' hW => ((HBK.out _ _ _ _ hW).2 _ (Nat.le_refl _) (blk_lt HA0.out)).trans HA0.out
  clear h hg1 back hL
  unfold actB at *
  go_enter Tryz.func97, Tryz.ntmps97
  go_wp2_with fail
  refine HG1.out.pFlight.mono ?_
  rintro e w1 ⟨rfl, h1⟩
  have HG2 := Hid.mk h1
  clear h1 HG1 c0 a3 a0
  go_wp2
  go_loopw [5, 6] (fun s5 s6 wr => ∃ (i : Nat) (c' : Clu), i ≤ 20 ∧ s5 = .int .i64 c'.net.length ∧ s6 = .int .i64 i ∧ Hid (Pg Z1 wr P x g es U (N + i) c')) (fun _ s6 _ => 20 - (intOf s6).toNat)
  case atStart => exact ⟨0, c, by omega, rfl, rfl, HG2⟩
  case round =>
    clear HG2
    obtain ⟨i, c', hi, rfl, rfl, hg⟩ := hrel
    have hblk := HKEEP.out _ _ _ hg.out
    have a3 := (act_cells hblk).2
    have a0 := (act_cells hblk).1
    have c0 := hg.out.cells.1
    have HEND := Hid.mk (HBK.out _ _ _ _ (hg.out.later (show N + i ≤ N + 20 by omega))).1
    have HL0 : Hid (Lim U (N + i)) := ⟨Nat.le_trans (by omega) HLM.out.1, HLM.out.2⟩
    clear hblk
    go_wp2_with fail
    refine (HPK.out _).mono ?_
    rintro e w5 ⟨rr, rfl, hr2, rfl⟩
    obtain ⟨q1, q2⟩ := hr2
    by_cases hir : (i : Int) ≤ rr
    · have hi19 : i + 1 ≤ 20 := by omega
      have HL1 : Hid (Lim U (N + i + 1)) := ⟨Nat.le_trans (by omega) HLM.out.1, HLM.out.2⟩
      by_cases hnl : 0 < c'.net.length
      · have hnl' : (0 : Int) < (c'.net.length : Int) := by omega
        obtain ⟨e0, hdst⟩ := frmAt_of hg.out.ok (Int.le_refl 0) hnl'
        rw [hg.out.len] at hdst
        have HFR := Hid.mk (hg.out.pFrame HL0.out 0)
        rw [e0] at HFR
        clear HEND
        go_wp2_with fail
        refine HFR.out.mono ?_
        rintro e w7 ⟨ad, fn, cp, rfl, h7, hb7⟩
        have H7 := Hid.mk h7
        have c07 := h7.cells.1
        have a7 := (act_cells (HKEEP.out _ _ _ h7)).1
        have h7P := h7.ltP
        have hwb : w.heap.size < w7.heap.size := blk_lt (HKEEP.out _ _ _ h7)
        clear h7 HFR hb7
        generalize (c'.frmAt 0).kind = fk at *
        generalize (c'.frmAt 0).src = fs at *
        generalize (c'.frmAt 0).dst = fd at *
        generalize (c'.frmAt 0).upto = fu at *
        obtain ⟨Z2, h8, back2⟩ := H7.out.rebase (below_alloc (Below.refl _ w7) (.cells #[.int .i64 fk, .int .i64 fs, .int .i64 fd, .int .i64 fu, .slice ad fn cp] 110))
        have HF8 := Hid.mk (heap_alloc_new w7 (.cells #[.int .i64 fk, .int .i64 fs, .int .i64 fd, .int .i64 fu, .slice ad fn cp] 110))
        have HDP := Hid.mk (h8.pDeliver HL0.out 0)
        rw [e0] at HDP
        have HBK2 := Hid.mk back2
        clear h8 back2 e0
        go_wp2_with fail
        refine HDP.out.mono ?_
        rintro e w9 ⟨rfl, h9⟩
        obtain ⟨hz1, hk9⟩ := HBK2.out _ _ _ _ h9
        have hf9 := (hk9 _ (Nat.le_refl _) (blk_lt HF8.out)).trans HF8.out
        have f2 := blk_cell hf9 2
        simp at f2
        have HS9 := Hid.mk (fun W (hW : Below w9.heap.size w9 W) => (hz1.same hW).lState HL1.out hdst)
        have c19 := hz1.cells.2
        have p1 : (0 : Int) ≤ (fd : Int) := by omega
        have p2 : (fd : Int) < (g.n : Int) := by omega
        clear hk9 hf9 hz1 h9 HBK2 HF8 HDP H7 c07 a7 a3 a0 c0
        go_wp2_with fail
        go_quiet (fail)
        go_wp2_with fail
        refine (HS9.out _ (by first | exact below_drewN (Below.refl _ _) _ | exact Below.refl _ _)).mono ?_
        rintro e w10 ⟨rfl, h10⟩
        have a10 := (act_cells (HKEEP.out _ _ _ h10)).1
        have c10 := h10.cells.1
        have HFL := Hid.mk h10.pFlight
        clear h10 HS9 f2 c19
        go_wp2_with fail
        refine HFL.out.mono ?_
        rintro e w11 ⟨rfl, h11⟩
        have H11 : Hid (Pg Z1 w11 P x g es U (N + (i + 1)) (c'.deliver 0)) := h11
        clear h11 HFL a10 c10
        go_wp2
        exact ⟨⟨i + 1, _, hi19, rfl, by go_num, H11⟩, by simp [intOf]; omega⟩
      · have hnl' : (c'.net.length : Int) = 0 := by omega
        rw [hnl'] at *
        go_wp2
        go_ret
        exact ⟨rfl, _, HEND.out⟩
    · go_wp2
      go_ret
      exact ⟨rfl, _, HEND.out⟩
end
end Go.Proofs.YtahdlejgjcjeoabGreatDoor

namespace Go.Proofs.YtahdlejgjcjeoabGreatDoor
open Go.RowKit
theorem crash_keep {c : Clu} {r : Nat} (hr : r < c.reps.length) : (c.crash r).near = c.near ∧ ((c.crash r).rep r).down = true ∧ ∀ q, q ≠ r → ((c.crash r).rep q).down = (c.rep q).down := by
  unfold Clu.crash
  rw [works_rep hr]
  cases hd : (c.rep r).down
  · simp only [Bool.false_eq_true, if_false, if_true, Int.toNat_natCast]
    refine ⟨rfl, ?_, fun q hq => ?_⟩
    · rw [rep_setRep c r r _ hr, if_pos rfl]; rfl
    · rw [rep_setRep c r q _ hr, if_neg hq]
  · exact ⟨rfl, hd, fun _ _ => rfl⟩
theorem compact_keep {c : Clu} {r : Nat} (hr : r < c.reps.length) : (c.compact r).near = c.near ∧ ∀ q, ((c.compact r).rep q).down = (c.rep q).down := by
  unfold Clu.compact
  split
  · simp only [Int.toNat_natCast]
    refine ⟨rfl, fun q => ?_⟩
    rw [rep_setRep c r q _ hr]
    split
    · rename_i e; rw [e]; rfl
    · rfl
  · exact ⟨rfl, fun _ => rfl⟩
theorem near_update (c : Clu) (r : Int) (o : OpV) : (c.update r o).near = c.near := by unfold Clu.update; split <;> rfl
theorem near_torn (c : Clu) (r : Int) (o : OpV) (k : Int) : (c.tornOp r o k).near = c.near := by unfold Clu.tornOp; split <;> rfl
theorem near_start (c : Clu) (r : Int) : (c.start r).near = c.near := by unfold Clu.start; split <;> rfl
theorem near_send (c : Clu) (r q : Int) : (c.send r q).near = c.near := by unfold Clu.send Clu.sent; split; rw [near_put]; rfl; rfl
section
variable {Z : Snap} {w w' : World} {P x N : Nat} {g : Cf} {c : Clu} {U : List At} {es : List (Int × Int)}
/-- What an act leaves. -/
def ActQ (Z : Snap) (P x : Nat) (g : Cf) (es : List (Int × Int)) (U : List At) (N : Nat) (e : Ending) (w' : World) : Prop := e = .returned (.bool true) ∧ ∃ c' U', Pg Z w' P x g es U' (N + 20) c' ∧ U'.length ≤ U.length + 1
theorem Pg.lUpdate (h : Pg Z w P x g es U N c) (hL : N + 20 ≤ 2097152 ∧ U.length + 1 ≤ 131072) {r : Nat} (hr : r < g.n) (op : OpV) (hf : fineOp op = true) :
    Calls Tryz.prog 55 #[.pointer (some ⟨P, 0, none⟩), .int .i64 r, op.val] w (ActQ Z P x g es U N) := by
  obtain ⟨D, ⟨L, hp⟩, ht⟩ := h.pm
  have hrc : r < c.reps.length := by rw [h.len]; exact hr
  refine (hp.lUpdate h.ok ⟨by omega, hL.2⟩ h.inv ht hr op hf).mono fun e w' ⟨h1, L', h2⟩ => ?_
  obtain ⟨U', hU, -, hok⟩ := h.ok.update r op
  exact ⟨h1, _, U', ⟨⟨D, ⟨L', h2⟩, ht.same (len_update _ _ _) (update_down c r op hrc)⟩, hok.later (by omega), (h.inv.update h.ok r op).1, far_of h.far (near_update _ _ _) (len_update _ _ _), fun i j => by rw [near_update]; exact h.nr i j, h.ed⟩, hU⟩
theorem Pg.lStart (h : Pg Z w P x g es U N c) (hL : N + 20 ≤ 2097152 ∧ U.length + 1 ≤ 131072) {r : Nat} (hr : r < g.n) :
    Calls Tryz.prog 14 #[.pointer (some ⟨P, 0, none⟩), .int .i64 r] w (ActQ Z P x g es U N) := by
  obtain ⟨D, ⟨L, hp⟩, ht⟩ := h.pm
  have hrc : r < c.reps.length := by rw [h.len]; exact hr
  have hLL : Lim U N := ⟨by omega, by omega⟩
  cases hd : (c.rep r).down
  · refine (hp.lStart_up h.ok hLL h.inv ht hr hd).mono fun e w' ⟨h1, h2⟩ => ?_
    exact ⟨h1, c, U, ⟨⟨D, ⟨L, h2⟩, ht⟩, h.ok.later (by omega), h.inv, h.far, h.nr, h.ed⟩, by omega⟩
  · refine (hp.lStart_down h.ok hLL h.inv ht hr hd).mono fun e w' ⟨h1, h2⟩ => ?_
    have hrep := start_rep hrc hd
    refine ⟨h1, _, U, ⟨⟨_, ⟨_, h2⟩, ht.set (len_start _ _) (by rw [hp.lenD]; exact hr) (by rw [hrep, if_pos rfl]; rfl) (fun q hq => by rw [hrep, if_neg hq])⟩, (h.ok.start r).later (by omega), (h.inv.start h.ok r).1, far_of h.far (near_start _ _) (len_start _ _), fun i j => by rw [near_start]; exact h.nr i j, h.ed⟩, by omega⟩
theorem Pg.lTorn (h : Pg Z w P x g es U N c) (hL : N + 20 ≤ 2097152 ∧ U.length + 1 ≤ 131072) {r : Nat} (hr : r < g.n) (op : OpV) (hf : fineOp op = true) (keep : Int) :
    Calls Tryz.prog 95 #[.pointer (some ⟨P, 0, none⟩), .int .i64 r, op.val, .int .i64 keep] w (ActQ Z P x g es U N) := by
  obtain ⟨D, ⟨L, hp⟩, ht⟩ := h.pm
  have hLL : Lim U N := ⟨by omega, by omega⟩
  cases hd : (c.rep r).down
  · refine (hp.lTorn_up h.ok ⟨by omega, hL.2⟩ h.inv ht hr op hf keep hd).mono fun e w' ⟨h1, D', ⟨L', h2⟩, h3⟩ => ?_
    obtain ⟨U', hU, -, hok⟩ := h.ok.tornOp r op keep
    have hit := (h.inv.tornOp h.ok r op keep).1
    exact ⟨h1, _, U', ⟨⟨D', ⟨L', h2⟩, h3⟩, (hok.start r).later (by omega), (hit.start hok r).1, far_of h.far ((near_start _ _).trans (near_torn _ _ _ _)) ((len_start _ _).trans (len_tornOp _ _ _ _)), fun i j => by rw [near_start, near_torn]; exact h.nr i j, h.ed⟩, hU⟩
  · refine (hp.lTorn_down h.ok hLL h.inv ht hr op hf keep hd).mono fun e w' ⟨h1, h2⟩ => ?_
    exact ⟨h1, c, U, ⟨⟨D, ⟨L, h2⟩, ht⟩, h.ok.later (by omega), h.inv, h.far, h.nr, h.ed⟩, by omega⟩
theorem Pg.lSend (h : Pg Z w P x g es U N c) (hL : N + 20 ≤ 2097152 ∧ U.length + 1 ≤ 131072) {r q : Nat} (hr : r < g.n) (hq : q < g.n) :
    Calls Tryz.prog 96 #[.pointer (some ⟨P, 0, none⟩), .int .i64 r, .int .i64 q] w (ActQ Z P x g es U N) := by
  obtain ⟨D, ⟨L, hp⟩, ht⟩ := h.pm
  have hrc : r < c.reps.length := by rw [h.len]; exact hr
  refine (hp.lSend h.ok ⟨by omega, by omega⟩ h.inv ht h.ed.1 h.ed.2 h.nr hr hq).mono fun e w' ⟨h1, h2⟩ => ?_
  exact ⟨h1, _, U, ⟨⟨D, ⟨L, h2⟩, ht.same (len_send _ _ _) (send_down c r q hrc)⟩, (h.ok.send r q).later (by omega), (h.inv.send h.ok r q).1, far_send h.far r q, fun i j => by rw [near_send]; exact h.nr i j, h.ed⟩, by omega⟩
theorem act_more {w : World} {b : Nat} {k r q n ty sd on : Int} {ky el key : ByteArray} (h : w.heap[b]? = some (actB k r q n ty ky sd el on key)) : w.cell? ⟨b, 0, none⟩ = some (.int .i64 k) ∧ w.cell? ⟨b, 1, none⟩ = some (.int .i64 r) ∧ w.cell? ⟨b, 2, none⟩ = some (.int .i64 q) ∧ w.cell? ⟨b, 3, none⟩ = some (.int .i64 n) ∧ w.cell? ⟨b, 4, none⟩ = some (.int .i64 ty) ∧ w.cell? ⟨b, 5, none⟩ = some (.string ky) ∧ w.cell? ⟨b, 6, none⟩ = some (.int .i64 sd) ∧ w.cell? ⟨b, 7, none⟩ = some (.string el) ∧ w.cell? ⟨b, 8, none⟩ = some (.int .i64 on) ∧ w.cell? ⟨b, 9, none⟩ = some (.string key) :=
  ⟨(blk_cell h 0).trans rfl, (blk_cell h 1).trans rfl, (blk_cell h 2).trans rfl, (blk_cell h 3).trans rfl, (blk_cell h 4).trans rfl, (blk_cell h 5).trans rfl, (blk_cell h 6).trans rfl, (blk_cell h 7).trans rfl, (blk_cell h 8).trans rfl, (blk_cell h 9).trans rfl⟩
set_option maxRecDepth 100000 in
set_option maxHeartbeats 4000000 in
theorem Pg.lAct (h : Pg Z w P x g es U N c) (hL : N + 20 ≤ 2097152 ∧ U.length + 1 ≤ 131072) (k r q n ty : Int) (ky : ByteArray) (sd : Int) (el : ByteArray) (on : Int) (key : ByteArray) (hfit : (⟨k, r, q, n, ⟨ty, ky, sd, el, on⟩, key⟩ : ActV).fit) :
    Calls Tryz.prog 42 #[.pointer (some ⟨P, 0, none⟩), .agg #[.int .i64 k, .int .i64 r, .int .i64 q, .int .i64 n, .int .i64 ty, .string ky, .int .i64 sd, .string el, .int .i64 on, .string key]] w (ActQ Z P x g es U N) := by
  have HB0 := Hid.mk (below_alloc (Below.refl _ w) (actB k r q n ty ky sd el on key))
  obtain ⟨Z1, hg1, back⟩ := h.rebase HB0.out
  have HG1 := Hid.mk hg1
  have HBK := Hid.mk back
  have HA0 := Hid.mk (heap_alloc_new w (actB k r q n ty ky sd el on key))
  have hn6 : g.n ≤ 6 := by rw [← h.len]; exact h.ok.n6
  have hn1 : 1 ≤ g.n := by rw [← h.len]; exact h.ok.n1
  have HPR := Hid.mk (fun W' => pick_any r g.n W' hfit.rng.r.1 hfit.rng.r.2 (by omega) (by omega))
  have HPQ := Hid.mk (fun W' => pick_any q g.n W' hfit.rng.q.1 hfit.rng.q.2 (by omega) (by omega))
  have HOP := Hid.mk (fun W' => opOf_any ⟨ty, ky, sd, el, on⟩ W' hfit.op hfit.rng.ty hfit.rng.sd hfit.rng.on)
  have c1 := hg1.cells.2
  obtain ⟨a0, a1, a2, a3, a4, a5, a6, a7, a8, a9⟩ := act_more HA0.out
  have hltP : P < w.heap.size := h.ltP
  unfold OpV.val at HOP
  simp only at HOP
  clear h hg1 back
  unfold actB at *
  go_enter Tryz.func42, Tryz.ntmps42
  go_wp2_with fail
  go_cut [5] from 11 (fun t wc => ∃ i : Nat, t = .int .i64 i ∧ i < g.n ∧ Hid (Pg Z1 wc P x g es U N c))
  case first =>
    go_region_law (first | (go_simp; go_at_call 43; refine (HPR.out _).mono ?_; rintro e w2 ⟨rr, rfl, hrr, rfl⟩; obtain ⟨ri, hri⟩ : ∃ ri : Nat, rr = ri := ⟨rr.toNat, by omega⟩; subst hri) | fail)
    all_goals clear HPR HPQ HOP HBK HA0 HB0
    all_goals go_wp2
    all_goals go_meet
    all_goals (case rel => exact ⟨_, rfl, by omega, by first | exact HG1.out | exact HG1.out.same (Below.refl _ _).drew⟩)
  case rest =>
    obtain ⟨i, rfl, hi, hgA⟩ := hcut
    obtain ⟨wA, hwA⟩ : ∃ wA, wA = wc := ⟨_, rfl⟩
    subst hwA
    have HKEEP : Hid (∀ W c' U' N', Pg Z1 W P x g es U' N' c' → W.heap[w.heap.size]? = some (actB k r q n ty ky sd el on key)) := fun W c' U' N' hW => ((HBK.out _ _ _ _ hW).2 _ (Nat.le_refl _) (blk_lt HA0.out)).trans HA0.out
    clear a0 a1 a2 a3 a4 a5 a6 a7 a8 a9 c1 HG1
    obtain ⟨a0, a1, a2, a3, a4, a5, a6, a7, a8, a9⟩ := act_more (HKEEP.out _ _ _ _ hgA.out)
    have hwl : w.heap.size < wA.heap.size := blk_lt (HKEEP.out _ _ _ _ hgA.out)
    go_wp2_with fail
    refine (HOP.out _).mono ?_
    rintro e w2 ⟨⟨oty, oky, osd, oel, oon⟩, rfl, hfine, hb2⟩
    have hbo : Below wA.heap.size wA (w2.alloc (.cells #[.int .i64 oty, .string oky, .int .i64 osd, .string oel, .int .i64 oon] 31)) := below_alloc hb2 _
    obtain ⟨Z2, hg2, back2⟩ := hgA.out.rebase hbo
    have HG2 := Hid.mk hg2
    have HFIN : Hid (∀ e W, ActQ Z2 P x g es U N e W → ActQ Z P x g es U N e W) := fun e W ⟨h1, c', U', h2, h3⟩ => ⟨h1, c', U', (HBK.out _ _ _ _ (back2 _ _ _ _ h2).1).1, h3⟩
    have HKP2 : Hid (∀ W c' U' N', Pg Z2 W P x g es U' N' c' → W.heap[w.heap.size]? = some (actB k r q n ty ky sd el on key)) := fun W c' U' N' hW => HKEEP.out _ _ _ _ (back2 _ _ _ _ hW).1
    have HFN := Hid.mk hfine
    have HOB := Hid.mk (heap_alloc_new w2 (.cells #[.int .i64 oty, .string oky, .int .i64 osd, .string oel, .int .i64 oon] 31))
    clear a0 a1 a2 a3 a4 a5 a6 a7 a8 a9 hgA HOP hbo hg2 back2 hfine HKEEP HBK
    obtain ⟨a0, a1, a2, a3, a4, a5, a6, a7, a8, a9⟩ := act_more (HKP2.out _ _ _ _ HG2.out)
    have o0 := blk_cell HOB.out 0
    have o1 := blk_cell HOB.out 1
    have o2 := blk_cell HOB.out 2
    have o3 := blk_cell HOB.out 3
    have o4 := blk_cell HOB.out 4
    simp at o0 o1 o2 o3 o4
    have c0 := HG2.out.cells.1
    have c1 := HG2.out.cells.2
    have hlw : w.heap.size < w2.heap.size := Nat.lt_of_lt_of_le hwl hb2.size
    have hlP : P < w2.heap.size := Nat.lt_trans hltP hlw
    by_cases k1 : k = 1
    · subst k1
      have HU := Hid.mk (fun W (hW : Pg Z2 W P x g es U N c) => hW.lUpdate hL hi ⟨oty, oky, osd, oel, oon⟩ HFN.out)
      unfold OpV.val at HU
      simp only at HU
      go_wp2_with fail
      refine (HU.out _ HG2.out).mono ?_
      rintro e w3 hq
      have HQ := Hid.mk (HFIN.out _ _ hq)
      obtain ⟨rfl, -⟩ := hq
      clear HFN HFIN HKP2 HG2 HPR HPQ HOB
      go_wp2
      go_ret
      exact HQ.out
    by_cases k2 : k = 2
    · subst k2
      have HU := Hid.mk (fun W (hW : Pg Z2 W P x g es U N c) => hW.lTorn hL hi ⟨oty, oky, osd, oel, oon⟩ HFN.out n)
      unfold OpV.val at HU
      simp only at HU
      go_wp2_with fail
      refine (HU.out _ (by first | exact HG2.out | exact HG2.out.same (Below.refl _ _).drew)).mono ?_
      rintro e w3 hq
      have HQ := Hid.mk (HFIN.out _ _ hq)
      obtain ⟨rfl, -⟩ := hq
      clear HFN HFIN HKP2 HG2 HPR HPQ HOB
      go_wp2
      go_ret
      exact HQ.out
    by_cases k4 : k = 4
    · subst k4
      have HU := Hid.mk (fun W (hW : Pg Z2 W P x g es U N c) => hW.lStart hL hi)
      go_wp2_with fail
      refine (HU.out _ HG2.out).mono ?_
      rintro e w3 hq
      have HQ := Hid.mk (HFIN.out _ _ hq)
      obtain ⟨rfl, -⟩ := hq
      clear HFN HFIN HKP2 HG2 HPR HPQ HOB
      go_wp2
      go_ret
      exact HQ.out
    by_cases k7 : k = 7
    · subst k7
      have HU := Hid.mk (fun W (hW : Pg Z2 W P x g es U N c) => hW.lNet7 ⟨hL.1, by omega⟩ r q n ty ky sd el on key hfit.n0 hfit.n1)
      go_wp2_with fail
      refine (HU.out _ HG2.out).mono ?_
      rintro e w3 ⟨rfl, c3, h3⟩
      have HQ := Hid.mk (HFIN.out _ _ ⟨rfl, c3, U, h3, by omega⟩)
      clear HFN HFIN HKP2 HG2 HPR HPQ HOB h3
      go_wp2
      go_ret
      exact HQ.out
    by_cases k8 : k = 8
    · subst k8
      have HU := Hid.mk (fun W (hW : Pg Z2 W P x g es U N c) => hW.lNet8 ⟨hL.1, by omega⟩ r q n ty ky sd el on key hfit.n0 hfit.n1)
      go_wp2_with fail
      refine (HU.out _ HG2.out).mono ?_
      rintro e w3 ⟨rfl, c3, h3⟩
      have HQ := Hid.mk (HFIN.out _ _ ⟨rfl, c3, U, h3, by omega⟩)
      clear HFN HFIN HKP2 HG2 HPR HPQ HOB h3
      go_wp2
      go_ret
      exact HQ.out
    by_cases k9 : k = 9
    · subst k9
      have HU := Hid.mk (fun W (hW : Pg Z2 W P x g es U N c) => hW.lNet9 ⟨hL.1, by omega⟩ r q n ty ky sd el on key hfit.n0 hfit.n1)
      go_wp2_with fail
      refine (HU.out _ HG2.out).mono ?_
      rintro e w3 ⟨rfl, c3, h3⟩
      have HQ := Hid.mk (HFIN.out _ _ ⟨rfl, c3, U, h3, by omega⟩)
      clear HFN HFIN HKP2 HG2 HPR HPQ HOB h3
      go_wp2
      go_ret
      exact HQ.out
    by_cases k10 : k = 10
    · subst k10
      have HU := Hid.mk (fun W (hW : Pg Z2 W P x g es U N c) => hW.lNet10 ⟨hL.1, by omega⟩ r q n ty ky sd el on key hfit.n0 hfit.n1)
      go_wp2_with fail
      refine (HU.out _ HG2.out).mono ?_
      rintro e w3 ⟨rfl, c3, h3⟩
      have HQ := Hid.mk (HFIN.out _ _ ⟨rfl, c3, U, h3, by omega⟩)
      clear HFN HFIN HKP2 HG2 HPR HPQ HOB h3
      go_wp2
      go_ret
      exact HQ.out
    have HLL : Hid (Lim U N) := ⟨by omega, by omega⟩
    by_cases k3 : k = 3
    · subst k3
      obtain ⟨D, ⟨L, hp⟩, ht⟩ := HG2.out.pm
      have hic : i < c.reps.length := by rw [HG2.out.len]; exact hi
      have hti := ht i hic
      obtain ⟨y1, y2, y3⟩ := crash_keep hic
      have HCR := Hid.mk (hp.pCrash HG2.out.ok HLL.out HG2.out.inv i)
      rw [works_rep hic] at HCR
      have HMK : Hid (∀ W L', Pm Z2 W P x g (c.crash i) (D.set i true) L' → ActQ Z P x g es U N (.returned (.bool true)) W) := fun W L' hW => HFIN.out _ _ ⟨rfl, _, U, ⟨⟨_, ⟨L', hW⟩, ht.set (len_crash _ _) (by rw [hp.lenD]; exact hi) y2 y3⟩, (HG2.out.ok.crash i).later (by omega), (HG2.out.inv.crash HG2.out.ok i).1, far_of HG2.out.far y1 (len_crash _ _), fun a b => by rw [y1]; exact HG2.out.nr a b, HG2.out.ed⟩, by omega⟩
      have p1 : (0 : Int) ≤ (i : Int) := by omega
      have p2 : (i : Int) < (g.n : Int) := by omega
      clear HFN HFIN HKP2 HG2 HPR HPQ HOB hp ht y1 y2 y3
      generalize (c.rep i).down = dn at *
      generalize c.crash i = cc at *
      go_wp2_with fail
      refine HCR.out.mono ?_
      rintro e w3 ⟨rfl, h3⟩
      obtain ⟨dB, dcap, k6, d0, df, hset⟩ := h3.downC hi
      rw [hti] at d0
      have HQ := Hid.mk (HMK.out _ _ (hset true))
      clear h3 hset HCR HMK hti
      cases dn
      all_goals simp only [Bool.false_eq_true, if_false, if_true]
      all_goals go_wp2
      all_goals go_ret
      all_goals exact HQ.out
    by_cases k5 : k = 5
    · subst k5
      obtain ⟨D, ⟨L, hp⟩, ht⟩ := HG2.out.pm
      have hic : i < c.reps.length := by rw [HG2.out.len]; exact hi
      have hti := ht i hic
      obtain ⟨y1, y2⟩ := compact_keep hic
      have hok' := HG2.out.ok.compact (i : Int)
      have hi' := (HG2.out.inv.compact HG2.out.ok (i : Int)).1
      have ht' : Tells (c.compact i) D := ht.same (len_compact _ _) y2
      have HCR := Hid.mk (hp.pCompact HG2.out.ok HLL.out HG2.out.inv i)
      obtain ⟨E, HE⟩ : ∃ E, Hid (c.works (i : Int) = E) := ⟨_, rfl⟩
      rw [HE.out] at HCR
      have HEV : Hid (E = if (c.rep i).down then 8 else 0) := HE.out.symm.trans (works_rep hic)
      clear HE
      have HSS := Hid.mk (fun W (hW : Pm Z2 W P x g (c.compact i) D L) => hW.lState hok' HLL.out hi' ht' hi)
      have HMK : Hid (∀ W L', Pm Z2 W P x g (c.compact i) D L' → ActQ Z P x g es U N (.returned (.bool true)) W) := fun W L' hW => HFIN.out _ _ ⟨rfl, _, U, ⟨⟨_, ⟨L', hW⟩, ht'⟩, hok'.later (by omega), hi', far_of HG2.out.far y1 (len_compact _ _), fun a b => by rw [y1]; exact HG2.out.nr a b, HG2.out.ed⟩, by omega⟩
      have p1 : (0 : Int) ≤ (i : Int) := by omega
      have p2 : (i : Int) < (g.n : Int) := by omega
      clear HFN HFIN HKP2 HG2 HPR HPQ HOB hp ht y1 y2 hok' hi' ht'
      generalize c.compact i = cc at *
      go_wp2_with fail
      refine HCR.out.mono ?_
      rintro e w3 ⟨rfl, h3⟩
      have H3 := Hid.mk (HSS.out _ h3)
      clear h3 HCR HSS
      go_wp2_with fail
      refine H3.out.mono ?_
      rintro e w4 ⟨rfl, h4⟩
      obtain ⟨dB, dcap, k6, d0, -⟩ := h4.downC hi
      rw [hti] at d0
      have HQ := Hid.mk (fun W (hW : Below w4.heap.size w4 W) => HMK.out _ _ (h4.same hW))
      clear h4 H3 HMK hti
      generalize (c.rep i).down = dn at *
      cases dn
      · have he : E = 0 := HEV.out
        subst he
        clear HEV
        go_wp2
        go_ret
        exact HQ.out _ (Below.refl _ _)
      · have he : E = 8 := HEV.out
        subst he
        clear HEV
        go_wp2
        go_ret
        exact HQ.out _ (Below.refl _ _)
    by_cases k6' : k = 6
    · subst k6'
      have HU := Hid.mk (fun W (j : Nat) (hj : j < g.n) (hW : Pg Z2 W P x g es U N c) => hW.lSend hL hi hj)
      go_wp2_with fail
      go_region_law (first | (go_simp; go_at_call 43; refine (HPQ.out _).mono ?_; rintro e w3 ⟨rr, rfl, hrr, rfl⟩; obtain ⟨ri, hri⟩ : ∃ ri : Nat, rr = ri := ⟨rr.toNat, by omega⟩; subst hri) | (go_simp; go_at_call 96; refine (HU.out _ _ (by omega) (by first | exact HG2.out | exact HG2.out.same (Below.refl _ _).drew)).mono ?_; rintro e w4 hq; have HQ := Hid.mk (HFIN.out _ _ hq); obtain ⟨rfl, -⟩ := hq) | fail)
      all_goals clear HFN HFIN HKP2 HG2 HPR HPQ HOB HU
      all_goals go_wp2
      all_goals go_ret
      all_goals exact HQ.out
    have HQ : Hid (∀ W, Below _ _ W → ActQ Z P x g es U N (.returned (.bool true)) W) := fun W hW => HFIN.out _ _ ⟨rfl, c, U, (HG2.out.same hW).later (by omega), by omega⟩
    clear HFN HFIN HKP2 HG2 HPR HPQ HOB
    go_wp2
    go_ret
    exact HQ.out _ (Below.refl _ _)
end
end Go.Proofs.YtahdlejgjcjeoabGreatDoor
