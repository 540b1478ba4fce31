/- Walk of the law Same. -/
import Derived.Test.YtahdlejgjcjeoabGreatDoorS33
namespace Go.Proofs.YtahdlejgjcjeoabGreatDoor
open Go.RowKit
set_option maxRecDepth 100000 in
theorem spoken_some (a : Int) (n : Nat) (hn : n ≤ 200) (w : World) :
    Calls Tryz.prog 81 #[.int .i64 a, .int .i64 n] w fun e w' => ∃ k, e = .returned (.int .i64 k) ∧ w' = w := by
  have hn0 : (0 : Int) ≤ (n : Int) := by omega
  have hn2 : (n : Int) ≤ 200 := by omega
  have hn3 : ¬ (n : Int) + 1 = 0 := by omega
  by_cases h : a < 0
  · go_enter Tryz.func81, Tryz.ntmps81
    go_wp2
    go_ret
    exact ⟨a, rfl, rfl⟩
  · go_enter Tryz.func81, Tryz.ntmps81
    go_wp2
    go_ret
    first | exact ⟨⟨_, rfl⟩, rfl⟩ | exact ⟨_, rfl, rfl⟩
section
variable {Z : Snap} {w w' : World} {x y M N : Nat} {b : Bool} {c0 cx cy : Clu}
theorem Sm.frmIs (h : Sm Z w x y b M N c0 cx cy) (k : Int) : (cy.frmAt k).kind = (cx.frmAt k).kind ∧ (cy.frmAt k).src = (cx.frmAt k).src ∧ (cy.frmAt k).dst = (cx.frmAt k).dst ∧ (cy.frmAt k).upto = (cx.frmAt k).upto ∧ (b = true → Lo (cy.frmAt k).d (cx.frmAt k).d) := by
  obtain ⟨S, s1⟩ := h.s1
  obtain ⟨S', s2⟩ := h.s2
  unfold Clu.frmAt
  rw [s1.has, s2.has]
  cases hh : c0.has k
  · exact ⟨rfl, rfl, rfl, rfl, fun _ => Lo.refl _⟩
  · have hk := (has_lt hh).2
    have f1 := s1.frm hk
    have f2 := s2.frm hk
    simp only [if_true]
    refine ⟨f2.1.trans f1.1.symm, f2.2.1.trans f1.2.1.symm, f2.2.2.1.trans f1.2.2.1.symm, f2.2.2.2.1.trans f1.2.2.2.1.symm, fun e => ?_⟩
    rw [h.bo e]
    exact f2.2.2.2.2
theorem frm_len {c : Clu} {U : List At} (hok : c.ok U N) (hL : Lim U N) (k : Int) : (c.frmAt k).d.length ≤ 4194304 := by
  unfold Clu.frmAt
  cases hh : c.has k
  · simp
  · simp only [if_true]
    have hf := hok.net _ (frm_mem (has_lt hh).2)
    have := length_le_of_sub (sorted_ne hf.told.1.sorted) hf.sub
    have := hL.2
    omega
theorem Sm.xDeliver (h : Sm Z w x y b M N c0 cx cy) (hM : M ≤ 131071) (hN : N ≤ 2097152) (k : Int) :
    Calls Tryz.prog 49 #[.pointer (some ⟨x, 0, none⟩), .int .i64 k] w fun e w' => e = .returned (.int .i64 (cx.netErr k)) ∧ Bi Z w' 2 x (cx.deliver k) 3 y cy := by
  obtain ⟨U, U', k1, l1, k2, l2⟩ := h.lim (by omega) hN
  exact h.bi.cDeliver k1 l1 h.f1 k
theorem Sm.yDeliver (h : Sm Z w x y b M N c0 cx cy) (hM : M ≤ 131071) (hN : N ≤ 2097152) (k : Int) {w1 : World} {cx' : Clu} (hb : Bi Z w1 2 x cx' 3 y cy) :
    Calls Tryz.prog 49 #[.pointer (some ⟨y, 0, none⟩), .int .i64 k] w1 fun e w' => e = .returned (.int .i64 (cx.netErr k)) ∧ Bi Z w' 2 x cx' 3 y (cy.deliver k) := by
  obtain ⟨U, U', k1, l1, k2, l2⟩ := h.lim (by omega) hN
  rw [← h.netErr]
  exact hb.dDeliver k2 l2 h.f2 k
theorem Sm.xDrop (h : Sm Z w x y b M N c0 cx cy) (hM : M ≤ 131071) (hN : N ≤ 2097152) (k : Int) :
    Calls Tryz.prog 13 #[.pointer (some ⟨x, 0, none⟩), .int .i64 k] w fun e w' => e = .returned (.int .i64 (cx.netErr k)) ∧ Bi Z w' 2 x (cx.dropF k) 3 y cy := by
  obtain ⟨U, U', k1, l1, k2, l2⟩ := h.lim (by omega) hN
  exact h.bi.cDrop k1 l1 k
theorem Sm.yDrop (h : Sm Z w x y b M N c0 cx cy) (hM : M ≤ 131071) (hN : N ≤ 2097152) (k : Int) {w1 : World} {cx' : Clu} (hb : Bi Z w1 2 x cx' 3 y cy) :
    Calls Tryz.prog 13 #[.pointer (some ⟨y, 0, none⟩), .int .i64 k] w1 fun e w' => e = .returned (.int .i64 (cx.netErr k)) ∧ Bi Z w' 2 x cx' 3 y (cy.dropF k) := by
  obtain ⟨U, U', k1, l1, k2, l2⟩ := h.lim (by omega) hN
  rw [← h.netErr]
  exact hb.dDrop k2 l2 k
theorem Sm.xCopy (h : Sm Z w x y b M N c0 cx cy) (hM : M ≤ 131071) (hN : N ≤ 2097152) (k : Int) :
    Calls Tryz.prog 84 #[.pointer (some ⟨x, 0, none⟩), .int .i64 k] w fun e w' => e = .returned (.int .i64 (cx.netErr k)) ∧ Bi Z w' 2 x (cx.copyF k) 3 y cy := by
  obtain ⟨U, U', k1, l1, k2, l2⟩ := h.lim (by omega) hN
  exact h.bi.cCopy k1 l1 k
theorem Sm.yCopy (h : Sm Z w x y b M N c0 cx cy) (hM : M ≤ 131071) (hN : N ≤ 2097152) (k : Int) {w1 : World} {cx' : Clu} (hb : Bi Z w1 2 x cx' 3 y cy) :
    Calls Tryz.prog 84 #[.pointer (some ⟨y, 0, none⟩), .int .i64 k] w1 fun e w' => e = .returned (.int .i64 (cx.netErr k)) ∧ Bi Z w' 2 x cx' 3 y (cy.copyF k) := by
  obtain ⟨U, U', k1, l1, k2, l2⟩ := h.lim (by omega) hN
  rw [← h.netErr]
  exact hb.dCopy k2 l2 k
set_option maxRecDepth 100000 in
set_option maxHeartbeats 8000000 in
theorem Sm.lNetF (h : Sm Z w x y false M N c0 cx cy) (hM : M ≤ 131071) (hN : N + 20 ≤ 2097152) (k r q n ty : Int) (ky : ByteArray) (sd : Int) (el : ByteArray) (on : Int) (key : ByteArray) (hn0 : -9223372036854775808 ≤ n) (hn1 : n ≤ 9223372036854775807) :
    Calls Tryz.prog 57 #[.pointer (some ⟨x, 0, none⟩), .pointer (some ⟨y, 0, none⟩), .agg #[.int .i64 k, .int .i64 r, .int .i64 q, .int .i64 n, .int .i64 ty, .string ky, .int .i64 sd, .string el, .int .i64 on, .string key], .bool false] w (SmQ Z x y false M N) := by
  obtain ⟨U, U', k1, l1, k2, l2⟩ := h.lim (by omega) (by omega)
  obtain ⟨Z1, hg, back⟩ := h.act (k := k) (r := r) (q := q) (n := n) (ty := ty) (ky := ky) (sd := sd) (el := el) (on := on) (key := key)
  have hnl : cx.net.length ≤ 200 := k1.netL
  have HNL := Hid.mk h.netL
  have HPK := Hid.mk (fun W' => pick_any n 20 W' hn0 hn1 (by decide) (by decide))
  have HKP : Hid (∀ W c' d', Bi Z1 W 2 x c' 3 y d' → W.heap[w.heap.size]? = some (actB k r q n ty ky sd el on key)) := fun W c' d' hW => (back W c' d' hW).2
  have HBK : Hid (∀ W M' N' c0' cx' cy', Sm Z1 W x y false M' N' c0' cx' cy' → Sm Z W x y false M' N' c0' cx' cy') := fun W M' N' c0' cx' cy' hW => { hW with bi := (back W _ _ hW.bi).1 }
  have H0 : Hid (Sm Z1 (w.alloc (.cells #[.int .i64 k, .int .i64 r, .int .i64 q, .int .i64 n, .int .i64 ty, .string ky, .int .i64 sd, .string el, .int .i64 on, .string key] 33)) x y false M N c0 cx cy) := hg
  have HFX : Hid (∀ W kk, Sm Z1 W x y false M N c0 cx cy → Calls Tryz.prog 91 #[.pointer (some ⟨x, 0, none⟩), .int .i64 kk] W fun e w' => ∃ (f0 f1 f2 f3 E : Int) (l : List At) (ad : Option Addr) (cp : Nat), e = .returned (.tuple #[.agg #[.int .i64 f0, .int .i64 f1, .int .i64 f2, .int .i64 f3, .slice ad l.length cp], .int .i64 E]) ∧ Hid (f0 = (cx.frmAt kk).kind ∧ f1 = (cx.frmAt kk).src ∧ f2 = (cx.frmAt kk).dst ∧ f3 = (cx.frmAt kk).upto ∧ E = cx.netErr kk ∧ l = (cx.frmAt kk).d ∧ l.length ≤ 4194304) ∧ Hid (SliceOf w' (.slice ad l.length cp) l) ∧ Below W.heap.size W w') := fun W kk hW => (hW.bi.cFrame k1 l1 kk).mono fun e w' ⟨ad, cp, h1, h2, h3⟩ => ⟨_, _, _, _, _, _, ad, cp, h1, ⟨rfl, rfl, rfl, rfl, rfl, rfl, frm_len k1 l1 kk⟩, h2, h3⟩
  have HFY : Hid (∀ W kk f0 f1 f2 f3 E l, Sm Z1 W x y false M N c0 cx cy → (f0 = ((cx.frmAt kk).kind : Int) ∧ f1 = ((cx.frmAt kk).src : Int) ∧ f2 = ((cx.frmAt kk).dst : Int) ∧ f3 = ((cx.frmAt kk).upto : Int) ∧ E = cx.netErr kk ∧ l = (cx.frmAt kk).d ∧ l.length ≤ 4194304) → Calls Tryz.prog 91 #[.pointer (some ⟨y, 0, none⟩), .int .i64 kk] W fun e w' => ∃ (l' : List At) (ad : Option Addr) (cp : Nat), e = .returned (.tuple #[.agg #[.int .i64 f0, .int .i64 f1, .int .i64 f2, .int .i64 f3, .slice ad l'.length cp], .int .i64 E]) ∧ Hid ((false = true → Lo l' l) ∧ l'.length ≤ 4194304) ∧ Hid (SliceOf w' (.slice ad l'.length cp) l') ∧ Below W.heap.size W w') := fun W kk f0 f1 f2 f3 E l hW ⟨e0, e1, e2, e3, e4, e5, _⟩ => by
    obtain ⟨i0, i1, i2, i3, i4⟩ := hW.frmIs kk
    refine (hW.bi.swap.cFrame k2 l2 kk).mono fun e w' ⟨ad, cp, h1, h2, h3⟩ => ⟨_, ad, cp, ?_, ⟨by rw [e5]; exact i4, frm_len k2 l2 kk⟩, h2, h3⟩
    rw [h1, i0, i1, i2, i3, hW.netErr, e0, e1, e2, e3, e4]
  clear h hg back k1 l1 k2 l2
  go_enter Tryz.func57, Tryz.ntmps57
  go_wp2_with fail
  refine H0.out.bi.cFlight.mono ?_
  rintro e w1 ⟨rfl, hb1⟩
  have H1 := Hid.mk (H0.out.same hb1)
  have HF2 := Hid.mk (H0.out.same hb1).bi.swap.cFlight
  rw [HNL.out] at HF2
  clear H0 hb1
  go_wp2_with fail
  refine HF2.out.mono ?_
  rintro e w2 ⟨rfl, hb2⟩
  have H2 := Hid.mk (H1.out.same hb2)
  obtain ⟨a1, a2, a3, a4, a5, a6, a7, a8, a9⟩ := act_all (HKP.out _ _ _ H2.out.bi)
  clear H1 HF2 hb2 a1 a2 a4 a5 a6 a7 a8 a9
  generalize hL0 : cx.net.length = L0 at *
  go_wp2_with fail
  refine (spoken_some n L0 hnl _).mono ?_
  rintro e w3 ⟨kk, rfl, hw3⟩
  subst hw3
  go_wp2_with fail
  refine (HFX.out _ kk H2.out).mono ?_
  rintro e w4 ⟨f0, f1, f2, f3, E, l, ad1, cp1, rfl, hI, hS1, hb4⟩
  have H4 := Hid.mk (H2.out.same hb4)
  clear H2 hb4 a3 HFX
  go_wp2_with fail
  refine (HFY.out _ kk f0 f1 f2 f3 E l (H4.out.same (below_alloc (Below.refl _ _) _)) hI.out).mono ?_
  have HP := Hid.mk (heap_alloc_new w4 (.cells #[.int .i64 f0, .int .i64 f1, .int .i64 f2, .int .i64 f3, .slice ad1 l.length cp1] 110))
  rintro e w5 ⟨l', ad2, cp2, rfl, hLo, hS2, hb5⟩
  have HB45 : Hid (Below w4.heap.size w4 w5) := (below_alloc (Below.refl _ _) _).trans (hb5.mono (by simp))
  have H5 := Hid.mk (H4.out.same HB45.out)
  have p0 : w5.cell? ⟨w4.heap.size, 0, none⟩ = some (.int .i64 f0) := cell_kept ((blk_cell HP.out 0).trans rfl) hb5
  have p1 : w5.cell? ⟨w4.heap.size, 1, none⟩ = some (.int .i64 f1) := cell_kept ((blk_cell HP.out 1).trans rfl) hb5
  have p2 : w5.cell? ⟨w4.heap.size, 2, none⟩ = some (.int .i64 f2) := cell_kept ((blk_cell HP.out 2).trans rfl) hb5
  have p3 : w5.cell? ⟨w4.heap.size, 3, none⟩ = some (.int .i64 f3) := cell_kept ((blk_cell HP.out 3).trans rfl) hb5
  have p4 : w5.cell? ⟨w4.heap.size, 4, none⟩ = some (.slice ad1 l.length cp1) := cell_kept ((blk_cell HP.out 4).trans rfl) hb5
  have hl5 : w4.heap.size < w5.heap.size := Nat.lt_of_lt_of_le (blk_lt HP.out) hb5.size
  have HS1 := Hid.mk (hS1.out.below HB45.out)
  have HS2 := Hid.mk hS2.out
  have HLE := Hid.mk hI.out.2.2.2.2.2.2
  clear hS1 hS2 hb5 HP HB45 H4 HFY
  have hblk := HKP.out _ _ _ H5.out.bi
  have a0 : w5.cell? ⟨w.heap.size, 0, none⟩ = some (.int .i64 k) := (blk_cell hblk 0).trans rfl
  have a3 := (act_all hblk).2.2.1
  have hlw : w.heap.size < w5.heap.size := blk_lt hblk
  clear hblk hI
  have H6 := Hid.mk (H5.out.same (below_alloc (Below.refl _ _) (.cells #[.int .i64 f0, .int .i64 f1, .int .i64 f2, .int .i64 f3, .slice ad2 l'.length cp2] 110)))
  clear H5 HS1 HS2 HLE hLo
  by_cases hk7 : k = 7
  · subst hk7
    have HX := Hid.mk (H6.out.xDeliver hM (by omega) kk)
    have HY := Hid.mk (fun W cx' (hW : Bi Z1 W 2 x cx' 3 y cy) => H6.out.yDeliver hM (by omega) kk hW)
    have HFIN : Hid (∀ W, Bi Z1 W 2 x (cx.deliver kk) 3 y (cy.deliver kk) → SmQ Z x y false M N (.returned (.bool true)) W) := fun W hW => (HBK.out _ _ _ _ _ _ (H6.out.deliver kk hW)).done rfl
    generalize cx.netErr kk = E2 at *
    clear HKP HBK HPK
    go_wp2_with fail
    refine HX.out.mono ?_
    rintro e w7 ⟨rfl, h7⟩
    have HB7 := Hid.mk h7
    clear HX h7 H6 p0 p1 p2 p3 p4 a0 a3
    go_wp2_with fail
    refine (HY.out _ _ HB7.out).mono ?_
    rintro e w8 ⟨rfl, h8⟩
    have HF := Hid.mk (HFIN.out _ h8)
    clear HY h8 HB7 HFIN
    go_wp2
    go_ret
    simp
    exact HF.out
  by_cases hk8 : k = 8
  · subst hk8
    have HX := Hid.mk (H6.out.xDrop hM (by omega) kk)
    have HY := Hid.mk (fun W cx' (hW : Bi Z1 W 2 x cx' 3 y cy) => H6.out.yDrop hM (by omega) kk hW)
    have HFIN : Hid (∀ W, Bi Z1 W 2 x (cx.dropF kk) 3 y (cy.dropF kk) → SmQ Z x y false M N (.returned (.bool true)) W) := fun W hW => (HBK.out _ _ _ _ _ _ (H6.out.dropF kk hW)).done rfl
    generalize cx.netErr kk = E2 at *
    clear HKP HBK HPK
    go_wp2_with fail
    refine HX.out.mono ?_
    rintro e w7 ⟨rfl, h7⟩
    have HB7 := Hid.mk h7
    clear HX h7 H6 p0 p1 p2 p3 p4 a0 a3
    go_wp2_with fail
    refine (HY.out _ _ HB7.out).mono ?_
    rintro e w8 ⟨rfl, h8⟩
    have HF := Hid.mk (HFIN.out _ h8)
    clear HY h8 HB7 HFIN
    go_wp2
    go_ret
    simp
    exact HF.out
  by_cases hk9 : k = 9
  · subst hk9
    have HX := Hid.mk (H6.out.xCopy hM (by omega) kk)
    have HY := Hid.mk (fun W cx' (hW : Bi Z1 W 2 x cx' 3 y cy) => H6.out.yCopy hM (by omega) kk hW)
    have HFIN : Hid (∀ W, Bi Z1 W 2 x (cx.copyF kk) 3 y (cy.copyF kk) → SmQ Z x y false M N (.returned (.bool true)) W) := fun W hW => (HBK.out _ _ _ _ _ _ (H6.out.copyF kk hW)).done rfl
    generalize cx.netErr kk = E2 at *
    clear HKP HBK HPK
    go_wp2_with fail
    refine HX.out.mono ?_
    rintro e w7 ⟨rfl, h7⟩
    have HB7 := Hid.mk h7
    clear HX h7 H6 p0 p1 p2 p3 p4 a0 a3
    go_wp2_with fail
    refine (HY.out _ _ HB7.out).mono ?_
    rintro e w8 ⟨rfl, h8⟩
    have HF := Hid.mk (HFIN.out _ h8)
    clear HY h8 HB7 HFIN
    go_wp2
    go_ret
    simp
    exact HF.out
  by_cases hk10 : k = 10
  · subst hk10
    subst hL0
    go_wp2
    clear p0 p1 p2 p3 p4 a0 a3
    go_loopw [9, 17, 18, 19] (fun s9 s17 s18 s19 wr => ∃ (i : Nat) (E : Int) (c0' cx' cy' : Clu), i ≤ 20 ∧ s9 = .int .i64 cx'.net.length ∧ s17 = .int .i64 E ∧ s18 = .int .i64 E ∧ s19 = .int .i64 i ∧ Hid (Sm Z1 wr x y false M (N + i) c0' cx' cy')) (fun _ _ _ s19 _ => 20 - (intOf s19).toNat)
    case atStart => exact ⟨0, 0, c0, cx, cy, by omega, rfl, rfl, rfl, rfl, H6⟩
    case round =>
      clear H6
      obtain ⟨i, E2, c0', cx', cy', hi, rfl, rfl, rfl, rfl, hs⟩ := hrel
      have hblk := HKP.out _ _ _ hs.out.bi
      have a3 := (act_all hblk).2.2.1
      have HEND := Hid.mk ((HBK.out _ _ _ _ _ _ hs.out).done (M := M) (N := N) (e := .returned (.bool true)) rfl)
      clear hblk
      go_wp2_with fail
      refine (HPK.out _).mono ?_
      rintro e w7 ⟨rr, rfl, hrr, hw7⟩
      subst hw7
      obtain ⟨q1, q2⟩ := hrr
      by_cases hir : (i : Int) ≤ rr
      · by_cases hpos : 0 < cx'.net.length
        · have q3 : (0 : Int) < (cx'.net.length : Int) := by omega
          have HX := Hid.mk (hs.out.xDeliver hM (by omega) 0)
          have HY := Hid.mk (fun W cx2 (hW : Bi Z1 W 2 x cx2 3 y cy') => hs.out.yDeliver hM (by omega) 0 hW)
          have HNX : Hid (∀ W, Bi Z1 W 2 x (cx'.deliver 0) 3 y (cy'.deliver 0) → Sm Z1 W x y false M (N + (i + 1)) (c0'.deliver 0) (cx'.deliver 0) (cy'.deliver 0)) := fun W hW => hs.out.deliver 0 hW
          generalize cx'.netErr 0 = E3 at *
          clear HEND a3 hs
          go_wp2_with fail
          refine HX.out.mono ?_
          rintro e w8 ⟨rfl, h8⟩
          have HB8 := Hid.mk h8
          clear HX h8
          go_wp2_with fail
          refine (HY.out _ _ HB8.out).mono ?_
          rintro e w9 ⟨rfl, h9⟩
          have HS9 := Hid.mk (HNX.out _ h9)
          clear HY h9 HB8 HNX
          go_wp2_with fail
          refine HS9.out.bi.cFlight.mono ?_
          rintro e w10 ⟨rfl, hb10⟩
          have HS10 := Hid.mk (HS9.out.same hb10)
          clear HS9 hb10
          go_wp2
          exact ⟨⟨i + 1, E3, _, _, _, by omega, rfl, rfl, rfl, by go_num, HS10⟩, by simp [intOf]; omega⟩
        · have hz : cx'.net.length = 0 := by omega
          rw [hz]
          clear a3 hs
          go_wp2
          go_ret
          simp
          exact HEND.out
      · clear a3 hs
        go_wp2
        go_ret
        simp
        exact HEND.out
  have HF := Hid.mk ((HBK.out _ _ _ _ _ _ H6.out).still (e := .returned (.bool true)) rfl)
  clear H6 HKP HBK HPK
  go_wp2
  go_ret
  exact HF.out
set_option maxRecDepth 100000 in
set_option maxHeartbeats 8000000 in
theorem Sm.lNetT (h : Sm Z w x y true M N c0 cx cy) (hM : M ≤ 131071) (hN : N + 20 ≤ 2097152) (k r q n ty : Int) (ky : ByteArray) (sd : Int) (el : ByteArray) (on : Int) (key : ByteArray) (hn0 : -9223372036854775808 ≤ n) (hn1 : n ≤ 9223372036854775807) :
    Calls Tryz.prog 57 #[.pointer (some ⟨x, 0, none⟩), .pointer (some ⟨y, 0, none⟩), .agg #[.int .i64 k, .int .i64 r, .int .i64 q, .int .i64 n, .int .i64 ty, .string ky, .int .i64 sd, .string el, .int .i64 on, .string key], .bool true] w (SmQ Z x y true M N) := by
  obtain ⟨U, U', k1, l1, k2, l2⟩ := h.lim (by omega) (by omega)
  obtain ⟨Z1, hg, back⟩ := h.act (k := k) (r := r) (q := q) (n := n) (ty := ty) (ky := ky) (sd := sd) (el := el) (on := on) (key := key)
  have hnl : cx.net.length ≤ 200 := k1.netL
  have HNL := Hid.mk h.netL
  have HPK := Hid.mk (fun W' => pick_any n 20 W' hn0 hn1 (by decide) (by decide))
  have HKP : Hid (∀ W c' d', Bi Z1 W 2 x c' 3 y d' → W.heap[w.heap.size]? = some (actB k r q n ty ky sd el on key)) := fun W c' d' hW => (back W c' d' hW).2
  have HBK : Hid (∀ W M' N' c0' cx' cy', Sm Z1 W x y true M' N' c0' cx' cy' → Sm Z W x y true M' N' c0' cx' cy') := fun W M' N' c0' cx' cy' hW => { hW with bi := (back W _ _ hW.bi).1 }
  have H0 : Hid (Sm Z1 (w.alloc (.cells #[.int .i64 k, .int .i64 r, .int .i64 q, .int .i64 n, .int .i64 ty, .string ky, .int .i64 sd, .string el, .int .i64 on, .string key] 33)) x y true M N c0 cx cy) := hg
  have HFX : Hid (∀ W kk, Sm Z1 W x y true M N c0 cx cy → Calls Tryz.prog 91 #[.pointer (some ⟨x, 0, none⟩), .int .i64 kk] W fun e w' => ∃ (f0 f1 f2 f3 E : Int) (l : List At) (ad : Option Addr) (cp : Nat), e = .returned (.tuple #[.agg #[.int .i64 f0, .int .i64 f1, .int .i64 f2, .int .i64 f3, .slice ad l.length cp], .int .i64 E]) ∧ Hid (f0 = (cx.frmAt kk).kind ∧ f1 = (cx.frmAt kk).src ∧ f2 = (cx.frmAt kk).dst ∧ f3 = (cx.frmAt kk).upto ∧ E = cx.netErr kk ∧ l = (cx.frmAt kk).d ∧ l.length ≤ 4194304) ∧ Hid (SliceOf w' (.slice ad l.length cp) l) ∧ Below W.heap.size W w') := fun W kk hW => (hW.bi.cFrame k1 l1 kk).mono fun e w' ⟨ad, cp, h1, h2, h3⟩ => ⟨_, _, _, _, _, _, ad, cp, h1, ⟨rfl, rfl, rfl, rfl, rfl, rfl, frm_len k1 l1 kk⟩, h2, h3⟩
  have HFY : Hid (∀ W kk f0 f1 f2 f3 E l, Sm Z1 W x y true M N c0 cx cy → (f0 = ((cx.frmAt kk).kind : Int) ∧ f1 = ((cx.frmAt kk).src : Int) ∧ f2 = ((cx.frmAt kk).dst : Int) ∧ f3 = ((cx.frmAt kk).upto : Int) ∧ E = cx.netErr kk ∧ l = (cx.frmAt kk).d ∧ l.length ≤ 4194304) → Calls Tryz.prog 91 #[.pointer (some ⟨y, 0, none⟩), .int .i64 kk] W fun e w' => ∃ (l' : List At) (ad : Option Addr) (cp : Nat), e = .returned (.tuple #[.agg #[.int .i64 f0, .int .i64 f1, .int .i64 f2, .int .i64 f3, .slice ad l'.length cp], .int .i64 E]) ∧ Hid ((true = true → Lo l' l) ∧ l'.length ≤ 4194304) ∧ Hid (SliceOf w' (.slice ad l'.length cp) l') ∧ Below W.heap.size W w') := fun W kk f0 f1 f2 f3 E l hW ⟨e0, e1, e2, e3, e4, e5, _⟩ => by
    obtain ⟨i0, i1, i2, i3, i4⟩ := hW.frmIs kk
    refine (hW.bi.swap.cFrame k2 l2 kk).mono fun e w' ⟨ad, cp, h1, h2, h3⟩ => ⟨_, ad, cp, ?_, ⟨by rw [e5]; exact i4, frm_len k2 l2 kk⟩, h2, h3⟩
    rw [h1, i0, i1, i2, i3, hW.netErr, e0, e1, e2, e3, e4]
  clear h hg back k1 l1 k2 l2
  go_enter Tryz.func57, Tryz.ntmps57
  go_wp2_with fail
  refine H0.out.bi.cFlight.mono ?_
  rintro e w1 ⟨rfl, hb1⟩
  have H1 := Hid.mk (H0.out.same hb1)
  have HF2 := Hid.mk (H0.out.same hb1).bi.swap.cFlight
  rw [HNL.out] at HF2
  clear H0 hb1
  go_wp2_with fail
  refine HF2.out.mono ?_
  rintro e w2 ⟨rfl, hb2⟩
  have H2 := Hid.mk (H1.out.same hb2)
  obtain ⟨a1, a2, a3, a4, a5, a6, a7, a8, a9⟩ := act_all (HKP.out _ _ _ H2.out.bi)
  clear H1 HF2 hb2 a1 a2 a4 a5 a6 a7 a8 a9
  generalize hL0 : cx.net.length = L0 at *
  go_wp2_with fail
  refine (spoken_some n L0 hnl _).mono ?_
  rintro e w3 ⟨kk, rfl, hw3⟩
  subst hw3
  go_wp2_with fail
  refine (HFX.out _ kk H2.out).mono ?_
  rintro e w4 ⟨f0, f1, f2, f3, E, l, ad1, cp1, rfl, hI, hS1, hb4⟩
  have H4 := Hid.mk (H2.out.same hb4)
  clear H2 hb4 a3 HFX
  go_wp2_with fail
  refine (HFY.out _ kk f0 f1 f2 f3 E l (H4.out.same (below_alloc (Below.refl _ _) _)) hI.out).mono ?_
  have HP := Hid.mk (heap_alloc_new w4 (.cells #[.int .i64 f0, .int .i64 f1, .int .i64 f2, .int .i64 f3, .slice ad1 l.length cp1] 110))
  rintro e w5 ⟨l', ad2, cp2, rfl, hLo, hS2, hb5⟩
  have HB45 : Hid (Below w4.heap.size w4 w5) := (below_alloc (Below.refl _ _) _).trans (hb5.mono (by simp))
  have H5 := Hid.mk (H4.out.same HB45.out)
  have p0 : w5.cell? ⟨w4.heap.size, 0, none⟩ = some (.int .i64 f0) := cell_kept ((blk_cell HP.out 0).trans rfl) hb5
  have p1 : w5.cell? ⟨w4.heap.size, 1, none⟩ = some (.int .i64 f1) := cell_kept ((blk_cell HP.out 1).trans rfl) hb5
  have p2 : w5.cell? ⟨w4.heap.size, 2, none⟩ = some (.int .i64 f2) := cell_kept ((blk_cell HP.out 2).trans rfl) hb5
  have p3 : w5.cell? ⟨w4.heap.size, 3, none⟩ = some (.int .i64 f3) := cell_kept ((blk_cell HP.out 3).trans rfl) hb5
  have p4 : w5.cell? ⟨w4.heap.size, 4, none⟩ = some (.slice ad1 l.length cp1) := cell_kept ((blk_cell HP.out 4).trans rfl) hb5
  have hl5 : w4.heap.size < w5.heap.size := Nat.lt_of_lt_of_le (blk_lt HP.out) hb5.size
  have HS1 := Hid.mk (hS1.out.below HB45.out)
  have HS2 := Hid.mk hS2.out
  have HLE := Hid.mk hI.out.2.2.2.2.2.2
  clear hS1 hS2 hb5 HP HB45 H4 HFY
  have hblk := HKP.out _ _ _ H5.out.bi
  have a0 : w5.cell? ⟨w.heap.size, 0, none⟩ = some (.int .i64 k) := (blk_cell hblk 0).trans rfl
  have a3 := (act_all hblk).2.2.1
  have hlw : w.heap.size < w5.heap.size := blk_lt hblk
  clear hblk hI
  have HBL : Hid (∀ W, Below w5.heap.size w5 W → Calls Tryz.prog 52 #[.slice ad2 l'.length cp2, .slice ad1 l.length cp1] W fun e w' => e = .returned (.bool true) ∧ Below W.heap.size W w') := fun W hW => (below_lo _ _ l' l W (HS2.out.below hW) (HS1.out.below hW) hLo.out.2 HLE.out).mono fun e w' ⟨rr, h1, h2, h3⟩ => ⟨by rw [h1, h2.out (by first | exact hLo.out.1 rfl | exact hLo.out.1 trivial | exact hLo.out.1)], h3⟩
  have HQ := Hid.mk (heap_alloc_new w5 (.cells #[.int .i64 f0, .int .i64 f1, .int .i64 f2, .int .i64 f3, .slice ad2 l'.length cp2] 110))
  clear HS1 HS2 HLE hLo
  go_wp2_with fail
  refine (HBL.out _ (below_alloc (Below.refl _ _) _)).mono ?_
  rintro e w6 ⟨rfl, hb6⟩
  have HB56 : Hid (Below w5.heap.size w5 w6) := (below_alloc (Below.refl _ _) _).trans (hb6.mono (by simp))
  replace p0 := cell_kept p0 HB56.out
  replace p1 := cell_kept p1 HB56.out
  replace p2 := cell_kept p2 HB56.out
  replace p3 := cell_kept p3 HB56.out
  replace p4 := cell_kept p4 HB56.out
  replace a0 := cell_kept a0 HB56.out
  replace a3 := cell_kept a3 HB56.out
  have u0 : w6.cell? ⟨w5.heap.size, 0, none⟩ = some (.int .i64 f0) := cell_kept ((blk_cell HQ.out 0).trans rfl) hb6
  have u1 : w6.cell? ⟨w5.heap.size, 1, none⟩ = some (.int .i64 f1) := cell_kept ((blk_cell HQ.out 1).trans rfl) hb6
  have u2 : w6.cell? ⟨w5.heap.size, 2, none⟩ = some (.int .i64 f2) := cell_kept ((blk_cell HQ.out 2).trans rfl) hb6
  have u3 : w6.cell? ⟨w5.heap.size, 3, none⟩ = some (.int .i64 f3) := cell_kept ((blk_cell HQ.out 3).trans rfl) hb6
  have H6 := Hid.mk (H5.out.same HB56.out)
  clear H5 HBL HQ hb6 HB56
  by_cases hk7 : k = 7
  · subst hk7
    have HX := Hid.mk (H6.out.xDeliver hM (by omega) kk)
    have HY := Hid.mk (fun W cx' (hW : Bi Z1 W 2 x cx' 3 y cy) => H6.out.yDeliver hM (by omega) kk hW)
    have HFIN : Hid (∀ W, Bi Z1 W 2 x (cx.deliver kk) 3 y (cy.deliver kk) → SmQ Z x y true M N (.returned (.bool true)) W) := fun W hW => (HBK.out _ _ _ _ _ _ (H6.out.deliver kk hW)).done rfl
    generalize cx.netErr kk = E2 at *
    clear HKP HBK HPK
    go_wp2_with fail
    refine HX.out.mono ?_
    rintro e w7 ⟨rfl, h7⟩
    have HB7 := Hid.mk h7
    clear HX h7 H6 p0 p1 p2 p3 p4 a0 a3
    go_wp2_with fail
    refine (HY.out _ _ HB7.out).mono ?_
    rintro e w8 ⟨rfl, h8⟩
    have HF := Hid.mk (HFIN.out _ h8)
    clear HY h8 HB7 HFIN
    go_wp2
    go_ret
    simp
    exact HF.out
  by_cases hk8 : k = 8
  · subst hk8
    have HX := Hid.mk (H6.out.xDrop hM (by omega) kk)
    have HY := Hid.mk (fun W cx' (hW : Bi Z1 W 2 x cx' 3 y cy) => H6.out.yDrop hM (by omega) kk hW)
    have HFIN : Hid (∀ W, Bi Z1 W 2 x (cx.dropF kk) 3 y (cy.dropF kk) → SmQ Z x y true M N (.returned (.bool true)) W) := fun W hW => (HBK.out _ _ _ _ _ _ (H6.out.dropF kk hW)).done rfl
    generalize cx.netErr kk = E2 at *
    clear HKP HBK HPK
    go_wp2_with fail
    refine HX.out.mono ?_
    rintro e w7 ⟨rfl, h7⟩
    have HB7 := Hid.mk h7
    clear HX h7 H6 p0 p1 p2 p3 p4 a0 a3
    go_wp2_with fail
    refine (HY.out _ _ HB7.out).mono ?_
    rintro e w8 ⟨rfl, h8⟩
    have HF := Hid.mk (HFIN.out _ h8)
    clear HY h8 HB7 HFIN
    go_wp2
    go_ret
    simp
    exact HF.out
  by_cases hk9 : k = 9
  · subst hk9
    have HX := Hid.mk (H6.out.xCopy hM (by omega) kk)
    have HY := Hid.mk (fun W cx' (hW : Bi Z1 W 2 x cx' 3 y cy) => H6.out.yCopy hM (by omega) kk hW)
    have HFIN : Hid (∀ W, Bi Z1 W 2 x (cx.copyF kk) 3 y (cy.copyF kk) → SmQ Z x y true M N (.returned (.bool true)) W) := fun W hW => (HBK.out _ _ _ _ _ _ (H6.out.copyF kk hW)).done rfl
    generalize cx.netErr kk = E2 at *
    clear HKP HBK HPK
    go_wp2_with fail
    refine HX.out.mono ?_
    rintro e w7 ⟨rfl, h7⟩
    have HB7 := Hid.mk h7
    clear HX h7 H6 p0 p1 p2 p3 p4 a0 a3
    go_wp2_with fail
    refine (HY.out _ _ HB7.out).mono ?_
    rintro e w8 ⟨rfl, h8⟩
    have HF := Hid.mk (HFIN.out _ h8)
    clear HY h8 HB7 HFIN
    go_wp2
    go_ret
    simp
    exact HF.out
  by_cases hk10 : k = 10
  · subst hk10
    subst hL0
    go_wp2
    clear p0 p1 p2 p3 p4 a0 a3
    go_loopw [9, 17, 18, 19] (fun s9 s17 s18 s19 wr => ∃ (i : Nat) (E : Int) (c0' cx' cy' : Clu), i ≤ 20 ∧ s9 = .int .i64 cx'.net.length ∧ s17 = .int .i64 E ∧ s18 = .int .i64 E ∧ s19 = .int .i64 i ∧ Hid (Sm Z1 wr x y true M (N + i) c0' cx' cy')) (fun _ _ _ s19 _ => 20 - (intOf s19).toNat)
    case atStart => exact ⟨0, 0, c0, cx, cy, by omega, rfl, rfl, rfl, rfl, H6⟩
    case round =>
      clear H6
      obtain ⟨i, E2, c0', cx', cy', hi, rfl, rfl, rfl, rfl, hs⟩ := hrel
      have hblk := HKP.out _ _ _ hs.out.bi
      have a3 := (act_all hblk).2.2.1
      have HEND := Hid.mk ((HBK.out _ _ _ _ _ _ hs.out).done (M := M) (N := N) (e := .returned (.bool true)) rfl)
      clear hblk
      go_wp2_with fail
      refine (HPK.out _).mono ?_
      rintro e w7 ⟨rr, rfl, hrr, hw7⟩
      subst hw7
      obtain ⟨q1, q2⟩ := hrr
      by_cases hir : (i : Int) ≤ rr
      · by_cases hpos : 0 < cx'.net.length
        · have q3 : (0 : Int) < (cx'.net.length : Int) := by omega
          have HX := Hid.mk (hs.out.xDeliver hM (by omega) 0)
          have HY := Hid.mk (fun W cx2 (hW : Bi Z1 W 2 x cx2 3 y cy') => hs.out.yDeliver hM (by omega) 0 hW)
          have HNX : Hid (∀ W, Bi Z1 W 2 x (cx'.deliver 0) 3 y (cy'.deliver 0) → Sm Z1 W x y true M (N + (i + 1)) (c0'.deliver 0) (cx'.deliver 0) (cy'.deliver 0)) := fun W hW => hs.out.deliver 0 hW
          generalize cx'.netErr 0 = E3 at *
          clear HEND a3 hs
          go_wp2_with fail
          refine HX.out.mono ?_
          rintro e w8 ⟨rfl, h8⟩
          have HB8 := Hid.mk h8
          clear HX h8
          go_wp2_with fail
          refine (HY.out _ _ HB8.out).mono ?_
          rintro e w9 ⟨rfl, h9⟩
          have HS9 := Hid.mk (HNX.out _ h9)
          clear HY h9 HB8 HNX
          go_wp2_with fail
          refine HS9.out.bi.cFlight.mono ?_
          rintro e w10 ⟨rfl, hb10⟩
          have HS10 := Hid.mk (HS9.out.same hb10)
          clear HS9 hb10
          go_wp2
          exact ⟨⟨i + 1, E3, _, _, _, by omega, rfl, rfl, rfl, by go_num, HS10⟩, by simp [intOf]; omega⟩
        · have hz : cx'.net.length = 0 := by omega
          rw [hz]
          clear a3 hs
          go_wp2
          go_ret
          simp
          exact HEND.out
      · clear a3 hs
        go_wp2
        go_ret
        simp
        exact HEND.out
  have HF := Hid.mk ((HBK.out _ _ _ _ _ _ H6.out).still (e := .returned (.bool true)) rfl)
  clear H6 HKP HBK HPK
  go_wp2
  go_ret
  exact HF.out
end
end Go.Proofs.YtahdlejgjcjeoabGreatDoor

namespace Go.Proofs.YtahdlejgjcjeoabGreatDoor
open Go.RowKit
section
variable {Z : Snap} {w w' : World} {x y M N : Nat} {b : Bool} {c0 cx cy : Clu}
theorem Sm.lNet (h : Sm Z w x y b M N c0 cx cy) (hM : M ≤ 131071) (hN : N + 20 ≤ 2097152) (k r q n ty : Int) (ky : ByteArray) (sd : Int) (el : ByteArray) (on : Int) (key : ByteArray) (hn0 : -9223372036854775808 ≤ n) (hn1 : n ≤ 9223372036854775807) :
    Calls Tryz.prog 57 #[.pointer (some ⟨x, 0, none⟩), .pointer (some ⟨y, 0, none⟩), .agg #[.int .i64 k, .int .i64 r, .int .i64 q, .int .i64 n, .int .i64 ty, .string ky, .int .i64 sd, .string el, .int .i64 on, .string key], .bool b] w (SmQ Z x y b M N) := by
  cases b
  · exact h.lNetF hM hN k r q n ty ky sd el on key hn0 hn1
  · exact h.lNetT hM hN k r q n ty ky sd el on key hn0 hn1
set_option maxRecDepth 100000 in
set_option maxHeartbeats 4000000 in
theorem Sm.lAlikeN (h : Sm Z w x y b M N c0 cx cy) (hM : M ≤ 131071) (hN : N + 20 ≤ 2097152) (k r q n ty : Int) (ky : ByteArray) (sd : Int) (el : ByteArray) (on : Int) (key : ByteArray) (hn0 : -9223372036854775808 ≤ n) (hn1 : n ≤ 9223372036854775807) (hk : k = 7 ∨ k = 8 ∨ k = 9 ∨ k = 10 ∨ k = 11 ∨ k = 12) :
    Calls Tryz.prog 20 #[.pointer (some ⟨x, 0, none⟩), .pointer (some ⟨y, 0, none⟩), .agg #[.int .i64 k, .int .i64 r, .int .i64 q, .int .i64 n, .int .i64 ty, .string ky, .int .i64 sd, .string el, .int .i64 on, .string key], .bool b] w (SmQ Z x y b M N) := by
  have HN := Hid.mk (fun ob => (h.same (below_alloc (Below.refl _ w) ob)).lNet hM hN k r q n ty ky sd el on key hn0 hn1)
  clear h
  rcases hk with rfl | rfl | rfl | rfl | rfl | rfl
  all_goals go_enter Tryz.func20, Tryz.ntmps20
  all_goals go_wp2_with fail
  all_goals refine (HN.out _).mono ?_
  all_goals rintro e w1 ⟨rfl, c0', cx', cy', h1⟩
  all_goals have H1 := Hid.mk h1
  all_goals clear h1 HN
  all_goals go_wp2
  all_goals go_ret
  all_goals exact ⟨rfl, _, _, _, H1.out⟩
set_option maxRecDepth 100000 in
set_option maxHeartbeats 4000000 in
theorem Sm.lAlike0 (h : Sm Z w x y b M N c0 cx cy) (k r q n ty : Int) (ky : ByteArray) (sd : Int) (el : ByteArray) (on : Int) (key : ByteArray) (g1 : ¬ k = 1) (g2 : ¬ k = 2) (g3 : ¬ k = 3) (g4 : ¬ k = 4) (g5 : ¬ k = 5) (g6 : ¬ k = 6) (g7 : ¬ k = 7) (g8 : ¬ k = 8) (g9 : ¬ k = 9) (g10 : ¬ k = 10) (g11 : ¬ k = 11) (g12 : ¬ k = 12) (g13 : ¬ k = 13) (g14 : ¬ k = 14) (g17 : ¬ k = 17) :
    Calls Tryz.prog 20 #[.pointer (some ⟨x, 0, none⟩), .pointer (some ⟨y, 0, none⟩), .agg #[.int .i64 k, .int .i64 r, .int .i64 q, .int .i64 n, .int .i64 ty, .string ky, .int .i64 sd, .string el, .int .i64 on, .string key], .bool b] w (SmQ Z x y b M N) := by
  have HF := Hid.mk (fun ob => (h.same (below_alloc (Below.refl _ w) ob)).still (e := .returned (.bool true)) rfl)
  clear h
  go_enter Tryz.func20, Tryz.ntmps20
  go_wp2
  go_ret
  exact HF.out _
theorem Sm.lAlike (h : Sm Z w x y b M N c0 cx cy) (hM : M ≤ 131071) (hN : N + 20 ≤ 2097152) (k r q n ty : Int) (ky : ByteArray) (sd : Int) (el : ByteArray) (on : Int) (key : ByteArray) (hfit : (⟨k, r, q, n, ⟨ty, ky, sd, el, on⟩, key⟩ : ActV).fit) :
    Calls Tryz.prog 20 #[.pointer (some ⟨x, 0, none⟩), .pointer (some ⟨y, 0, none⟩), .agg #[.int .i64 k, .int .i64 r, .int .i64 q, .int .i64 n, .int .i64 ty, .string ky, .int .i64 sd, .string el, .int .i64 on, .string key], .bool b] w (SmQ Z x y b M N) := by
  by_cases g1 : k = 1
  · subst g1; exact h.lAlike1 hM hN r q n ty ky sd el on key hfit.op
  by_cases g2 : k = 2
  · subst g2; exact h.lAlike2 hM hN r q n ty ky sd el on key hfit.op
  by_cases g3 : k = 3
  · subst g3; exact h.lAlike3 hM hN r q n ty ky sd el on key
  by_cases g4 : k = 4
  · subst g4; exact h.lAlike4 hM hN r q n ty ky sd el on key
  by_cases g5 : k = 5
  · subst g5; exact h.lAlike5 hM hN r q n ty ky sd el on key
  by_cases g6 : k = 6
  · subst g6; exact h.lAlike6 hM hN r q n ty ky sd el on key
  by_cases g13 : k = 13
  · subst g13; exact h.lAlike13 hM hN r q n ty ky sd el on key
  by_cases g14 : k = 14
  · subst g14; exact h.lAlike14 hM hN r q n ty ky sd el on key hfit.key
  by_cases g17 : k = 17
  · subst g17; exact h.lAlike17 hM hN r q n ty ky sd el on key
  by_cases gn : k = 7 ∨ k = 8 ∨ k = 9 ∨ k = 10 ∨ k = 11 ∨ k = 12
  · exact h.lAlikeN hM hN k r q n ty ky sd el on key hfit.rng.n.1 hfit.rng.n.2 gn
  · exact h.lAlike0 k r q n ty ky sd el on key g1 g2 g3 g4 g5 g6 (fun e => gn (by omega)) (fun e => gn (by omega)) (fun e => gn (by omega)) (fun e => gn (by omega)) (fun e => gn (by omega)) (fun e => gn (by omega)) g13 g14 g17
end
end Go.Proofs.YtahdlejgjcjeoabGreatDoor

namespace Go.Proofs.YtahdlejgjcjeoabGreatDoor
open Go.RowKit
/-- Two clusters, made one behind the other. -/
theorem sm_new {wD w1 w2 : World} {x y R R' n : Nat} {bp0 rr0 bp rr b : Bool} {rm : Int} {F : Nat → Nat → Bool} {es : List (Int × Int)} (hr : RulesAt wD) (hs : StepsAt wD) (hQ : FillQ wD w1 x R n n bp0 rr0 rm F) (hQ' : FillQ w1 w2 y R' n n bp rr rm F) (hF : linkAll n noE es = some F) (hn : 1 ≤ n ∧ n ≤ 6) (hrm : 1 ≤ rm ∧ rm ≤ 8) (hb : b = true → bp0 = false ∧ rr0 = false) :
    Sm (Snap.all wD) w2 x y b 0 0 (clu0 rm.toNat false false n F) (clu0 rm.toNat bp0 rr0 n F) (clu0 rm.toNat bp rr n F) := by
  obtain ⟨K, c1, hp, hf⟩ := hQ.prgAt (by omega : 0 ≤ rm) (fun _ => (0, 0)) 2
  obtain ⟨K', c2, hp', hf'⟩ := hQ'.prgAt (by omega : 0 ≤ rm) c1 3
  have hbw : Below wD.heap.size wD w2 := hQ.bel.trans (hQ'.bel.mono hQ.bel.size)
  have s1 := hQ.bel.size
  have cO : ∀ q, q < wD.heap.size → c2 q = (0, 0) := fun q hq => by rw [(hf' (fun _ => False)).col q (by omega), (hf (fun _ => False)).col q hq]
  have ok : ∀ b1 b2, (clu0 rm.toNat b1 b2 n F).ok [] 0 := fun b1 b2 => clu0_ok b1 b2 F hn.1 hn.2 (by omega) (by omega)
  have far : ∀ b1 b2, (clu0 rm.toNat b1 b2 n F).far := fun b1 b2 i j hj => linkAll_beyond es noE F (fun _ _ _ => rfl) hF i j (by simpa [clu0] using hj)
  exact ⟨⟨c2, K, K', old_all hbw (fun q hq => by rw [cO q hq]), ⟨hr.block (hbw.block 1 hr.1) hbw.size, hs.block (hbw.block 0 hs.1) hbw.size, cO 1 hr.1, cO 0 hs.1⟩, hp.kept (hf' (fun _ => False)) (fun _ => id), hp', by decide, by decide, by decide⟩,
    ⟨_, sim_new _ _ _ _ _⟩, ⟨_, sim_new _ _ _ _ _⟩, ⟨[], ok _ _, Nat.le_refl _⟩, ⟨[], ok _ _, Nat.le_refl _⟩, ⟨[], ok _ _, Nat.le_refl _⟩, far _ _, far _ _, fun e => by rw [(hb e).1, (hb e).2]⟩
/-- Settings of the law's own, and a copy of them that parts in BP and RR. -/
structure CD (w wD : World) (C D n : Nat) (rm : Int) (u : Value) (es : List (Int × Int)) (bp0 rr0 bp rr : Bool) : Prop where
  bel : Below w.heap.size w wD
  c : wD.heap[C]? = some (.cells #[.int .i64 n, u, .bool bp0, .bool rr0, .int .i64 rm] 24 (0, 0))
  d : wD.heap[D]? = some (.cells #[.int .i64 n, u, .bool bp, .bool rr, .int .i64 rm] 24 (0, 0))
  ed : EdgesOf wD u es
theorem cd_made {w wS : World} {ca : Array Value} {n : Nat} {rm : Int} {u : Value} {es : List (Int × Int)} {bp0 rr0 bp rr : Bool} {x0 x1 x2 x3 x4 : Value} (hca : ca = #[x0, x1, x2, x3, x4]) (hb : Below (w.alloc (.cells ca 24)).heap.size (w.alloc (.cells ca 24)) wS) (ho : wS.ownsRow (w.alloc (.cells ca 24)).heap.size 55 2 u es.length (es.flatMap edV)) :
    CD w ((set5 wS w.heap.size (.int .i64 n) u (.bool bp0) (.bool rr0) (.int .i64 rm)).alloc (.cells #[.int .i64 n, u, .bool bp, .bool rr, .int .i64 rm] 24)) w.heap.size wS.heap.size n rm u es bp0 rr0 bp rr := by
  have hz : (w.alloc (.cells ca 24)).heap.size = w.heap.size + 1 := by simp
  rw [hz] at ho hb
  have hbs := hb.size
  rw [hz] at hbs
  have hc0 := (hb.block w.heap.size (by omega)).trans (heap_alloc_new w (.cells ca 24))
  subst hca
  have hC : (set5 wS w.heap.size (.int .i64 n) u (.bool bp0) (.bool rr0) (.int .i64 rm)).heap[w.heap.size]? = some (.cells #[.int .i64 n, u, .bool bp0, .bool rr0, .int .i64 rm] 24 (0, 0)) := heap_set (o := 4) (heap_set (o := 3) (heap_set (o := 2) (heap_set (o := 1) (heap_set (o := 0) hc0 _) _) _) _) _
  have hsz : (set5 wS w.heap.size (.int .i64 n) u (.bool bp0) (.bool rr0) (.int .i64 rm)).heap.size = wS.heap.size := by simp [set5]
  have hO : (set5 wS w.heap.size (.int .i64 n) u (.bool bp0) (.bool rr0) (.int .i64 rm)).ownsRow (w.heap.size + 1) 55 2 u es.length (es.flatMap edV) := owns_put (owns_put (owns_put (owns_put (owns_put ho (by omega)) (by omega)) (by omega)) (by omega)) (by omega)
  have hB0 : Below w.heap.size w wS := (below_alloc (Below.refl _ w) _).trans (hb.mono (by omega))
  have hB : Below w.heap.size w (set5 wS w.heap.size (.int .i64 n) u (.bool bp0) (.bool rr0) (.int .i64 rm)) := ((((hB0.setCell (by simp) _).setCell (by simp) _).setCell (by simp) _).setCell (by simp) _).setCell (by simp) _
  generalize set5 wS w.heap.size (.int .i64 n) u (.bool bp0) (.bool rr0) (.int .i64 rm) = wC at *
  rw [← hsz]
  have hcl := blk_lt hC
  exact ⟨below_alloc hB _, (Below.heap_alloc _ _ _ hcl).trans hC, heap_alloc_new wC _, edges_owns (owns_below hO (below_alloc (Below.refl _ _) _))⟩
end Go.Proofs.YtahdlejgjcjeoabGreatDoor
