/- Walk of the laws' sameValues. -/
import Derived.Test.YtahdlejgjcjeoabGreatDoorS12
import Derived.Test.YtahdlejgjcjeoabGreatDoorS18
import Derived.Test.YtahdlejgjcjeoabGreatDoorS22
import Derived.Test.YtahdlejgjcjeoabGreatDoorS23
import Derived.Test.YtahdlejgjcjeoabGreatDoorS27
import Derived.Test.YtahdlejgjcjeoabGreatDoorS25
import Derived.Test.YtahdlejgjcjeoabGreatDoorS24
import Derived.Test.YtahdlejgjcjeoabGreatDoorS11
import Derived.Test.YtahdlejgjcjeoabGreatDoorS20
import Derived.Test.YtahdlejgjcjeoabGreatDoorS04
import Derived.Test.YtahdlejgjcjeoabGreatDoorS01
namespace Go.Proofs.YtahdlejgjcjeoabGreatDoor
open Go.RowKit

/-- The settings, as the Player has them. -/
structure Cf where
  n : Nat
  ev : Value
  room : Int
  bp : Bool
  rr : Bool
/-- A list of the Player's, or one that is nobody's. -/
def HeldO (w : World) (col : Col) (v : Value) (l : List At) : Prop := ∃ κ : Nat × Nat, (κ = (4, 3) ∨ κ.1 = 0) ∧ Held w col κ v l
theorem HeldO.kept {w w' : World} {col col' : Col} {S : Nat × Nat → Prop} {v : Value} {l : List At} (h : HeldO w col v l) (hf : FrC S col col' w w') (h0 : ∀ κ : Nat × Nat, κ.1 = 0 → ¬ S κ) (h4 : ¬ S (4, 3)) : HeldO w' col' v l := by
  obtain ⟨κ, hk, hh⟩ := h
  refine ⟨κ, hk, hh.kept hf ?_⟩
  rcases hk with rfl | hk
  · exact h4
  · exact h0 κ hk
theorem HeldO.slice {w : World} {col : Col} {v : Value} {l : List At} (h : HeldO w col v l) : SliceOf w v l := by
  obtain ⟨κ, _, hh⟩ := h
  exact hh.slice
/-- The Player in memory: P its struct, x the cluster (at c); D: who is down, as it has it; H: what each replica had. -/
structure PSt (Z : Snap) (w : World) (col : Col) (P x : Nat) (g : Cf) (K : PrK) (c : Clu) (vd vh : Value) (D : List Bool) (H : List (Value × List At)) : Prop where
  old : Old Z w col
  tab : Tab w col
  prg : PrgAt w col 2 x K c
  len : c.reps.length = g.n
  lD : D.length = g.n
  lH : H.length = g.n
  blk : w.heap[P]? = some (.cells #[.pointer (some ⟨x, 0, none⟩), .int .i64 g.n, g.ev, .bool g.bp, .bool g.rr, .int .i64 g.room, vd, vh] 47 (0, 0))
  cP : col P = (4, 0)
  dn : RowC w col (4, 1) 4 1 vd g.n (D.map Value.bool)
  hd : RowC w col (4, 2) 53 1 vh g.n (H.map (·.1))
  ls : ∀ h ∈ H, HeldO w col h.1 h.2 ∧ h.2.length ≤ 131072
  lo : ∀ i (h : i < H.length), Lo (H[i]).2 (c.rep i).dur

section
variable {Z : Snap} {w w1 w' : World} {col col' : Col} {P x : Nat} {g : Cf} {K K' : PrK} {c c' : Clu} {vd vh : Value} {D : List Bool} {H : List (Value × List At)}
theorem PSt.kept (h : PSt Z w col P x g K c vd vh D H) {S : Nat × Nat → Prop} (hf : FrC S col col' w w') (h0 : ∀ κ : Nat × Nat, κ.1 = 0 → ¬ S κ) (h4 : ∀ κ : Nat × Nat, κ.1 = 4 → ¬ S κ) (hp : PrgAt w' col' 2 x K' c') (hl : c'.reps.length = c.reps.length) (hm : c.more c') : PSt Z w' col' P x g K' c' vd vh D H where
  old := h.old.kept hf h0
  tab := h.tab.kept hf (h0 _ rfl)
  prg := hp
  len := hl.trans h.len
  lD := h.lD
  lH := h.lH
  blk := hf.block h.blk (h4 _ (by rw [h.cP]))
  cP := by rw [hf.colB h.blk]; exact h.cP
  dn := h.dn.kept hf (h4 _ rfl)
  hd := h.hd.kept hf (h4 _ rfl)
  ls e he := ⟨(h.ls e he).1.kept hf h0 (h4 _ rfl), (h.ls e he).2⟩
  lo i hi := (h.lo i hi).trans (hm i (by rw [h.len, ← h.lH]; exact hi))
theorem PSt.same (h : PSt Z w col P x g K c vd vh D H) (hb : Below w.heap.size w w') : PSt Z w' col P x g K c vd vh D H :=
  h.kept (S := fun _ => False) (frC_same hb) (fun _ _ => id) (fun _ _ => id) (h.prg.same hb) rfl (Clu.more.refl c)
theorem PSt.byPrg (h : PSt Z w col P x g K c vd vh D H) (hf : FrC (ofOwn 2) col col' w w') (hp : PrgAt w' col' 2 x K' c') (hl : c'.reps.length = c.reps.length) (hm : c.more c') : PSt Z w' col' P x g K' c' vd vh D H :=
  h.kept hf (fun κ e (e' : κ.1 = 2) => by omega) (fun κ e (e' : κ.1 = 2) => by omega) hp hl hm
/-- Its own cells. -/
theorem PSt.cells (h : PSt Z w col P x g K c vd vh D H) : w.cell? ⟨P, 0, none⟩ = some (.pointer (some ⟨x, 0, none⟩)) ∧ w.cell? ⟨P, 1, none⟩ = some (.int .i64 g.n) ∧ w.cell? ⟨P, 2, none⟩ = some g.ev ∧ w.cell? ⟨P, 6, none⟩ = some vd ∧ w.cell? ⟨P, 7, none⟩ = some vh :=
  ⟨(blk_cell h.blk 0).trans rfl, (blk_cell h.blk 1).trans rfl, (blk_cell h.blk 2).trans rfl, (blk_cell h.blk 6).trans rfl, (blk_cell h.blk 7).trans rfl⟩
theorem PSt.downAt (h : PSt Z w col P x g K c vd vh D H) {r : Nat} (hr : r < g.n) : ∃ d cap, vd = .slice (some ⟨d, 0, none⟩) g.n cap ∧ w.cell? ⟨d, r, none⟩ = some (.bool (D.getD r false)) ∧ w.frozen? ⟨d, r, none⟩ = false ∧ d < w.heap.size := by
  obtain ⟨d, cap, rfl, _, _, hd, _, hc, hz⟩ := h.dn.at (by omega)
  refine ⟨d, cap, rfl, hc r _ ?_, hz r, hd⟩
  rw [List.getElem?_map, List.getD_eq_getElem?_getD, List.getElem?_eq_getElem (by rw [h.lD]; exact hr)]
  rfl
theorem PSt.hadAt (h : PSt Z w col P x g K c vd vh D H) {r : Nat} (hr : r < g.n) : ∃ b cap v l, vh = .slice (some ⟨b, 0, none⟩) g.n cap ∧ w.cell? ⟨b, r, none⟩ = some v ∧ w.frozen? ⟨b, r, none⟩ = false ∧ b < w.heap.size ∧ HeldO w col v l ∧ l.length ≤ 131072 ∧ Lo l (c.rep r).dur ∧ H[r]? = some (v, l) := by
  obtain ⟨b, cap, rfl, _, _, hd, _, hc, hz⟩ := h.hd.at (by omega)
  have hrl : r < H.length := by rw [h.lH]; exact hr
  have hm := h.ls _ (List.getElem_mem hrl)
  refine ⟨b, cap, H[r].1, H[r].2, rfl, hc r _ ?_, hz r, hd, hm.1, hm.2, h.lo r hrl, by rw [List.getElem?_eq_getElem hrl]⟩
  rw [List.getElem?_map, List.getElem?_eq_getElem hrl]
  rfl
/-- It is written down who is down. -/
theorem PSt.setDown {d cap : Nat} (h : PSt Z w col P x g K c (.slice (some ⟨d, 0, none⟩) g.n cap) vh D H) (r : Nat) (b : Bool) : PSt Z (w.setCell ⟨d, r, none⟩ (.bool b)) col P x g K c (.slice (some ⟨d, 0, none⟩) g.n cap) vh (D.set r b) H := by
  obtain ⟨h1, h2⟩ := h.dn.store r (.bool b)
  have hn : ∀ κ : Nat × Nat, κ ≠ (4, 1) → ¬ κ = (4, 1) := fun _ e => e
  exact {
    old := h.old.kept h2 (fun κ e e' => by subst e'; cases e)
    tab := h.tab.kept h2 (fun e => by cases e)
    prg := h.prg.kept h2 (fun k e => by cases e)
    len := h.len
    lD := by rw [List.length_set]; exact h.lD
    lH := h.lH
    blk := h2.block h.blk (by rw [h.cP]; exact fun e => by cases e)
    cP := h.cP
    dn := by rw [List.map_set]; exact h1
    hd := h.hd.kept h2 (fun e => by cases e)
    ls := fun e he => ⟨(h.ls e he).1.kept h2 (fun κ e e' => by subst e'; cases e) (fun e => by cases e), (h.ls e he).2⟩
    lo := h.lo }
/-- It is written down what a replica has. -/
theorem PSt.setHad {b cap : Nat} {v : Value} {l : List At} (h : PSt Z w col P x g K c vd (.slice (some ⟨b, 0, none⟩) g.n cap) D H) (r : Nat) (hv : HeldO w col v l) (hl : l.length ≤ 131072) (hlo : Lo l (c.rep r).dur) : PSt Z (w.setCell ⟨b, r, none⟩ v) col P x g K c vd (.slice (some ⟨b, 0, none⟩) g.n cap) D (H.set r (v, l)) := by
  obtain ⟨h1, h2⟩ := h.hd.store r v
  exact {
    old := h.old.kept h2 (fun κ e e' => by subst e'; cases e)
    tab := h.tab.kept h2 (fun e => by cases e)
    prg := h.prg.kept h2 (fun k e => by cases e)
    len := h.len
    lD := h.lD
    lH := by rw [List.length_set]; exact h.lH
    blk := h2.block h.blk (by rw [h.cP]; exact fun e => by cases e)
    cP := h.cP
    dn := h.dn.kept h2 (fun e => by cases e)
    hd := by rw [List.map_set]; exact h1
    ls := fun e he => by
      rcases List.mem_or_eq_of_mem_set he with he | rfl
      · exact ⟨(h.ls e he).1.kept h2 (fun κ e e' => by subst e'; cases e) (fun e => by cases e), (h.ls e he).2⟩
      · exact ⟨hv.kept h2 (fun κ e e' => by subst e'; cases e) (fun e => by cases e), hl⟩
    lo := fun i hi => by
      rw [List.length_set] at hi
      rw [List.getElem_set]
      split
      · rename_i e; subst e; exact hlo
      · exact h.lo i hi }
/-- New blocks are the Player's own. -/
theorem PSt.anew (h : PSt Z w col P x g K c vd vh D H) (hb : Below w.heap.size w w1) (κ : Nat × Nat) : PSt Z w1 (paint col w.heap.size κ) P x g K c vd vh D H :=
  h.kept (S := fun _ => False) ⟨(Fr.refl _ w).below hb, fun _ hq => paint_old col _ hq⟩ (fun _ _ => id) (fun _ _ => id) (h.prg.kept (S := fun _ => False) ⟨(Fr.refl _ w).below hb, fun _ hq => paint_old col _ hq⟩ (fun _ => id)) rfl (Clu.more.refl c)
end

/-- The Player, all that is in memory left out; L: what each replica had. -/
def Pm (Z : Snap) (w : World) (P x : Nat) (g : Cf) (c : Clu) (D : List Bool) (L : List (List At)) : Prop := ∃ col K vd vh H, PSt Z w col P x g K c vd vh D H ∧ H.map (·.2) = L
/-- Who is down is as it is written. -/
def Tells (c : Clu) (D : List Bool) : Prop := ∀ r, r < c.reps.length → D.getD r false = (c.rep r).down
section
variable {Z : Snap} {w w' : World} {P x : Nat} {g : Cf} {c : Clu} {D : List Bool} {L : List (List At)}
theorem Pm.same (h : Pm Z w P x g c D L) (hb : Below w.heap.size w w') : Pm Z w' P x g c D L := by
  obtain ⟨col, K, vd, vh, H, g, hL⟩ := h
  exact ⟨col, K, vd, vh, H, g.same hb, hL⟩
theorem Pm.bel {Z : World} (h : Pm (Snap.all Z) w P x g c D L) : Below Z.heap.size Z w := by
  obtain ⟨col, K, vd, vh, H, g, hL⟩ := h
  exact g.old.below
theorem Pm.len (h : Pm Z w P x g c D L) : c.reps.length = g.n := by
  obtain ⟨col, K, vd, vh, H, g, hL⟩ := h
  exact g.len
theorem Pm.cell0 (h : Pm Z w P x g c D L) : w.cell? ⟨P, 0, none⟩ = some (.pointer (some ⟨x, 0, none⟩)) := by
  obtain ⟨col, K, vd, vh, H, g, hL⟩ := h
  exact g.cells.1
theorem Pm.downC (h : Pm Z w P x g c D L) {r : Nat} (hr : r < g.n) : ∃ d cap, w.cell? ⟨P, 6, none⟩ = some (.slice (some ⟨d, 0, none⟩) g.n cap) ∧ w.cell? ⟨d, r, none⟩ = some (.bool (D.getD r false)) ∧ w.frozen? ⟨d, r, none⟩ = false ∧ ∀ b, Pm Z (w.setCell ⟨d, r, none⟩ (.bool b)) P x g c (D.set r b) L := by
  obtain ⟨col, K, vd, vh, H, g, hL⟩ := h
  obtain ⟨d, cap, rfl, h1, h2, h3⟩ := g.downAt hr
  exact ⟨d, cap, g.cells.2.2.2.1, h1, h2, fun b => ⟨col, K, _, vh, H, g.setDown r b, hL⟩⟩
/-- What has come anew is nobody's from here on, and stays. -/
theorem Pm.rebase {w1 : World} (h : Pm Z w P x g c D L) (hb : Below w.heap.size w w1) : ∃ Z' : Snap, Pm Z' w1 P x g c D L ∧ (Z'.w = w1 ∧ ∀ q, w.heap.size ≤ q → Z'.P q) ∧ ∀ (w' : World) (c' : Clu) (D' : List Bool) (L' : List (List At)), Pm Z' w' P x g c' D' L' → Pm Z w' P x g c' D' L' ∧ w1.heap.size ≤ w'.heap.size ∧ ∀ q, w.heap.size ≤ q → q < w1.heap.size → w'.heap[q]? = w1.heap[q]? := by
  obtain ⟨col, K, vd, vh, H, p, hL⟩ := h
  have hz : Z.w.heap.size ≤ w.heap.size := p.old.bel.size
  have p1 := p.anew hb (0, 0)
  refine ⟨⟨w1, fun q => (q < Z.w.heap.size ∧ Z.P q) ∨ w.heap.size ≤ q⟩, ⟨_, K, vd, vh, H, { p1 with old := ⟨Fr.refl _ _, fun q hq hp => ?_⟩ }, hL⟩, ⟨rfl, fun q hq => .inr hq⟩, fun w' c' D' L' hp' => ?_⟩
  · rcases hp with ⟨h1, h2⟩ | h1
    · exact p1.old.col q h1 h2
    · rw [paint_new col _ h1]
  · obtain ⟨col', K', vd', vh', H', p', hL'⟩ := hp'
    refine ⟨⟨col', K', vd', vh', H', { p' with old := ⟨⟨p'.old.bel.os.trans p1.old.bel.os, p'.old.bel.tape.trans p1.old.bel.tape, p'.old.bel.output.trans p1.old.bel.output, Nat.le_trans p1.old.bel.size p'.old.bel.size, fun k hk hx => ?_⟩, fun q hq hp => ?_⟩ }, hL'⟩, p'.old.bel.size, fun q h1 h2 => p'.old.bel.block q h2 (fun e => e (.inr h1))⟩
    · have hp : Z.P k := Classical.not_not.1 hx
      exact (p'.old.bel.block k (Nat.lt_of_lt_of_le hk p1.old.bel.size) (fun e => e (.inl ⟨hk, hp⟩))).trans (p1.old.bel.block k hk hx)
    · exact p'.old.col q (Nat.lt_of_lt_of_le hq p1.old.bel.size) (.inl ⟨hq, hp⟩)
end
end Go.Proofs.YtahdlejgjcjeoabGreatDoor

namespace Go.Proofs.YtahdlejgjcjeoabGreatDoor
open Go.RowKit
section
variable {Z : Snap} {w w' : World} {P x N : Nat} {g : Cf} {c : Clu} {D : List Bool} {L : List (List At)} {U : List At}

theorem works_rep {c : Clu} {r : Nat} (hr : r < c.reps.length) : c.works (r : Int) = if (c.rep r).down then 8 else 0 := by
  unfold Clu.works Clu.there
  simp [hr]

set_option maxRecDepth 100000 in
set_option maxHeartbeats 2000000 in
theorem Pm.lState (h : Pm Z w P x g c D L) (hok : c.ok U N) (hL : Lim U N) (hi : c.inv) (ht : Tells c D) {r : Nat} (hr : r < g.n) :
    Calls Tryz.prog 16 #[.pointer (some ⟨P, 0, none⟩), .int .i64 r] w fun e w' => e = .returned (.bool true) ∧ Pm Z w' P x g c D (if (c.rep r).down then L else L.set r (tell (c.rep r).atoms)) := by
  have hrc : r < c.reps.length := by rw [h.len]; exact hr
  have htr := ht r hrc
  have hw := works_rep hrc
  have hn6 : g.n ≤ 6 := by rw [← h.len]; exact hok.n6
  obtain ⟨col, K, vd, vh, H, hp, rfl⟩ := h
  have HP := Hid.mk (prgState hp.prg (by decide) hp.tab hok (r : Int))
  obtain ⟨dB, dcap, rfl, -⟩ := hp.downAt hr
  obtain ⟨hB, hcap, hv, hl, rfl, -⟩ := hp.hadAt hr
  have c0 := hp.cells.1
  have HN := Hid.mk hp
  have q0 : (0 : Int) ≤ (r : Int) := by omega
  have q1 : (r : Int) < (g.n : Int) := by omega
  cases hd : (c.rep r).down
  · rw [hd] at hw htr
    have hwz : c.works (r : Int) = 0 := by rw [hw]; rfl
    have hT := ok_tell hok hL hwz
    have hu := hi.up hrc hd
    have HU : Hid (Lo (tell (c.rep r).atoms) (c.rep r).dur ∧ Lo (c.rep r).dur (tell (c.rep r).atoms)) := ⟨(tell_lo _).trans hu.1, hu.2.trans (lo_tell _)⟩
    have HS : Hid ((tell (c.rep r).atoms).Pairwise (fun x y => plc x y < 0)) := (tell_told _).sorted
    have HT : Hid ((tell (c.rep r).atoms).length ≤ 131072) := hT.2
    rw [hwz] at HP
    simp only [Int.toNat_natCast, if_true] at HP
    clear hok hL hi ht hp hw hwz hT hu
    generalize tell (c.rep r).atoms = T at *
    go_enter Tryz.func16, Tryz.ntmps16
    go_wp2_with fail
    refine HP.out.mono ?_
    rintro e w1 ⟨v1, out1, rfl, ho1, he1, -, hb1⟩
    have he1' := he1.out
    subst he1'
    have HN1 := Hid.mk (HN.out.same hb1)
    have HH := Hid.mk (held_made (col := col) (κ := (4, 3)) rfl ho1)
    have HNA := Hid.mk (HN.out.anew hb1 (4, 3))
    obtain ⟨ad1, cp1, hf1⟩ := own_form ho1
    subst hf1
    have HSL : Hid (SliceOf w1 (.slice ad1 out1.length cp1) out1) := sliceOf_owns rfl ho1
    have c6 := HN1.out.cells.2.2.2.1
    have c7 := HN1.out.cells.2.2.2.2
    obtain ⟨dB', dcap', e1, d0, -⟩ := HN1.out.downAt hr
    cases e1
    obtain ⟨hB', hcap', hv', hl', e2, b0, b1, b2, b3, b4, b5, b6⟩ := HN1.out.hadAt hr
    cases e2
    rw [htr] at d0
    have HLO := Hid.mk (b5.trans HU.out.2)
    obtain ⟨adh, cph, hvf, -⟩ := b3.slice
    subst hvf
    have HTH := Hid.mk (thin_told _ _ w1 HSL.out (by have := HT.out; omega) HS.out)
    have HBE := Hid.mk (fun W (hW : Below w1.heap.size w1 W) => below_lo _ _ hl' _ W (b3.slice.below hW) (HSL.out.below hW) (by omega) (by have := HT.out; omega))
    have HFIN := Hid.mk (fun W (hW : Below w1.heap.size w1 W) => (HNA.out.same hW).setHad r ⟨(4, 3), .inl rfl, HH.out.kept (S := fun _ => False) (frC_same hW) id⟩ HT.out HU.out.1)
    have HDB := Hid.mk (fun W (hW : Below w1.heap.size w1 W) => (HN1.out.same hW).cells.2.2.2.2)
    have HDC := Hid.mk (fun W (hW : Below w1.heap.size w1 W) => (show W.cell? ⟨hB, r, none⟩ = some (.slice adh hl'.length cph) ∧ W.frozen? ⟨hB, r, none⟩ = false from ⟨cell_kept b0 hW, by rw [World.frozen?_of_block (w := w1) (a := ⟨hB, r, none⟩) (hW.block _ b2)]; exact b1⟩))
    clear ho1 hb1 c0 HN HP he1 b3 HH HNA HSL HS b6 b5 HN1 b2 b1 b4
    go_wp2_with fail
    refine HTH.out.mono ?_
    rintro e w2 ⟨rfl, hb2⟩
    have HB2 := Hid.mk hb2
    have c7' := HDB.out _ HB2.out
    obtain ⟨b0', b1'⟩ := HDC.out _ HB2.out
    clear HTH b0 c7 c6 d0 hb2 HDB
    go_wp2_with fail
    refine (HBE.out _ HB2.out).mono ?_
    rintro e w3 ⟨r3, rfl, hr3, hb3⟩
    have hr3' := hr3.out HLO.out
    subst hr3'
    have HB3 := Hid.mk (HB2.out.trans (hb3.mono HB2.out.size))
    have c7'' := cell_kept c7' hb3
    obtain ⟨b0'', b1''⟩ := HDC.out _ HB3.out
    have HF := Hid.mk (HFIN.out _ HB3.out)
    have HLE : Hid ((H.set r (Value.slice ad1 out1.length cp1, out1)).map (·.2) = (H.map (·.2)).set r out1) := List.map_set
    clear HDC HFIN HBE c7' b0' b1' hb3 HB2 HB3 hr3
    go_wp2
    go_ret
    exact ⟨rfl, _, _, _, _, _, HF.out, HLE.out⟩
  · rw [hd] at hw htr
    have hwz : c.works (r : Int) = 8 := by rw [hw]; rfl
    rw [hwz] at HP
    clear hok hL hi ht hp hw hwz
    go_enter Tryz.func16, Tryz.ntmps16
    go_wp2_with fail
    refine HP.out.mono ?_
    rintro e w1 ⟨v1, out1, rfl, ho1, he1, -, hb1⟩
    have HN1 := Hid.mk (HN.out.same hb1)
    obtain ⟨ad1, cp1, hf1⟩ := own_form ho1
    subst hf1
    have c6 := HN1.out.cells.2.2.2.1
    obtain ⟨dB', dcap', e1, d0, -⟩ := HN1.out.downAt hr
    cases e1
    rw [htr] at d0
    clear ho1 hb1 c0 HN HP he1
    go_wp2
    go_ret
    exact ⟨rfl, _, _, _, _, _, HN1.out, rfl⟩
end
end Go.Proofs.YtahdlejgjcjeoabGreatDoor

namespace Go.Proofs.YtahdlejgjcjeoabGreatDoor
open Go.RowKit
section
variable {Z : Snap} {w w' : World} {P x N : Nat} {g : Cf} {c : Clu} {D : List Bool} {L : List (List At)} {U : List At}
theorem Pm.pUpdate (h : Pm Z w P x g c D L) (hok : c.ok U N) (hL : Lim U N) (hi : c.inv) (r : Int) (op : OpV) (hop : op.short) :
    Calls Tryz.prog 22 #[.pointer (some ⟨x, 0, none⟩), .int .i64 r, op.val] w fun e w' => e = .returned (.int .i64 (c.opErr r op)) ∧ Pm Z w' P x g (c.update r op) D L := by
  obtain ⟨col, K, vd, vh, H, p, hl⟩ := h
  exact (prgUpdate p.prg (by decide) p.tab hok hL r op hop).mono fun e w' ⟨h1, K', col', h2, h3⟩ => ⟨h1, _, _, _, _, _, p.byPrg h3.out h2.out (len_update _ _ _) (hi.update hok r op).2, hl⟩
theorem Tells.same {c c' : Clu} (h : Tells c D) (hl : c'.reps.length = c.reps.length) (ho : ∀ q, (c'.rep q).down = (c.rep q).down) : Tells c' D := fun q hq => by
  rw [ho q]; exact h q (by omega)

end
end Go.Proofs.YtahdlejgjcjeoabGreatDoor

namespace Go.Proofs.YtahdlejgjcjeoabGreatDoor

theorem told_snoc {A T T' : List At} {a : At} (hT : IsTold A T) (hT' : IsTold (A ++ [a]) T') (hm : ∀ x ∈ A ++ [a], mayB x = true) (hd : ∀ y ∈ A, plc y a = 0 → grd y a ≤ 0) (x : At) : x ∈ T' ↔ x = a ∨ (x ∈ T ∧ plc x a ≠ 0) := by
  have haa : a ∈ A ++ [a] := by simp
  have one : ∀ x, x ∈ T' → plc x a = 0 → x = a := by
    intro x hx hp
    obtain ⟨h1, h2⟩ := hT'.great x hx
    rcases List.mem_append.1 h1 with h1 | h1
    · exact same_of2 (hm x (List.mem_append_left _ h1)) (hm a haa) hp (hd x h1 hp) (h2 a haa (plc_symm hp))
    · simpa using h1
  have two : ∀ x, x ∈ T' → plc x a ≠ 0 → x ∈ T := by
    intro x hx hp
    obtain ⟨h1, h2⟩ := hT'.great x hx
    have hxA : x ∈ A := by
      rcases List.mem_append.1 h1 with h1 | h1
      · exact h1
      · exact absurd (by rw [show x = a by simpa using h1]; exact plc_tp.refl a) hp
    obtain ⟨y, hy, hxy⟩ := hT.all x hxA
    obtain ⟨k1, k2⟩ := hT.great y hy
    have := same_of2 (hm x h1) (hm y (List.mem_append_left _ k1)) hxy (k2 x hxA hxy) (h2 y (List.mem_append_left _ k1) (plc_symm hxy))
    rw [this]; exact hy
  constructor
  · intro hx
    by_cases hp : plc x a = 0
    · exact .inl (one x hx hp)
    · exact .inr ⟨two x hx hp, hp⟩
  · rintro (rfl | ⟨hx, hp⟩)
    · obtain ⟨y, hy, hxy⟩ := hT'.all x haa
      rw [← one y hy (plc_symm hxy)]; exact hy
    · obtain ⟨k1, k2⟩ := hT.great x hx
      obtain ⟨y, hy, hxy⟩ := hT'.all x (List.mem_append_left _ k1)
      have hyT := two y hy (fun e => hp (plc_zero_trans hxy e))
      obtain ⟨j1, j2⟩ := hT.great y hyT
      have := same_of2 (hm x (List.mem_append_left _ k1)) (hm y (List.mem_append_left _ j1)) hxy (j2 x k1 hxy) (k2 y j1 (plc_symm hxy))
      rw [this]; exact hy
theorem told_nodup {A T : List At} (h : IsTold A T) : T.Nodup := ne_nodup (h.sorted.imp fun {x y} h => by omega)
theorem told_perm {A T T' : List At} {a : At} (hT : IsTold A T) (hT' : IsTold (A ++ [a]) T') (hm : ∀ x ∈ A ++ [a], mayB x = true) (hd : ∀ y ∈ A, plc y a = 0 → grd y a ≤ 0) : T'.Perm (T.filter (fun y => !decide (plc y a = 0)) ++ [a]) := by
  refine (List.perm_ext_iff_of_nodup (told_nodup hT') ?_).2 fun x => ?_
  · rw [List.nodup_append]
    refine ⟨(told_nodup hT).filter _, by simp, fun x hx y hy e => ?_⟩
    obtain rfl : y = a := by simpa using hy
    subst e
    have := (List.mem_filter.1 hx).2
    simp [plc_tp.refl] at this
  · rw [told_snoc hT hT' hm hd x, List.mem_append, List.mem_filter]
    simp
    constructor
    · rintro (h | h)
      · exact .inr h
      · exact .inl h
    · rintro (h | h)
      · exact .inr h
      · exact .inl h
theorem sum_perm {f : At → Int} {a b : List At} (h : a.Perm b) : (a.map f).sum = (b.map f).sum := by
  induction h with
  | nil => rfl
  | cons x _ ih => simp only [List.map_cons, List.sum_cons] at *; rw [ih]
  | swap x y l => simp only [List.map_cons, List.sum_cons]; omega
  | trans _ _ h1 h2 => rw [h1, h2]
theorem may_n1 {y : At} (h : mayB y = true) (ht : y.ty = 1 ∨ y.ty = 2 ∨ y.ty = 5) : 1 ≤ y.n := by
  simp only [mayB, decide_eq_true_eq] at h
  omega
/-- The one of a slot in a told list. -/
theorem had_told {A T : List At} {a : At} (hT : IsTold A T) (hm : ∀ x ∈ A, mayB x = true) (ht : a.ty = 1 ∨ a.ty = 2 ∨ a.ty = 5) : (T.filter (fun y => decide (plc y a = 0)) = [] ∧ hadN A a = 0) ∨ ∃ y, T.filter (fun y => decide (plc y a = 0)) = [y] ∧ plc y a = 0 ∧ y ∈ T ∧ y.n = hadN A a := by
  obtain ⟨h1, _, h3⟩ := hadN_fold a A 0
  have key : ∀ y ∈ T, plc y a = 0 → T.filter (fun y => decide (plc y a = 0)) = [y] := by
    intro y hy hp
    have hperm : (T.filter (fun y => decide (plc y a = 0))).Perm [y] := by
      refine (List.perm_ext_iff_of_nodup ((told_nodup hT).filter _) (by simp)).2 fun x => ?_
      rw [List.mem_filter]
      simp
      constructor
      · rintro ⟨hx, hpx⟩
        obtain ⟨a1, a2⟩ := hT.great x hx
        obtain ⟨b1, b2⟩ := hT.great y hy
        have hxy := plc_zero_trans hpx (plc_symm hp)
        exact same_of2 (hm x a1) (hm y b1) hxy (b2 x a1 hxy) (a2 y b1 (plc_symm hxy))
      · rintro rfl; exact ⟨hy, hp⟩
    exact List.perm_singleton.1 hperm
  by_cases he : ∃ y ∈ T, plc y a = 0
  · obtain ⟨y, hy, hp⟩ := he
    refine .inr ⟨y, key y hy hp, hp, hy, ?_⟩
    obtain ⟨b1, b2⟩ := hT.great y hy
    have hle : y.n ≤ hadN A a := h1 y b1 hp
    have hge : 1 ≤ y.n := may_n1 (hm y b1) (by rw [plc_ty hp]; exact ht)
    rcases h3 with h3 | ⟨x, hx, hpx, h3⟩
    · have : hadN A a = 0 := h3
      omega
    · have h3' : hadN A a = x.n := h3
      have := grd_n (b2 x hx (plc_zero_trans hpx (plc_symm hp)))
      omega
  · refine .inl ⟨?_, ?_⟩
    · rw [List.filter_eq_nil_iff]
      intro y hy
      simp
      exact fun hp => he ⟨y, hy, hp⟩
    · rcases h3 with h3 | ⟨x, hx, hpx, _⟩
      · exact h3
      · obtain ⟨y, hy, hxy⟩ := hT.all x hx
        exact absurd ⟨y, hy, plc_zero_trans (plc_symm hxy) hpx⟩ he
theorem had_over {A : List At} {a : At} (h : hadN A a < a.n) : ∀ y ∈ A, plc y a = 0 → grd y a ≤ 0 := fun y hy hp => by
  have h1 : y.n ≤ hadN A a := (hadN_fold a A 0).1 y hy hp
  unfold grd sgn
  rw [if_pos (by omega), if_pos (by omega)]
  omega
theorem ofKey_app (l m : List At) (kind : Int) (key : ByteArray) : ofKey (l ++ m) kind key = ofKey l kind key ++ ofKey m kind key := List.filter_append ..
theorem ofKey_perm {l m : List At} (h : l.Perm m) (kind : Int) (key : ByteArray) : (ofKey l kind key).Perm (ofKey m kind key) := h.filter _
theorem val_sum {A T T' : List At} {a : At} (hT : IsTold A T) (hT' : IsTold (A ++ [a]) T') (hm : ∀ x ∈ A ++ [a], mayB x = true) (ht : a.ty = 1 ∨ a.ty = 2) (hlt : hadN A a < a.n) : valN a.ty a.key T' = valN a.ty a.key T + (a.n - hadN A a) * (1 - 2 * a.side) := by
  have h1 := told_perm hT hT' hm (had_over hlt)
  have h2 : (T.filter (fun y => !decide (plc y a = 0)) ++ T.filter (fun y => decide (plc y a = 0))).Perm T := List.perm_append_comm.trans (List.filter_append_perm _ _)
  unfold valN
  rw [if_pos ht, if_pos ht]
  have e1 := sum_perm (f := fun a => a.n * (1 - 2 * a.side)) (ofKey_perm h1 a.ty a.key)
  have e2 := sum_perm (f := fun a => a.n * (1 - 2 * a.side)) (ofKey_perm h2 a.ty a.key)
  have e3 : ofKey [a] a.ty a.key = [a] := by simp [ofKey]
  rw [ofKey_app, List.map_append, List.sum_append, e3] at e1
  rw [ofKey_app, List.map_append, List.sum_append] at e2
  rw [e1, ← e2]
  have e4 : ((ofKey (T.filter (fun y => decide (plc y a = 0))) a.ty a.key).map fun a => a.n * (1 - 2 * a.side)).sum = hadN A a * (1 - 2 * a.side) := by
    rcases had_told (a := a) hT (fun x hx => hm x (List.mem_append_left _ hx)) (by omega) with ⟨k1, k2⟩ | ⟨y, k1, k2, k3, k4⟩
    · rw [k1, k2]; simp [ofKey]
    · rw [k1]
      obtain ⟨z1, z2, z3⟩ := (plc_zero_iff y a).1 k2
      have z4 : y.side = a.side := by
        rcases z3 with z3 | z3
        · omega
        · exact z3.1
      simp [ofKey, z1, z2, z4, k4]
  rw [e4, Int.sub_mul]
  simp
  omega
theorem val_last {A T T' : List At} {a : At} (hT : IsTold A T) (hT' : IsTold (A ++ [a]) T') (hm : ∀ x ∈ A ++ [a], mayB x = true) (ht : a.ty = 5) (hlt : hadN A a < a.n) : valN 5 a.key T' = a.n ∧ valN 5 a.key T = hadN A a ∧ valE T' 5 a.key T' = [a.elem] := by
  have hk : ∀ x : At, decide (x.ty = 5 ∧ x.key = a.key) = decide (plc x a = 0) := fun x => by
    rw [Bool.eq_iff_iff, decide_eq_true_eq, decide_eq_true_eq, plc_zero_iff, ht]
    constructor
    · rintro ⟨k1, k2⟩; exact ⟨k1, k2, .inl k1⟩
    · rintro ⟨k1, k2, _⟩; exact ⟨k1, k2⟩
  have hk' : ∀ L : List At, ofKey L 5 a.key = L.filter (fun y => decide (plc y a = 0)) := fun L => by
    unfold ofKey
    exact List.filter_congr fun x _ => hk x
  have e1 : ofKey T' 5 a.key = [a] := by
    rw [hk']
    refine List.perm_singleton.1 ((List.perm_ext_iff_of_nodup ((told_nodup hT').filter _) (by simp)).2 fun x => ?_)
    rw [List.mem_filter, told_snoc hT hT' hm (had_over hlt) x]
    simp
    constructor
    · rintro ⟨h1 | ⟨_, h1⟩, h2⟩
      · exact h1
      · exact absurd h2 h1
    · rintro rfl; exact ⟨.inl rfl, plc_tp.refl x⟩
  refine ⟨?_, ?_, ?_⟩
  · unfold valN
    rw [e1, if_neg (by omega), if_pos rfl]
    rfl
  · unfold valN
    rw [hk', if_neg (by omega), if_pos rfl]
    rcases had_told (a := a) hT (fun x hx => hm x (List.mem_append_left _ hx)) (by omega) with ⟨k1, k2⟩ | ⟨y, k1, k2, k3, k4⟩
    · rw [k1, k2]; rfl
    · rw [k1, ← k4]; rfl
  · unfold valE
    rw [e1]
    simp [keepsE]
theorem set_over {A : List At} {a : At} (hm : ∀ x ∈ A ++ [a], mayB x = true) (ht : a.ty = 3 ∨ a.ty = 4) : ∀ y ∈ A, plc y a = 0 → grd y a ≤ 0 := fun y hy hp => by
  have h1 := hm y (List.mem_append_left _ hy)
  have h2 := hm a (by simp)
  have h3 := plc_ty hp
  simp only [mayB, decide_eq_true_eq] at h1 h2
  unfold grd
  rw [if_neg (by omega), if_pos (by omega)]
  exact Int.le_refl _
theorem val_grow {A T' : List At} {a : At} (hT' : IsTold (A ++ [a]) T') (hm : ∀ x ∈ A ++ [a], mayB x = true) (ht : a.ty = 3) : a.elem ∈ valE T' 3 a.key T' := by
  have ha : a ∈ T' := (told_snoc (tell_told A) hT' hm (set_over hm (.inl ht)) a).2 (.inl rfl)
  unfold valE
  refine List.mem_map.2 ⟨a, List.mem_filter.2 ⟨mem_ofKey.2 ⟨ha, ht, rfl⟩, ?_⟩, rfl⟩
  simp [keepsE]
theorem val_two {A T' : List At} {a : At} (hT' : IsTold (A ++ [a]) T') (hm : ∀ x ∈ A ++ [a], mayB x = true) (ht : a.ty = 4) (hs : a.side = 1) : a.elem ∉ valE T' 4 a.key T' := by
  have ha : a ∈ T' := (told_snoc (tell_told A) hT' hm (set_over hm (.inr ht)) a).2 (.inl rfl)
  intro h
  obtain ⟨b, hb, he⟩ := List.mem_map.1 h
  have hk := (List.mem_filter.1 hb).2
  have hg : isGone T' a.key b.elem = true := by
    unfold isGone
    rw [List.any_eq_true]
    exact ⟨a, ha, by simp [ht, hs, he]⟩
  simp [keepsE, hg] at hk

/-- P16: what an operation makes of a value. -/
structure Counts (o : OpV) (n : Int) (es : List ByteArray) (n' : Int) (es' : List ByteArray) : Prop where
  num : o.ty = 1 ∨ o.ty = 2 → n' = n + o.n ∧ es' = []
  grow : o.ty = 3 → o.elem ∈ es'
  two : o.ty = 4 → o.side = 1 → o.elem ∉ es'
  last : o.ty = 5 → es' = [o.elem] ∧ n' = n + 1
theorem counts_of {A : List At} {r : Nat} {o : OpV} (hf : fineOp o = true) (hm : ∀ x ∈ A ++ [opAtom A r o], mayB x = true) : Counts o (valN o.ty o.key (tell A)) (valE (tell A) o.ty o.key (tell A)) (valN o.ty o.key (tell (A ++ [opAtom A r o]))) (valE (tell (A ++ [opAtom A r o])) o.ty o.key (tell (A ++ [opAtom A r o]))) := by
  have hT := tell_told A
  have hT' := tell_told (A ++ [opAtom A r o])
  have hmT : ∀ a ∈ tell (A ++ [opAtom A r o]), mayB a = true := fun a ha => hm a (hT'.great a ha).1
  simp only [fineOp, decide_eq_true_eq] at hf
  obtain ⟨_, _, _, _, _, hf⟩ := hf
  generalize ha : opAtom A r o = a at *
  unfold opAtom at ha
  have hp : ∀ (t : Int) (s : Int) (w : Int) (n : Int), hadN A ⟨t, o.key, s, w, o.elem, n⟩ = hadN A ⟨t, o.key, s, w, o.elem, 0⟩ := fun t s w n => by
    unfold hadN
    rfl
  refine ⟨fun h => ⟨?_, (total_val hmT h).2⟩, fun h => ?_, fun h hs => ?_, fun h => ?_⟩
  · by_cases h1 : o.ty = 1
    · rw [if_pos h1] at ha
      have hat : a.ty = 1 := by rw [← ha]
      have hk : a.key = o.key := by rw [← ha]
      have hsd : a.side = 0 := by rw [← ha]
      have hn : a.n = hadN A a + o.n := by rw [← ha]; simp only [hp]
      have := val_sum hT hT' hm (.inl hat) (by omega)
      rw [hat, hk, hsd, hn] at this
      rw [h1, this]
      omega
    · have h2 : o.ty = 2 := by omega
      rw [if_neg h1, if_pos h2] at ha
      have hat : a.ty = 2 := by rw [← ha]; split <;> rfl
      have hk : a.key = o.key := by rw [← ha]; split <;> rfl
      by_cases hneg : o.n < 0
      · rw [if_pos hneg] at ha
        have hsd : a.side = 1 := by rw [← ha]
        have hn : a.n = hadN A a + -o.n := by rw [← ha]; simp only [hp]
        have := val_sum hT hT' hm (.inr hat) (by omega)
        rw [hat, hk, hsd, hn] at this
        rw [h2, this]
        omega
      · rw [if_neg hneg] at ha
        have hsd : a.side = 0 := by rw [← ha]; simp only; omega
        have hn : a.n = hadN A a + o.n := by rw [← ha]; simp only [hp]
        have := val_sum hT hT' hm (.inr hat) (by omega)
        rw [hat, hk, hsd, hn] at this
        rw [h2, this]
        omega
  · rw [if_neg (by omega), if_neg (by omega), if_neg (by omega)] at ha
    have := val_grow hT' hm (by rw [← ha]; exact h)
    rw [show a.key = o.key by rw [← ha], show a.elem = o.elem by rw [← ha]] at this
    rw [h]
    exact this
  · rw [if_neg (by omega), if_neg (by omega), if_neg (by omega)] at ha
    have := val_two hT' hm (by rw [← ha]; exact h) (by rw [← ha]; exact hs)
    rw [show a.key = o.key by rw [← ha], show a.elem = o.elem by rw [← ha]] at this
    rw [h]
    exact this
  · rw [if_neg (by omega), if_neg (by omega), if_pos h] at ha
    have hn : a.n = hadN A a + 1 := by rw [← ha]; simp only [hp]
    have := val_last hT hT' hm (by rw [← ha]) (by omega)
    rw [show a.key = o.key by rw [← ha], show a.elem = o.elem by rw [← ha]] at this
    rw [h]
    exact ⟨this.2.2, by rw [this.1, this.2.1]; exact hn⟩
end Go.Proofs.YtahdlejgjcjeoabGreatDoor

namespace Go.Proofs.YtahdlejgjcjeoabGreatDoor
open Go.RowKit

/-- A slice of these texts. -/
def StrsOf (w : World) (v : Value) (l : List ByteArray) : Prop :=
  ∃ ad cap, v = .slice ad l.length cap ∧ (0 < l.length → ∃ b off, ad = some ⟨b, off, none⟩ ∧ b < w.heap.size ∧ ∀ i (h : i < l.length), w.cell? ⟨b, off + i, none⟩ = some (.string l[i]))
set_option maxRecDepth 100000 in
set_option maxHeartbeats 1000000 in
theorem sameValues_any (n : Int) (v1 v2 : Value) (l : List ByteArray) (w : World) (h1 : StrsOf w v1 l) (h2 : StrsOf w v2 l) (hlen : l.length ≤ 281474976710656) :
    Calls Tryz.prog 58 #[.agg #[.int .i64 n, v1], .agg #[.int .i64 n, v2]] w fun e w' => e = .returned (.bool true) ∧ Below w.heap.size w w' := by
  obtain ⟨ad1, cap1, rfl, H1⟩ := h1
  obtain ⟨ad2, cap2, rfl, H2⟩ := h2
  have HR1 : Hid (0 < l.length → ∃ b off, ad1 = some ⟨b, off, none⟩ ∧ b < w.heap.size ∧ ∀ i (h : i < l.length), w.cell? ⟨b, off + i, none⟩ = some (.string l[i])) := H1
  have HR2 : Hid (0 < l.length → ∃ b off, ad2 = some ⟨b, off, none⟩ ∧ b < w.heap.size ∧ ∀ i (h : i < l.length), w.cell? ⟨b, off + i, none⟩ = some (.string l[i])) := H2
  clear H1 H2
  go_enter Tryz.func58, Tryz.ntmps58
  go_wp2
  have hb0 := below_alloc (below_alloc (Below.refl _ w) (.cells #[.int .i64 n, .slice ad1 l.length cap1] 129)) (.cells #[.int .i64 n, .slice ad2 l.length cap2] 129)
  have k1 : ((w.alloc (.cells #[.int .i64 n, .slice ad1 l.length cap1] 129)).alloc (.cells #[.int .i64 n, .slice ad2 l.length cap2] 129)).cell? ⟨w.heap.size, 1, none⟩ = some (.slice ad1 l.length cap1) := by simp
  have k2 : ((w.alloc (.cells #[.int .i64 n, .slice ad1 l.length cap1] 129)).alloc (.cells #[.int .i64 n, .slice ad2 l.length cap2] 129)).cell? ⟨w.heap.size + 1, 1, none⟩ = some (.slice ad2 l.length cap2) := by simp
  have hz : ((w.alloc (.cells #[.int .i64 n, .slice ad1 l.length cap1] 129)).alloc (.cells #[.int .i64 n, .slice ad2 l.length cap2] 129)).heap.size = w.heap.size + 1 + 1 := by simp
  generalize (w.alloc (.cells #[.int .i64 n, .slice ad1 l.length cap1] 129)).alloc (.cells #[.int .i64 n, .slice ad2 l.length cap2] 129) = w0 at *
  have HK1 : Hid (w0.cell? ⟨w.heap.size, 1, none⟩ = some (.slice ad1 l.length cap1)) := k1
  have HK2 : Hid (w0.cell? ⟨w.heap.size + 1, 1, none⟩ = some (.slice ad2 l.length cap2)) := k2
  clear k1 k2
  go_loopw [5] (fun j wr => ∃ k : Nat, k ≤ l.length ∧ j = .int .i64 k ∧ Below w0.heap.size w0 wr) (fun j _ => l.length - (intOf j).toNat)
  case atStart => exact ⟨0, Nat.zero_le _, rfl, Below.refl _ _⟩
  case round =>
    obtain ⟨k, hk, rfl, hbw⟩ := hrel
    have k1 : wr.cell? ⟨w.heap.size, 1, none⟩ = some (.slice ad1 l.length cap1) := by rw [hbw.cell (p := ⟨w.heap.size, 1, none⟩) (by simp only; omega)]; exact HK1.out
    have k2 : wr.cell? ⟨w.heap.size + 1, 1, none⟩ = some (.slice ad2 l.length cap2) := by rw [hbw.cell (p := ⟨w.heap.size + 1, 1, none⟩) (by simp only; omega)]; exact HK2.out
    have hbb : Below w.heap.size w wr := hb0.trans (hbw.mono hb0.size)
    by_cases hl : k < l.length
    · obtain ⟨b1, off1, rfl, hb1, hrow1⟩ := HR1.out (by omega)
      obtain ⟨b2, off2, rfl, hb2, hrow2⟩ := HR2.out (by omega)
      have c0 : wr.cell? ⟨b1, off1 + k, none⟩ = some (.string l[k]) := by rw [hbb.cell (p := ⟨b1, off1 + k, none⟩) hb1]; exact hrow1 k hl
      have d0 : wr.cell? ⟨b2, off2 + k, none⟩ = some (.string l[k]) := by rw [hbb.cell (p := ⟨b2, off2 + k, none⟩) hb2]; exact hrow2 k hl
      clear hrow1 hrow2 HR1 HR2 HK1 HK2
      generalize l[k] = x at *
      have q1 : (0 : Int) ≤ (k : Int) := by omega
      have q2 : (k : Int) < (l.length : Int) := by omega
      go_wp2
      go_quiet (fail)
      go_wp2
      exact ⟨⟨k + 1, by omega, by go_num, below_drewN hbw _⟩, by simp [intOf]; omega⟩
    · go_wp2
      go_ret
      exact ⟨rfl, hbb⟩
end Go.Proofs.YtahdlejgjcjeoabGreatDoor
