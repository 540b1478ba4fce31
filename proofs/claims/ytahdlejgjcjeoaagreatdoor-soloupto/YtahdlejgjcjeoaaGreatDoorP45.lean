/- Walk of the laws plays and Solo: a script without sendings. -/
import Derived.Test.YtahdlejgjcjeoaaGreatDoorP43
import Derived.Test.YtahdlejgjcjeoaaGreatDoorP44
import Derived.Test.YtahdlejgjcjeoaaGreatDoorP38
namespace Go.Proofs.YtahdlejgjcjeoaaGreatDoor
open Go.RowKit

def MadeG (w : World) (e : Ending) (w' : World) : Prop :=
  Below w.heap.size w w' ∧ (e = .returned (.tuple #[.pointer none, .bool true]) ∨ ∃ W x y B c, e = .returned (.tuple #[.pointer (some ⟨W, 0, none⟩), .bool true]) ∧ Gm w w' W x y B 0 c ∧ c.ok [] 0 ∧ c.net = [])
theorem newOk_sizes {reps room : Int} {es : List (Int × Int)} (h : newOk reps room es = true) : 1 ≤ reps.toNat ∧ reps.toNat ≤ 6 ∧ 0 ≤ room ∧ 1 ≤ room.toNat ∧ room.toNat ≤ 8 := by
  unfold newOk at h
  simp only [Bool.and_eq_true, decide_eq_true_eq] at h
  omega
/-- The world in which the law's own struct is made. -/
theorem made_gm {w w2 w4 w5 wr : World} {room : Int} {n : Nat} {bp rr : Bool} {f : Nat → Nat → Bool} {c' : Col} {K : RefC} {x y R : Nat} (hr : RulesAt w) (hs : StepsAt w) (hb : Below w.heap.size w wr) (hc0 : ∀ q, q < w.heap.size → c' q = (0, 0)) (hra : RefAt w2 c' 1 y K (clu0 room.toNat bp rr n f)) (hb24 : Below w2.heap.size w2 w4) (h4 : w2.heap.size < w4.heap.size) (hQ : FillQ w4 w5 x R n n bp rr room f) (hroom : 0 ≤ room) (hfr : Fr (fun q => q = w2.heap.size) w5 wr) (h2 : w.heap.size ≤ w2.heap.size) :
    Gm w ((wr.alloc (.cells #[.slice none 0 0, .slice none 0 0, .slice none 0 0, .slice none 0 0] 70)).alloc (.cells #[.pointer (some ⟨x, 0, none⟩), .pointer (some ⟨y, 0, none⟩), .pointer (some ⟨wr.heap.size, 0, none⟩)] 48)) (wr.heap.size + 1) x y wr.heap.size 0 (clu0 room.toNat bp rr n f) := by
  have hbF := below_alloc (below_alloc (Below.refl _ wr) (.cells #[.slice none 0 0, .slice none 0 0, .slice none 0 0, .slice none 0 0] 70)) (.cells #[.pointer (some ⟨x, 0, none⟩), .pointer (some ⟨y, 0, none⟩), .pointer (some ⟨wr.heap.size, 0, none⟩)] 48)
  have hbk := (bk_new wr).below (below_alloc (Below.refl _ _) (.cells #[.pointer (some ⟨x, 0, none⟩), .pointer (some ⟨y, 0, none⟩), .pointer (some ⟨wr.heap.size, 0, none⟩)] 48))
  have hwb := (two_blocks wr (.cells #[.slice none 0 0, .slice none 0 0, .slice none 0 0, .slice none 0 0] 70) (.cells #[.pointer (some ⟨x, 0, none⟩), .pointer (some ⟨y, 0, none⟩), .pointer (some ⟨wr.heap.size, 0, none⟩)] 48)).1
  generalize (wr.alloc (.cells #[.slice none 0 0, .slice none 0 0, .slice none 0 0, .slice none 0 0] 70)).alloc (.cells #[.pointer (some ⟨x, 0, none⟩), .pointer (some ⟨y, 0, none⟩), .pointer (some ⟨wr.heap.size, 0, none⟩)] 48) = wF at *
  have hs5 := hQ.bel.size
  have hsr := hfr.size
  have f24 : FrC (fun _ => False) c' (paint c' w2.heap.size (4, 0)) w2 w4 := ⟨(Fr.refl _ w2).below hb24, fun q hq => paint_old c' _ hq⟩
  obtain ⟨KP, c5, hp5, hf5⟩ := hQ.prgAt hroom (paint c' w2.heap.size (4, 0)) 2
  have ce : c5 w2.heap.size = (4, 0) := by rw [(hf5 (fun _ => False)).col _ h4]; exact paint_new c' _ (Nat.le_refl _)
  have f5r : FrC (ofOwner 4) c5 c5 w5 wr := ⟨hfr.mono fun q _ (e : q = w2.heap.size) => by subst e; show (c5 w2.heap.size).1 = 4; rw [ce], fun _ _ => rfl⟩
  have frF : FrC (fun _ => False) c5 (paint (paint c5 wr.heap.size (3, 0)) (wr.heap.size + 1) (4, 0)) wr wF := ⟨(Fr.refl _ wr).below hbF, fun q hq => by rw [paint_old _ _ (by omega), paint_old _ _ hq]⟩
  have cB : paint (paint c5 wr.heap.size (3, 0)) (wr.heap.size + 1) (4, 0) wr.heap.size = (3, 0) := by rw [paint_old _ _ (by omega), paint_new _ _ (Nat.le_refl _)]
  have cW : paint (paint c5 wr.heap.size (3, 0)) (wr.heap.size + 1) (4, 0) (wr.heap.size + 1) = (4, 0) := paint_new _ _ (Nat.le_refl _)
  have cO : ∀ q, q < w.heap.size → paint (paint c5 wr.heap.size (3, 0)) (wr.heap.size + 1) (4, 0) q = (0, 0) := fun q hq => by
    rw [frF.col q (by omega), (hf5 (fun _ => False)).col q (by omega), paint_old _ _ (by omega), hc0 q hq]
  have hn : ∀ κ : Nat × Nat, κ.1 ≠ 4 → ¬ ofOwner 4 κ := fun κ e e' => e e'
  have href := (((hra.kept f24 (fun _ => id)).kept (hf5 (fun _ => False)) (fun _ => id)).kept f5r (fun k => hn _ (by show (1 : Nat) ≠ 4; decide))).kept frF (fun _ => id)
  have hprg := (hp5.kept f5r (fun k => hn _ (by show (2 : Nat) ≠ 4; decide))).kept frF (fun _ => id)
  have hbw : Below w.heap.size w wF := hb.trans (hbF.mono hb.size)
  refine ⟨_, K, KP, ⟨hbw, fun q hq => by rw [cO q hq]⟩, ⟨hr.block (hbw.block 0 hr.1) hbw.size, hs.block (hbw.block 1 hs.1) hbw.size, cO 0 hr.1, cO 1 hs.1⟩, href, hprg, hwb, by rw [cW], _, _, hbk, fun f _ => Nat.le_refl _, by rw [cB], fun f _ q hq => (by cases hq), fun f _ p hp => (by cases hp)⟩

set_option maxRecDepth 100000 in
set_option maxHeartbeats 4000000 in
theorem made_game (v : Value) (es : List (Int × Int)) (reps room : Int) (bp rr : Bool) (w : World) (hr : RulesAt w) (hst : StepsAt w) (hv : EdgesOf w v es) (hlen : es.length ≤ 1048576) :
    Calls Tryz.prog 12 #[.agg #[.int .i64 reps, v, .bool bp, .bool rr, .int .i64 room]] w (MadeG w) := by
  have HE := Hid.mk hv
  have HR := Hid.mk hr
  have HS := Hid.mk hst
  obtain ⟨ad, cap, rfl, -⟩ := hv
  clear hr hst
  have HRN : Hid (∀ W, Below w.heap.size w W → Calls Tryz.prog 23 #[.agg #[.int .i64 reps, .slice ad es.length cap, .bool bp, .bool rr, .int .i64 room]] W fun e w' => Below W.heap.size W w' ∧ ((newOk reps room es = false ∧ e = .returned (.tuple #[.pointer none, .int .i64 4])) ∨ (newOk reps room es = true ∧ ∃ y K f col', e = .returned (.tuple #[.pointer (some ⟨y, 0, none⟩), .int .i64 0]) ∧ RefAt w' col' 1 y K (clu0 room.toNat bp rr reps.toNat f) ∧ FrC (fun _ => False) (fun _ => (0, 0)) col' W w' ∧ linkAll reps.toNat noE es = some f))) := fun W hW => refNew _ es reps room bp rr W (fun _ => (0, 0)) 1 (HE.out.below hW) hlen (fun q _ => by decide)
  have hmk : ∀ W : World, (Instr.makeSlice 22 (.int .i64 ((es.length : Int) + 1)) (.int .i64 ((es.length : Int) + 1))).run Tryz.prog W = .ok (.slice (some ⟨W.heap.size, 0, none⟩) (es.length + 1) (es.length + 1)) (W.alloc (.cells ((List.replicate (es.length + 1) ((0 : Int), (0 : Int))).flatMap edC).toArray 53)) := fun W => make_edges (es.length + 1) (by omega) W
  have hq0 := heap_alloc_new w (.cells #[.int .i64 reps, .slice ad es.length cap, .bool bp, .bool rr, .int .i64 room] 24)
  go_enter Tryz.func12, Tryz.ntmps12
  go_wp2_with fail
  refine (HRN.out _ (below_alloc (Below.refl _ _) _)).mono ?_
  rintro e w2 ⟨hb2, hcase⟩
  have hbw2 := (below_alloc (Below.refl _ w) (.cells #[.int .i64 reps, .slice ad es.length cap, .bool bp, .bool rr, .int .i64 room] 24)).trans (hb2.mono (by simp))
  have hq2 := (hb2.block _ (by simp)).trans hq0
  have hql : w.heap.size < w2.heap.size := blk_lt hq2
  have HQ2 := Hid.mk hq2
  have HB2 := Hid.mk hbw2
  clear hq0 HRN hb2 hq2 hbw2
  obtain ⟨p, f', rfl, HC⟩ : ∃ (p : Option Addr) (f' : Int), e = .returned (.tuple #[.pointer p, .int .i64 f']) ∧ Hid ((newOk reps room es = false ∧ p = none ∧ f' = 4) ∨ (newOk reps room es = true ∧ f' = 0 ∧ ∃ y K f col', p = some ⟨y, 0, none⟩ ∧ RefAt w2 col' 1 y K (clu0 room.toNat bp rr reps.toNat f) ∧ linkAll reps.toNat noE es = some f ∧ ∀ q, q < w.heap.size → col' q = (0, 0))) := by
    rcases hcase with ⟨h1, rfl⟩ | ⟨h1, y, K, f, col', rfl, h2, h3, h4⟩
    · exact ⟨none, 4, rfl, .inl ⟨h1, rfl, rfl⟩⟩
    · exact ⟨_, 0, rfl, .inr ⟨h1, rfl, y, K, f, col', rfl, h2, h4, fun q hq => h3.col q (by simp; omega)⟩⟩
  clear hcase
  have k1 := blk_cell HQ2.out 1
  simp at k1
  have hin0 : InAt (w2.alloc (.cells ((List.replicate (es.length + 1) ((0 : Int), (0 : Int))).flatMap edC).toArray 53)) w2.heap.size (List.replicate (es.length + 1) (0, 0)) := heap_alloc_new w2 _
  have hed0 : EdgesOf (w2.alloc (.cells ((List.replicate (es.length + 1) ((0 : Int), (0 : Int))).flatMap edC).toArray 53)) (.slice ad es.length cap) es := HE.out.below (below_alloc HB2.out _)
  have HNQ := Hid.mk (show w.heap.size ≠ w2.heap.size by omega)
  have hne1 : ¬ w.heap.size = w2.heap.size := by omega
  have hne2 : ¬ w2.heap.size = w.heap.size := by omega
  have hn0 : (0 : Int) ≤ (es.length : Int) := by omega
  have hn1 : (es.length : Int) < (es.length : Int) + 1 := by omega
  go_wp2_with (refine wpList_copy_edges rfl _ _ 22 22 rfl Tryz.underlying22 sizeEdge w2.heap.size (es.length + 1) (es.length + 1) _ (by simp) rfl hin0 _ rfl es hed0 (by simp) ?_; intro w3 hin3 hg3; have kq3 := (hg3.block w.heap.size (by simp; omega) (fun e => HNQ.out (Option.some.inj e))).trans ((((Below.refl _ w2).alloc (Nat.le_refl _) _).block _ hql).trans HQ2.out); obtain ⟨i0, i1, ifz⟩ := hin3.cells es.length (by simp); have q0 : w3.cell? ⟨w.heap.size, 0, none⟩ = some (.int .i64 reps) := blk_cell kq3 0; have q1 : w3.cell? ⟨w.heap.size, 1, none⟩ = some (.slice ad es.length cap) := blk_cell kq3 1; have q2 : w3.cell? ⟨w.heap.size, 2, none⟩ = some (.bool bp) := blk_cell kq3 2; have q3 : w3.cell? ⟨w.heap.size, 3, none⟩ = some (.bool rr) := blk_cell kq3 3; have q4 : w3.cell? ⟨w.heap.size, 4, none⟩ = some (.int .i64 room) := blk_cell kq3 4)
  have hl3 : (es ++ (List.replicate (es.length + 1) ((0 : Int), (0 : Int))).drop es.length).length = es.length + 1 := by simp
  have HI4 := Hid.mk ((hin3.set es.length (by rw [hl3]; omega) (-9, 0)).below (below_alloc (Below.refl _ _) (.cells #[.int .i64 reps, .slice (some ⟨w2.heap.size, 0, none⟩) es.length (es.length + 1), .bool bp, .bool rr, .int .i64 room] 24)))
  have hg34 : w3.grownBy ((w3.setCell ⟨w2.heap.size, es.length * 2, none⟩ (.int .i64 (-9))).setCell ⟨w2.heap.size, es.length * 2 + 1, none⟩ (.int .i64 0)) (some w2.heap.size) := grown_trans (grown_setCell w3 ⟨w2.heap.size, es.length * 2, none⟩ (.int .i64 (-9))) (grown_setCell _ ⟨w2.heap.size, es.length * 2 + 1, none⟩ (.int .i64 0))
  have hb24 : Below w2.heap.size w2 (((w3.setCell ⟨w2.heap.size, es.length * 2, none⟩ (.int .i64 (-9))).setCell ⟨w2.heap.size, es.length * 2 + 1, none⟩ (.int .i64 0)).alloc (.cells #[.int .i64 reps, .slice (some ⟨w2.heap.size, 0, none⟩) es.length (es.length + 1), .bool bp, .bool rr, .int .i64 room] 24)) := by
    refine Below.alloc ((((Below.refl _ w2).alloc (Nat.le_refl _) _).grown hg3 (by simp) (fun k hk => by cases hk; exact Nat.le_refl _)).grown hg34 (Nat.le_trans (by simp) hg3.size) (fun k hk => by cases hk; exact Nat.le_refl _)) (Nat.le_trans (Nat.le_trans (by simp) hg3.size) hg34.size) _
  have hs4 : w2.heap.size < (((w3.setCell ⟨w2.heap.size, es.length * 2, none⟩ (.int .i64 (-9))).setCell ⟨w2.heap.size, es.length * 2 + 1, none⟩ (.int .i64 0)).alloc (.cells #[.int .i64 reps, .slice (some ⟨w2.heap.size, 0, none⟩) es.length (es.length + 1), .bool bp, .bool rr, .int .i64 room] 24)).heap.size := blk_lt HI4.out
  have hl4 : ((es ++ (List.replicate (es.length + 1) ((0 : Int), (0 : Int))).drop es.length).set es.length (-9, 0)) = es ++ [(-9, 0)] := by
    apply List.ext_getElem? 
    intro t
    rw [List.getElem?_set]
    by_cases ht : es.length = t
    · subst ht
      simp
    · rw [if_neg ht]
      by_cases h2 : t < es.length
      · rw [List.getElem?_append_left h2, List.getElem?_append_left h2]
      · rw [List.getElem?_eq_none (by rw [hl3]; omega), List.getElem?_eq_none (by simp; omega)]
  rw [hl4] at HI4
  have HED := Hid.mk (HI4.out.edges (es := es) (cap := es.length + 1) (by simp) (by simp) (by omega))
  have HB24 := Hid.mk hb24
  generalize ((w3.setCell ⟨w2.heap.size, es.length * 2, none⟩ (.int .i64 (-9))).setCell ⟨w2.heap.size, es.length * 2 + 1, none⟩ (.int .i64 0)).alloc (.cells #[.int .i64 reps, .slice (some ⟨w2.heap.size, 0, none⟩) es.length (es.length + 1), .bool bp, .bool rr, .int .i64 room] 24) = w4 at *
  clear hl3 hl4 hg34 hb24 hg3 hin3 kq3 q0 q1 q2 q3 q4 i0 i1 ifz hin0 hed0 hmk k1
  refine (prgNew2 _ es reps room bp rr w4 HED.out hlen).mono ?_
  rintro e w5 ⟨hb5, hcase⟩
  have HI5 := Hid.mk (HI4.out.below hb5)
  have HB25 := Hid.mk (HB24.out.trans (hb5.mono (Nat.le_of_lt hs4)))
  have hs5 := hb5.size
  have HQ5 := Hid.mk ((HB25.out.block _ hql).trans HQ2.out)
  clear hb5 HI4 HED
  obtain ⟨p2, f2, rfl, HC2⟩ : ∃ (p : Option Addr) (f' : Int), e = .returned (.tuple #[.pointer p, .int .i64 f']) ∧ Hid ((newOk reps room es = false ∧ p = none ∧ f' = 4) ∨ (newOk reps room es = true ∧ f' = 0 ∧ ∃ x R, p = some ⟨x, 0, none⟩ ∧ ∃ F, linkAll reps.toNat noE es = some F ∧ FillQ w4 w5 x R reps.toNat reps.toNat bp rr room F)) := by
    rcases hcase with ⟨h1, rfl⟩ | ⟨h1, x, R, rfl, h2⟩
    · exact ⟨none, 4, rfl, .inl ⟨h1, rfl, rfl⟩⟩
    · exact ⟨_, 0, rfl, .inr ⟨h1, rfl, x, R, rfl, h2⟩⟩
  clear hcase
  obtain ⟨i0, -, -⟩ := HI5.out.cells es.length (by simp)
  simp at i0
  have hpp : f2 = f' ∧ (p2.isNone = p.isNone) := by
    rcases HC.out with ⟨a1, rfl, rfl⟩ | ⟨a1, rfl, y, K, f, c', rfl, _, _⟩
    · rcases HC2.out with ⟨b1, rfl, rfl⟩ | ⟨b1, _⟩
      · exact ⟨rfl, rfl⟩
      · rw [a1] at b1; cases b1
    · rcases HC2.out with ⟨b1, _⟩ | ⟨b1, rfl, x, R, rfl, _⟩
      · rw [a1] at b1; cases b1
      · exact ⟨rfl, rfl⟩
  obtain ⟨rfl, hpn⟩ := hpp
  have hWa : Below w.heap.size w w5 := HB2.out.trans (HB25.out.mono (Nat.le_of_lt hql))
  have HEW : Hid (0 < es.length → ∃ b off, ad = some ⟨b, off, none⟩ ∧ b < w.heap.size ∧ ∀ i (h : i < es.length), w.cell? ⟨b, off + i * 2, none⟩ = some (.int .i64 es[i].1) ∧ w.cell? ⟨b, off + i * 2 + 1, none⟩ = some (.int .i64 es[i].2)) := by
    obtain ⟨ad', cap', hv', -, H⟩ := HE.out
    cases hv'
    exact H
  have HWA := Hid.mk hWa
  clear hWa
  go_wp2
  go_loopw [11] (fun s wr => ∃ (j : Nat) (l : List (Int × Int)), j ≤ es.length ∧ s = .int .i64 j ∧ Hid (InAt wr w2.heap.size l) ∧ Hid (l.length = es.length + 1 ∧ ∀ k (h : k < es.length), j ≤ k → l[k]? = some es[k]) ∧ Hid (Fr (fun q => q = w2.heap.size) w5 wr)) (fun s _ => es.length - (intOf s).toNat)
  case atStart => exact ⟨0, _, Nat.zero_le _, rfl, HI5, ⟨by simp, fun k h _ => by rw [List.getElem?_append_left h, List.getElem?_eq_getElem h]⟩, Fr.refl _ _⟩
  case round =>
    clear HI5 i0
    obtain ⟨j, l, hj, rfl, hin, hl, hfr⟩ := hrel
    have HBr : Hid (Below w2.heap.size w2 wr) := ⟨hfr.out.os.trans HB25.out.os, hfr.out.tape.trans HB25.out.tape, hfr.out.output.trans HB25.out.output, Nat.le_trans HB25.out.size hfr.out.size, fun k hk => (hfr.out.block k (Nat.lt_of_lt_of_le hk HB25.out.size) (by omega)).trans (HB25.out.block k hk)⟩
    by_cases hlt : j < es.length
    · obtain ⟨b, off, rfl, hb, hrow⟩ := HEW.out (by omega)
      obtain ⟨r0, r1⟩ := hrow j hlt
      have hbwr : Below w.heap.size w wr := HB2.out.trans (HBr.out.mono (Nat.le_of_lt hql))
      have c0 := (hbwr.cell (p := ⟨b, off + j * 2, none⟩) hb).trans r0
      have c1 := (hbwr.cell (p := ⟨b, off + j * 2 + 1, none⟩) hb).trans r1
      have hql2 : (wr.heap[w.heap.size]?) = some (.cells #[.int .i64 reps, .slice (some ⟨b, off, none⟩) es.length cap, .bool bp, .bool rr, .int .i64 room] 24 (0, 0)) := (HBr.out.block _ hql).trans HQ2.out
      have k1 := blk_cell hql2 1
      simp at k1
      have hjl : j < l.length := by rw [hl.out.1]; omega
      have hlj : l[j] = es[j] := by
        have := hl.out.2 j hlt (Nat.le_refl _)
        rw [List.getElem?_eq_getElem hjl] at this
        exact Option.some.inj this
      obtain ⟨d0, d1, df⟩ := hin.out.cells j hjl
      rw [hlj] at d0 d1
      generalize es[j].1 = ea at *
      generalize es[j].2 = eb at *
      have qa : (0 : Int) ≤ (j : Int) := by omega
      have qb : (j : Int) < (es.length : Int) := by omega
      have qc : (j : Int) < (es.length : Int) + 1 := by omega
      have hbl : b < wr.heap.size := Nat.lt_of_lt_of_le hb hbwr.size
      have hbg : b ≠ w2.heap.size := by omega
      have HJL := Hid.mk hjl
      clear hrow r0 r1 hbwr hql2 hlj HEW hjl
      go_wp2
      go_quiet (fail)
      obtain ⟨V, hV⟩ : ∃ V : World, V = wr.drewN nq := ⟨_, rfl⟩
      rw [← hV]
      have hbV : Below wr.heap.size wr V := by rw [hV]; exact below_drewN (Below.refl _ _) _
      clear hV
      have hinV := hin.out.below hbV
      have hfrV := hfr.out.below hbV
      have HSET := Hid.mk (hinV.set j HJL.out (-9, 0))
      obtain ⟨v0, v1, vf⟩ := hinV.cells j HJL.out
      have HLN : Hid ((l.set j (-9, 0)).length = es.length + 1 ∧ ∀ k (h : k < es.length), j + 1 ≤ k → (l.set j (-9, 0))[k]? = some es[k]) := ⟨by rw [List.length_set]; exact hl.out.1, fun k h hk => by rw [List.getElem?_set_ne (by omega)]; exact hl.out.2 k h (by omega)⟩
      have HFR : Hid (Fr (fun q => q = w2.heap.size) w5 ((V.setCell ⟨w2.heap.size, j * 2, none⟩ (.int .i64 (-9))).setCell ⟨w2.heap.size, j * 2 + 1, none⟩ (.int .i64 0))) := (hfrV.step (grown_setCell V ⟨w2.heap.size, j * 2, none⟩ (.int .i64 (-9))) (fun q hq => by cases hq; exact .inr rfl)).step (grown_setCell _ ⟨w2.heap.size, j * 2 + 1, none⟩ (.int .i64 0)) (fun q hq => by cases hq; exact .inr rfl)
      clear hin hfr hl hinV hfrV hbV d0 d1 df c0 c1 k1 HBr
      go_wp2
      exact ⟨⟨j + 1, _, by omega, by go_num, HSET, HLN, HFR⟩, by simp [intOf]; omega⟩
    · have qb : ¬ (j : Int) < (es.length : Int) := by omega
      have hbwr : Below w.heap.size w wr := HB2.out.trans (HBr.out.mono (Nat.le_of_lt hql))
      have HBW := Hid.mk hbwr
      clear hbwr
      cases hok : newOk reps room es
      · obtain ⟨rfl, rfl, rfl⟩ : p = none ∧ p2 = none ∧ f2 = 4 := by
          rcases HC.out with ⟨-, rfl, rfl⟩ | ⟨a1, _⟩
          · rcases HC2.out with ⟨-, rfl, -⟩ | ⟨b1, _⟩
            · exact ⟨rfl, rfl, rfl⟩
            · rw [hok] at b1; cases b1
          · rw [hok] at a1; cases a1
        clear hin hfr hl HC HC2
        go_wp2
        go_ret2
        exact ⟨HBW.out, .inl rfl⟩
      · obtain ⟨y, K, f, c', rfl, hra, hfl, hc0⟩ : ∃ y K f col', p = some ⟨y, 0, none⟩ ∧ RefAt w2 col' 1 y K (clu0 room.toNat bp rr reps.toNat f) ∧ linkAll reps.toNat noE es = some f ∧ ∀ q, q < w.heap.size → col' q = (0, 0) := by
          rcases HC.out with ⟨a1, _⟩ | ⟨-, -, h⟩
          · rw [hok] at a1; cases a1
          · exact h
        obtain ⟨x, R, rfl, F, hF, hQ⟩ : ∃ x R, p2 = some ⟨x, 0, none⟩ ∧ ∃ F, linkAll reps.toNat noE es = some F ∧ FillQ w4 w5 x R reps.toNat reps.toNat bp rr room F := by
          rcases HC2.out with ⟨a1, _⟩ | ⟨-, -, h⟩
          · rw [hok] at a1; cases a1
          · exact h
        obtain rfl : f = F := Option.some.inj (hfl.symm.trans hF)
        have HFIN := Hid.mk (made_gm HR.out HS.out HBW.out hc0 hra HB24.out hs4 hQ (newOk_sizes hok).2.2.1 hfr.out (Nat.le_of_lt hql))
        clear hin hfr hl HC HC2 hra hfl hc0 hF hQ
        go_wp2
        go_ret2
        exact ⟨below_alloc (below_alloc HBW.out _) _, .inr ⟨_, _, _, _, _, by rfl, HFIN.out, clu0_ok _ _ _ (newOk_sizes hok).1 (newOk_sizes hok).2.1 (newOk_sizes hok).2.2.2.1 (newOk_sizes hok).2.2.2.2, by rfl⟩⟩
end Go.Proofs.YtahdlejgjcjeoaaGreatDoor

namespace Go.Proofs.YtahdlejgjcjeoaaGreatDoor
open Go.RowKit
theorem ActV.cells_length (a : ActV) : a.cells.length = 10 := rfl
/-- A script, as it lies. -/
def ActsOf (w : World) (v : Value) (l : List ActV) : Prop :=
  ∃ ad cap, v = .slice ad l.length cap ∧ l.length ≤ cap ∧ (0 < l.length → ∃ b off, ad = some ⟨b, off, none⟩ ∧ b < w.heap.size ∧ ∀ i (h : i < l.length) j u, (l[i]).cells[j]? = some u → w.cell? ⟨b, off + i * 10 + j, none⟩ = some u)
theorem ActsOf.below {w w' : World} {v : Value} {l : List ActV} (h : ActsOf w v l) (hb : Below w.heap.size w w') : ActsOf w' v l := by
  obtain ⟨ad, cap, rfl, hc, H⟩ := h
  refine ⟨ad, cap, rfl, hc, fun h0 => ?_⟩
  obtain ⟨b, off, rfl, hlt, hrow⟩ := H h0
  exact ⟨b, off, rfl, Nat.lt_of_lt_of_le hlt hb.size, fun i hi j u hu => (hb.cell (p := ⟨b, _, none⟩) hlt).trans (hrow i hi j u hu)⟩
theorem ActsOf.nth {w : World} {v : Value} {l : List ActV} (h : ActsOf w v l) (i : Nat) (hi : i < l.length) : ∃ b off cap, v = .slice (some ⟨b, off, none⟩) l.length cap ∧ b < w.heap.size ∧
    w.cell? ⟨b, off + i * 10, none⟩ = some (.int .i64 l[i].k) ∧ w.cell? ⟨b, off + i * 10 + 1, none⟩ = some (.int .i64 l[i].r) ∧ w.cell? ⟨b, off + i * 10 + 2, none⟩ = some (.int .i64 l[i].q) ∧ w.cell? ⟨b, off + i * 10 + 3, none⟩ = some (.int .i64 l[i].n) ∧ w.cell? ⟨b, off + i * 10 + 4, none⟩ = some (.int .i64 l[i].op.ty) ∧ w.cell? ⟨b, off + i * 10 + 5, none⟩ = some (.string l[i].op.key) ∧ w.cell? ⟨b, off + i * 10 + 6, none⟩ = some (.int .i64 l[i].op.side) ∧ w.cell? ⟨b, off + i * 10 + 7, none⟩ = some (.string l[i].op.elem) ∧ w.cell? ⟨b, off + i * 10 + 8, none⟩ = some (.int .i64 l[i].op.n) ∧ w.cell? ⟨b, off + i * 10 + 9, none⟩ = some (.string l[i].key) := by
  obtain ⟨ad, cap, rfl, -, H⟩ := h
  obtain ⟨b, off, rfl, hlt, hrow⟩ := H (by omega)
  exact ⟨b, off, cap, rfl, hlt, hrow i hi 0 _ rfl, hrow i hi 1 _ rfl, hrow i hi 2 _ rfl, hrow i hi 3 _ rfl, hrow i hi 4 _ rfl, hrow i hi 5 _ rfl, hrow i hi 6 _ rfl, hrow i hi 7 _ rfl, hrow i hi 8 _ rfl, hrow i hi 9 _ rfl⟩

/-- Where a play stands after i acts. -/
structure PlayAt (Z w : World) (W x y B i : Nat) (c : Clu) : Prop where
  gm : Gm Z w W x y B (36 * i) c
  net : c.net = []
  ok : ∃ U, U.length ≤ i ∧ c.ok U i
theorem PlayAt.next {Z w w' : World} {W x y B i : Nat} {c : Clu} (h : PlayAt Z w W x y B i c) (a : ActV) (hg : Gm Z w' W x y B (36 * i + 36) (c.acted a)) : PlayAt Z w' W x y B (i + 1) (c.acted a) := by
  obtain ⟨U, hU, hok⟩ := h.ok
  obtain ⟨U', h1, -, h2⟩ := acted_grows a hok
  exact ⟨hg.mono (by omega), acted_net a h.net, U', by omega, h2⟩

set_option maxRecDepth 100000 in
set_option maxHeartbeats 4000000 in
theorem plays_game (v vs : Value) (es : List (Int × Int)) (l : List ActV) (reps room : Int) (bp rr : Bool) (w : World) (hr : RulesAt w) (hst : StepsAt w) (hv : EdgesOf w v es) (hlen : es.length ≤ 1048576) (hs : ActsOf w vs l) (hll : l.length ≤ 87381) (hfit : ∀ a ∈ l, a.fit ∧ a.k ≠ 6) :
    Calls Tryz.prog 7 #[.agg #[.int .i64 reps, v, .bool bp, .bool rr, .int .i64 room], vs] w fun e w' => e = .returned (.bool true) ∧ Below w.heap.size w w' := by
  have HR := Hid.mk hr
  have HST := Hid.mk hst
  have HV := Hid.mk hv
  have HS := Hid.mk hs
  have HF := Hid.mk hfit
  obtain ⟨ad, cap, rfl, -⟩ := hv
  obtain ⟨adS, capS, rfl, -⟩ := hs
  obtain ⟨n, HLN⟩ : ∃ n, Hid (l.length = n) := ⟨_, rfl⟩
  rw [HLN.out] at hll HS ⊢
  clear hr hst hfit
  have hb0 := below_alloc (Below.refl _ w) (.cells #[.int .i64 reps, .slice ad es.length cap, .bool bp, .bool rr, .int .i64 room] 24)
  have HB0 := Hid.mk hb0
  clear hb0
  go_enter Tryz.func7, Tryz.ntmps7
  go_wp2_with fail
  refine (made_game _ es reps room bp rr _ (HR.out.below HB0.out HR.out.1) (HST.out.block (HB0.out.block 1 HST.out.1) HB0.out.size) (HV.out.below HB0.out) hlen).mono ?_
  generalize w.alloc (.cells #[.int .i64 reps, .slice ad es.length cap, .bool bp, .bool rr, .int .i64 room] 24) = Z at *
  have HSZ := Hid.mk (HS.out.below HB0.out)
  rintro e w1 ⟨hb1, hcase⟩
  have HB := Hid.mk (HB0.out.trans (hb1.mono HB0.out.size))
  clear hb1 HS HV
  rcases hcase with rfl | ⟨W, x, y, B, c, rfl, hg, hok, hnet⟩
  · go_wp2
    go_ret
    exact ⟨rfl, HB.out⟩
  · have HP : Hid (PlayAt Z w1 W x y B 0 c) := ⟨hg, hnet, [], Nat.le_refl _, hok⟩
    clear hg hok hnet
    go_wp2
    go_loopw [6, 7] (fun t s wr => ∃ (i : Nat) (c : Clu), i ≤ n ∧ t = .bool true ∧ s = .int .i64 i ∧ Hid (PlayAt Z wr W x y B i c)) (fun _ s _ => n - (intOf s).toNat)
    case atStart => exact ⟨0, c, Nat.zero_le _, rfl, rfl, HP⟩
    case round =>
      clear HP HB
      obtain ⟨i, c, hi, rfl, rfl, hp⟩ := hrel
      obtain ⟨U, hU, hok⟩ := hp.out.ok
      have HLM : Hid (Lim U i) := ⟨by omega, by omega⟩
      have HK := Hid.mk hok
      clear hok
      by_cases hlt : i < n
      · have q1 : (i : Int) < (n : Int) := by omega
        have q2 : (0 : Int) ≤ (i : Int) := by omega
        have hil : i < l.length := by rw [HLN.out]; exact hlt
        obtain ⟨b, off, cp, hv0, hbl, e0, e1, e2, e3, e4, e5, e6, e7, e8, e9⟩ := (HSZ.out.below hp.out.gm.bel).nth i hil
        cases hv0
        obtain ⟨ha, h6⟩ := HF.out _ (List.getElem_mem hil)
        have HA := Hid.mk (hp.out.gm.lAct HK.out HLM.out hp.out.net (by omega) l[i] ha h6)
        have HN := Hid.mk (fun (w' : World) (hg : Gm Z w' W x y B (36 * i + 36) (c.acted l[i])) => hp.out.next l[i] hg)
        generalize l[i] = a at *
        obtain ⟨ak, ar, aq, an, ⟨ty, ky, sd, el, on⟩, key⟩ := a
        unfold ActV.val at HA
        simp only at HA e0 e1 e2 e3 e4 e5 e6 e7 e8 e9
        clear ha h6 hp
        go_wp2_with fail
        refine HA.out.mono ?_
        rintro e w2 ⟨rfl, h2⟩
        have HP2 := Hid.mk (HN.out _ h2)
        have c2 := h2.cell2
        clear h2 HA HN e0 e1 e2 e3 e4 e5 e6 e7 e8 e9
        go_wp2_with fail
        refine (HP2.out.gm.looks (by omega)).mono ?_
        rintro e w3 ⟨rfl, hb3⟩
        have HP3 : Hid (PlayAt Z w3 W x y B (i + 1) _) := ⟨HP2.out.gm.same hb3, HP2.out.net, HP2.out.ok⟩
        clear HP2 hb3 c2
        go_wp2
        exact ⟨⟨i + 1, _, by omega, rfl, by go_num, HP3⟩, by simp [intOf]; omega⟩
      · have q1 : ¬ (i : Int) < (n : Int) := by omega
        go_wp2_with fail
        refine (hp.out.gm.lLast HK.out HLM.out hp.out.net (by omega)).mono ?_
        rintro e w2 ⟨rfl, c2, h2⟩
        have HB2 := Hid.mk (HB0.out.trans (h2.bel.mono HB0.out.size))
        clear h2 hp
        go_wp2
        go_ret
        exact ⟨rfl, HB2.out⟩

/-- What Solo plays. -/
def quiet (l : List ActV) : List ActV := l.filter fun a => decide (a.k ≠ 6)
theorem quiet_take {l : List ActV} {i : Nat} (hi : i < l.length) : quiet (l.take (i + 1)) = if l[i].k = 6 then quiet (l.take i) else quiet (l.take i) ++ [l[i]] := by
  unfold quiet
  rw [List.take_succ_eq_append_getElem hi, List.filter_append]
  by_cases h : l[i].k = 6 <;> simp [h]
theorem quiet_le (l : List ActV) (i : Nat) : (quiet (l.take i)).length ≤ l.length := Nat.le_trans (List.length_filter_le _ _) (by rw [List.length_take]; omega)
theorem infoAct : (Tryz.prog.info? 31).map (fun i => (i.zero, i.size, i.bytes)) = some (some (.agg #[.int .i64 0, .int .i64 0, .int .i64 0, .int .i64 0, .int .i64 0, .string ⟨#[]⟩, .int .i64 0, .string ⟨#[]⟩, .int .i64 0, .string ⟨#[]⟩]), 10, 104) := by kernel_rfl
theorem act_one (k r q n ty : Int) (ky : ByteArray) (sd : Int) (el : ByteArray) (on : Int) (key : ByteArray) : ∀ u ∈ ([.int .i64 k, .int .i64 r, .int .i64 q, .int .i64 n, .int .i64 ty, .string ky, .int .i64 sd, .string el, .int .i64 on, .string key] : List Value), u.oneCell' = true := by
  intro u hu
  simp only [List.mem_cons, List.not_mem_nil, or_false] at hu
  rcases hu with rfl | rfl | rfl | rfl | rfl | rfl | rfl | rfl | rfl | rfl <;> rfl
theorem actsOf_owns {w : World} {base : Nat} {v : Value} {l : List ActV} (h : w.ownsRow base 31 10 v l.length (l.flatMap ActV.cells)) : ActsOf w v l := by
  obtain ⟨-, h⟩ := h
  rcases h with ⟨rfl, hz⟩ | ⟨g, cap, cur, rfl, hg, hb, hc, hm, hs, hx⟩
  · have : l = [] := List.length_eq_zero_iff.1 hz
    subst this
    exact ⟨none, 0, rfl, Nat.le_refl _, fun h => by simp at h⟩
  · refine ⟨_, cap, rfl, hc, fun _ => ⟨g, 0, rfl, blk_lt hb, fun i hi j u hu => ?_⟩⟩
    have hj : j < 10 := (List.getElem?_eq_some_iff.1 hu).1
    have hg2 := flatMap_get ActV.cells 10 ActV.cells_length l i j hi hj
    rw [hu, ← hx, List.getElem?_take] at hg2
    split at hg2
    · rw [blk_cell hb, Nat.zero_add, ← Array.getElem?_toList]
      exact hg2
    · cases hg2

set_option maxRecDepth 100000 in
set_option maxHeartbeats 4000000 in
theorem solo_walk (v vs : Value) (es : List (Int × Int)) (l : List ActV) (reps room : Int) (bp rr : Bool) (w : World) (hr : RulesAt w) (hst : StepsAt w) (hv : EdgesOf w v es) (hlen : es.length ≤ 1048576) (hs : ActsOf w vs l) (hll : l.length ≤ 87381) (hfit : ∀ a ∈ l, a.fit) :
    Calls Tryz.prog 4 #[.agg #[.int .i64 reps, v, .bool bp, .bool rr, .int .i64 room], vs] w fun e w' => e = .returned (.bool true) ∧ Below w.heap.size w w' := by
  obtain ⟨i0, hi0, hz0, hz1, hz2⟩ := info_parts infoAct
  have HR := Hid.mk hr
  have HST := Hid.mk hst
  have HV := Hid.mk hv
  have HS := Hid.mk hs
  have HF := Hid.mk hfit
  obtain ⟨ad, cap, rfl, -⟩ := hv
  obtain ⟨adS, capS, rfl, -⟩ := hs
  obtain ⟨n, HLN⟩ : ∃ n, Hid (l.length = n) := ⟨_, rfl⟩
  rw [HLN.out] at hll HS ⊢
  clear hr hst hfit
  have hb0 := below_alloc (Below.refl _ w) (.cells #[.int .i64 reps, .slice ad es.length cap, .bool bp, .bool rr, .int .i64 room] 24)
  have hz0' : (w.alloc (.cells #[.int .i64 reps, .slice ad es.length cap, .bool bp, .bool rr, .int .i64 room] 24)).heap[w.heap.size]? = some (.cells #[.int .i64 reps, .slice ad es.length cap, .bool bp, .bool rr, .int .i64 room] 24 (0, 0)) := heap_alloc_new w _
  have HB0 := Hid.mk hb0
  have HZ := Hid.mk hz0'
  clear hb0 hz0'
  go_enter Tryz.func4, Tryz.ntmps4
  go_wp2
  generalize w.alloc (.cells #[.int .i64 reps, .slice ad es.length cap, .bool bp, .bool rr, .int .i64 room] 24) = Z at *
  have HSZ := Hid.mk (HS.out.below HB0.out)
  clear HS
  go_loopw [5, 6] (fun v3 s wr => ∃ i : Nat, i ≤ n ∧ s = .int .i64 i ∧ Hid (wr.ownsRow Z.heap.size 31 10 v3 (quiet (l.take i)).length ((quiet (l.take i)).flatMap ActV.cells)) ∧ Below Z.heap.size Z wr) (fun _ s _ => n - (intOf s).toNat)
  case atStart => exact ⟨0, Nat.zero_le _, rfl, by unfold Hid; simp [quiet, World.ownsRow], Below.refl _ _⟩
  case round =>
    obtain ⟨i, hi, rfl, hown, hby⟩ := hrel
    by_cases hlt : i < n
    · have q1 : (i : Int) < (n : Int) := by omega
      have q2 : (0 : Int) ≤ (i : Int) := by omega
      have hil : i < l.length := by rw [HLN.out]; exact hlt
      obtain ⟨b, off, cp, hv0, hbl, e0, e1, e2, e3, e4, e5, e6, e7, e8, e9⟩ := (HSZ.out.below hby).nth i hil
      cases hv0
      have HQ := Hid.mk (quiet_take hil)
      have hql := quiet_le l i
      rw [HLN.out] at hql
      have hszb := hby.size
      generalize l[i] = a at *
      obtain ⟨ak, ar, aq, an, ⟨ty, ky, sd, el, on⟩, key⟩ := a
      simp only at HQ e0 e1 e2 e3 e4 e5 e6 e7 e8 e9
      by_cases k6 : ak = 6
      · subst k6
        have HO : Hid (wr.ownsRow Z.heap.size 31 10 u5 (quiet (l.take (i + 1))).length ((quiet (l.take (i + 1))).flatMap ActV.cells)) := by rw [HQ.out, if_pos rfl]; exact hown
        clear hown HQ
        go_wp2
        exact ⟨⟨i + 1, by omega, by go_num, HO, hby⟩, by simp [intOf]; omega⟩
      · have HE : Hid (quiet (l.take (i + 1)) = quiet (l.take i) ++ [⟨ak, ar, aq, an, ⟨ty, ky, sd, el, on⟩, key⟩]) := by rw [Hid, HQ.out, if_neg k6]
        have hown := hown.out
        clear HQ
        go_wp2_with (at_builtin; refine wpList_append_lies _ rfl _ _ 27 rfl Z.heap.size 31 i0 _ 10 104 Tryz.underlying27 hi0 hz0 hz1 hz2 rfl (by decide) _ (quiet (l.take i)).length _ rfl (hown.alloc _) ⟨wr.heap.size, 0, none⟩ 1 1 [.int .i64 ak, .int .i64 ar, .int .i64 aq, .int .i64 an, .int .i64 ty, .string ky, .int .i64 sd, .string el, .int .i64 on, .string key] rfl rfl (World.news_of_block (heap_alloc_new wr _)) (act_one ak ar aq an ty ky sd el on key) (by decide) (by unfold maxLen; omega) (by omega) (by simp; omega) (wr.heap.size + 1) (by simp) ?_; intro g capn w3 hown3 hgrow3 hat3 hlt3)
        have HO : Hid (w3.ownsRow Z.heap.size 31 10 (.slice (some ⟨g, 0, none⟩) ((quiet (l.take i)).length + 1) capn) (quiet (l.take (i + 1))).length ((quiet (l.take (i + 1))).flatMap ActV.cells)) := by
          rw [HE.out, List.length_append, List.flatMap_append]
          exact hown3
        exact ⟨⟨i + 1, by omega, by go_num, HO, (below_alloc hby _).grown hgrow3 (by simp; omega) (fun q hq => owns_base hown q hq)⟩, by simp [intOf]; omega⟩
    · have q1 : ¬ (i : Int) < (n : Int) := by omega
      obtain rfl : i = n := by omega
      have hq : quiet (l.take i) = quiet l := by rw [List.take_of_length_le (by rw [HLN.out]; omega)]
      rw [hq] at hown
      have hbw := HB0.out.trans (hby.mono HB0.out.size)
      have HBW := Hid.mk hbw
      have hql : (quiet l).length ≤ 87381 := by have := List.length_filter_le (fun a : ActV => decide (a.k ≠ 6)) l; rw [HLN.out] at this; unfold quiet; omega
      have k0 := (hby.block _ (blk_lt HZ.out)).trans HZ.out
      have c0 := blk_cell k0 0
      have c1 := blk_cell k0 1
      have c2 := blk_cell k0 2
      have c3 := blk_cell k0 3
      have c4 := blk_cell k0 4
      simp at c0 c1 c2 c3 c4
      have HC := Hid.mk (plays_game _ u5 es (quiet l) reps room bp rr wr (HR.out.below hbw HR.out.1) (HST.out.block (hbw.block 1 HST.out.1) hbw.size) (HV.out.below hbw) hlen (actsOf_owns hown.out) hql (fun a ha => ⟨HF.out a (List.mem_filter.1 ha).1, by simpa using (List.mem_filter.1 ha).2⟩))
      clear hown hq hbw k0 hby
      go_wp2_with fail
      refine HC.out.mono ?_
      rintro e w2 ⟨rfl, hb2⟩
      have HB2 := Hid.mk (HBW.out.trans (hb2.mono HBW.out.size))
      clear hb2 HC
      go_wp2
      go_ret
      exact ⟨rfl, HB2.out⟩
end Go.Proofs.YtahdlejgjcjeoaaGreatDoor
