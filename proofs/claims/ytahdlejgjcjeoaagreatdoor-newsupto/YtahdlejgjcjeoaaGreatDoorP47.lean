/- Walk of the law's made. -/
import Derived.Test.YtahdlejgjcjeoaaGreatDoorP46
namespace Go.Proofs.YtahdlejgjcjeoaaGreatDoor
open Go.RowKit

def MadeIs (w : World) (e : Ending) (w' : World) : Prop :=
  Below w.heap.size w w' ∧ (e = .returned (.tuple #[.pointer none, .bool true]) ∨ ∃ B0 W x y R n B rm bp rr f col K, e = .returned (.tuple #[.pointer (some ⟨W, 0, none⟩), .bool true]) ∧ Fix w' B0 W x y R n B rm bp rr f col K ∧ NSt w' w' B0 W B 0 ∧ w.heap.size ≤ B0 ∧ w.heap.size ≤ W)

/-- The world in which the law's own struct is made. -/
theorem made_fix {w w2 w4 w5 wr : World} {reps room : Int} {es : List (Int × Int)} {bp rr : Bool} {f : Nat → Nat → Bool} {c' : Col} {K : RefC} {x y R : Nat} (hr : RulesAt w) (hb : Below w.heap.size w wr) (hb2 : Below w2.heap.size w2 wr) (h2 : w.heap.size ≤ w2.heap.size)
    (hra : RefAt w2 c' 1 y K (clu0 room.toNat bp rr reps.toNat f)) (hpf : PF w5 x R reps.toNat) (hx : w4.heap.size ≤ x) (hR : w4.heap.size ≤ R) (hm : ∀ i, i < reps.toNat → ∀ m, w5.cell? ⟨R, i * 14 + 3, none⟩ = some (.map (some m)) → w4.heap.size ≤ m) (h4 : w2.heap.size < w4.heap.size) (hfr : Fr (fun q => q = w2.heap.size) w5 wr) (hok : newOk reps room es = true) :
    Fix ((wr.alloc (.cells #[.slice none 0 0, .slice none 0 0, .slice none 0 0, .slice none 0 0] 70)).alloc (.cells #[.pointer (some ⟨x, 0, none⟩), .pointer (some ⟨y, 0, none⟩), .pointer (some ⟨wr.heap.size, 0, none⟩)] 48)) wr.heap.size (wr.heap.size + 1) x y R reps.toNat wr.heap.size room.toNat bp rr f (paint c' w2.heap.size (3, 0)) K ∧
    NSt ((wr.alloc (.cells #[.slice none 0 0, .slice none 0 0, .slice none 0 0, .slice none 0 0] 70)).alloc (.cells #[.pointer (some ⟨x, 0, none⟩), .pointer (some ⟨y, 0, none⟩), .pointer (some ⟨wr.heap.size, 0, none⟩)] 48)) ((wr.alloc (.cells #[.slice none 0 0, .slice none 0 0, .slice none 0 0, .slice none 0 0] 70)).alloc (.cells #[.pointer (some ⟨x, 0, none⟩), .pointer (some ⟨y, 0, none⟩), .pointer (some ⟨wr.heap.size, 0, none⟩)] 48)) wr.heap.size (wr.heap.size + 1) wr.heap.size 0 := by
  have hbF := below_alloc (below_alloc (Below.refl _ wr) (.cells #[.slice none 0 0, .slice none 0 0, .slice none 0 0, .slice none 0 0] 70)) (.cells #[.pointer (some ⟨x, 0, none⟩), .pointer (some ⟨y, 0, none⟩), .pointer (some ⟨wr.heap.size, 0, none⟩)] 48)
  have hbk := (bk_new wr).below (below_alloc (Below.refl _ _) (.cells #[.pointer (some ⟨x, 0, none⟩), .pointer (some ⟨y, 0, none⟩), .pointer (some ⟨wr.heap.size, 0, none⟩)] 48))
  have hwb := (two_blocks wr (.cells #[.slice none 0 0, .slice none 0 0, .slice none 0 0, .slice none 0 0] 70) (.cells #[.pointer (some ⟨x, 0, none⟩), .pointer (some ⟨y, 0, none⟩), .pointer (some ⟨wr.heap.size, 0, none⟩)] 48)).1
  generalize (wr.alloc (.cells #[.slice none 0 0, .slice none 0 0, .slice none 0 0, .slice none 0 0] 70)).alloc (.cells #[.pointer (some ⟨x, 0, none⟩), .pointer (some ⟨y, 0, none⟩), .pointer (some ⟨wr.heap.size, 0, none⟩)] 48) = wF at *
  have hs5 := hfr.size
  have hs2 := hb2.size
  have hpr : PF wr x R reps.toNat := hpf.fr hfr (fun e => by omega) (fun e => by omega) (fun i hi m hc e => by have := hm i hi m hc; omega)
  have hpF : PF wF x R reps.toNat := hpr.below hbF
  have hxl : x < w5.heap.size := hpf.cl.lt
  have hRl : R < w5.heap.size := by
    obtain ⟨m, h1, _⟩ := hpf.row 0 (by have := hpf.n1; omega)
    obtain ⟨cs, e, fz, hh, _⟩ := Go.Sort.cells_of_cell? (h1 0 _ rfl)
    exact (Array.getElem?_eq_some_iff.1 hh).1
  have h0 := hr.1
  unfold newOk at hok
  simp only [Bool.and_eq_true, decide_eq_true_eq] at hok
  refine ⟨⟨?_, hra.below (hb2.trans (hbF.mono hs2)) (3, 0), fun q hq => by rw [paint_new _ _ (by omega)]; decide, hpF, by omega, by omega, fun i hi m hc => ?_, by omega, by omega, by omega, by omega, hwb, Nat.le_refl _, by omega⟩, Fr.refl _ _, bk0, es0, hbk, fun f hf => Nat.le_refl _⟩
  · exact (hr.below hb h0).below hbF (by omega)
  · obtain ⟨m', h1, h2, -⟩ := hpr.row i hi
    have hc' : wr.cell? ⟨R, i * 14 + 3, none⟩ = some (.map (some m)) := by
      rw [← hc]
      exact (hbF.cell (p := ⟨R, _, none⟩) (by show R < _; omega)).symm
    have := (h1 3 _ rfl).symm.trans hc'
    cases this
    exact h2.lt

set_option maxRecDepth 100000 in
set_option maxHeartbeats 4000000 in
theorem made_walk (v : Value) (es : List (Int × Int)) (reps room : Int) (bp rr : Bool) (w : World) (hr : RulesAt w) (hv : EdgesOf w v es) (hlen : es.length ≤ 1048576) :
    Calls Tryz.prog 12 #[.agg #[.int .i64 reps, v, .bool bp, .bool rr, .int .i64 room]] w (MadeIs w) := by
  have HE := Hid.mk hv
  have HR := Hid.mk hr
  obtain ⟨ad, cap, rfl, -⟩ := hv
  clear hr
  have HRN : Hid (∀ W, Below w.heap.size w W → Calls Tryz.prog 23 #[.agg #[.int .i64 reps, .slice ad es.length cap, .bool bp, .bool rr, .int .i64 room]] W fun e w' => Below W.heap.size W w' ∧ ((newOk reps room es = false ∧ e = .returned (.tuple #[.pointer none, .int .i64 4])) ∨ (newOk reps room es = true ∧ ∃ y K f col', e = .returned (.tuple #[.pointer (some ⟨y, 0, none⟩), .int .i64 0]) ∧ RefAt w' col' 1 y K (clu0 room.toNat bp rr reps.toNat f) ∧ FrC (fun _ => False) (fun _ => (0, 0)) col' W w'))) := fun W hW => refNew _ es reps room bp rr W (fun _ => (0, 0)) 1 (HE.out.below hW) hlen (fun q _ => by decide)
  have hmk : ∀ W : World, (Instr.makeSlice 22 (.int .i64 ((es.length : Int) + 1)) (.int .i64 ((es.length : Int) + 1))).run Tryz.prog W = .ok (.slice (some ⟨W.heap.size, 0, none⟩) (es.length + 1) (es.length + 1)) (W.alloc (.cells ((List.replicate (es.length + 1) ((0 : Int), (0 : Int))).flatMap edC).toArray 53)) := fun W => make_edges (es.length + 1) (by omega) W
  have hq0 := heap_alloc_new w (.cells #[.int .i64 reps, .slice ad es.length cap, .bool bp, .bool rr, .int .i64 room] 24)
  go_enter Tryz.func12, Tryz.ntmps12
  go_wp2_with fail
  refine (HRN.out _ (below_alloc (Below.refl _ _) _)).mono ?_
  rintro e w2 ⟨hb2, hcase⟩
  have hbw2 := (below_alloc (Below.refl _ w) (.cells #[.int .i64 reps, .slice ad es.length cap, .bool bp, .bool rr, .int .i64 room] 24)).trans (hb2.mono (by simp))
  have hq2 := (hb2.block _ (by simp)).trans hq0
  have hql : w.heap.size < w2.heap.size := blk_lt hq2
  have HQ2 := Hid.mk hq2
  have HB2 := Hid.mk hbw2
  clear hq0 HRN hb2 hq2 hbw2
  obtain ⟨p, f', rfl, HC⟩ : ∃ (p : Option Addr) (f' : Int), e = .returned (.tuple #[.pointer p, .int .i64 f']) ∧ Hid ((newOk reps room es = false ∧ p = none ∧ f' = 4) ∨ (newOk reps room es = true ∧ f' = 0 ∧ ∃ y K f col', p = some ⟨y, 0, none⟩ ∧ RefAt w2 col' 1 y K (clu0 room.toNat bp rr reps.toNat f))) := by
    rcases hcase with ⟨h1, rfl⟩ | ⟨h1, y, K, f, col', rfl, h2, -⟩
    · exact ⟨none, 4, rfl, .inl ⟨h1, rfl, rfl⟩⟩
    · exact ⟨_, 0, rfl, .inr ⟨h1, rfl, y, K, f, col', rfl, h2⟩⟩
  clear hcase
  have k1 := blk_cell HQ2.out 1
  simp at k1
  have hin0 : InAt (w2.alloc (.cells ((List.replicate (es.length + 1) ((0 : Int), (0 : Int))).flatMap edC).toArray 53)) w2.heap.size (List.replicate (es.length + 1) (0, 0)) := heap_alloc_new w2 _
  have hed0 : EdgesOf (w2.alloc (.cells ((List.replicate (es.length + 1) ((0 : Int), (0 : Int))).flatMap edC).toArray 53)) (.slice ad es.length cap) es := HE.out.below (below_alloc HB2.out _)
  have HNQ := Hid.mk (show w.heap.size ≠ w2.heap.size by omega)
  have hne1 : ¬ w.heap.size = w2.heap.size := by omega
  have hne2 : ¬ w2.heap.size = w.heap.size := by omega
  have hn0 : (0 : Int) ≤ (es.length : Int) := by omega
  have hn1 : (es.length : Int) < (es.length : Int) + 1 := by omega
  go_wp2_with (refine wpList_copy_edges rfl _ _ 22 22 rfl Tryz.underlying22 sizeEdge w2.heap.size (es.length + 1) (es.length + 1) _ (by simp) rfl hin0 _ rfl es hed0 (by simp) ?_; intro w3 hin3 hg3; have kq3 := (hg3.block w.heap.size (by simp; omega) (fun e => HNQ.out (Option.some.inj e))).trans ((((Below.refl _ w2).alloc (Nat.le_refl _) _).block _ hql).trans HQ2.out); obtain ⟨i0, i1, ifz⟩ := hin3.cells es.length (by simp); have q0 : w3.cell? ⟨w.heap.size, 0, none⟩ = some (.int .i64 reps) := blk_cell kq3 0; have q1 : w3.cell? ⟨w.heap.size, 1, none⟩ = some (.slice ad es.length cap) := blk_cell kq3 1; have q2 : w3.cell? ⟨w.heap.size, 2, none⟩ = some (.bool bp) := blk_cell kq3 2; have q3 : w3.cell? ⟨w.heap.size, 3, none⟩ = some (.bool rr) := blk_cell kq3 3; have q4 : w3.cell? ⟨w.heap.size, 4, none⟩ = some (.int .i64 room) := blk_cell kq3 4)
  have hl3 : (es ++ (List.replicate (es.length + 1) ((0 : Int), (0 : Int))).drop es.length).length = es.length + 1 := by simp
  have HI4 := Hid.mk ((hin3.set es.length (by rw [hl3]; omega) (-9, 0)).below (below_alloc (Below.refl _ _) (.cells #[.int .i64 reps, .slice (some ⟨w2.heap.size, 0, none⟩) es.length (es.length + 1), .bool bp, .bool rr, .int .i64 room] 24)))
  have hg34 : w3.grownBy ((w3.setCell ⟨w2.heap.size, es.length * 2, none⟩ (.int .i64 (-9))).setCell ⟨w2.heap.size, es.length * 2 + 1, none⟩ (.int .i64 0)) (some w2.heap.size) := grown_trans (grown_setCell w3 ⟨w2.heap.size, es.length * 2, none⟩ (.int .i64 (-9))) (grown_setCell _ ⟨w2.heap.size, es.length * 2 + 1, none⟩ (.int .i64 0))
  have hb24 : Below w2.heap.size w2 (((w3.setCell ⟨w2.heap.size, es.length * 2, none⟩ (.int .i64 (-9))).setCell ⟨w2.heap.size, es.length * 2 + 1, none⟩ (.int .i64 0)).alloc (.cells #[.int .i64 reps, .slice (some ⟨w2.heap.size, 0, none⟩) es.length (es.length + 1), .bool bp, .bool rr, .int .i64 room] 24)) := by
    refine Below.alloc ((((Below.refl _ w2).alloc (Nat.le_refl _) _).grown hg3 (by simp) (fun k hk => by cases hk; exact Nat.le_refl _)).grown hg34 (Nat.le_trans (by simp) hg3.size) (fun k hk => by cases hk; exact Nat.le_refl _)) (Nat.le_trans (Nat.le_trans (by simp) hg3.size) hg34.size) _
  have hs4 : w2.heap.size < (((w3.setCell ⟨w2.heap.size, es.length * 2, none⟩ (.int .i64 (-9))).setCell ⟨w2.heap.size, es.length * 2 + 1, none⟩ (.int .i64 0)).alloc (.cells #[.int .i64 reps, .slice (some ⟨w2.heap.size, 0, none⟩) es.length (es.length + 1), .bool bp, .bool rr, .int .i64 room] 24)).heap.size := blk_lt HI4.out
  have hl4 : ((es ++ (List.replicate (es.length + 1) ((0 : Int), (0 : Int))).drop es.length).set es.length (-9, 0)) = es ++ [(-9, 0)] := by
    apply List.ext_getElem? 
    intro t
    rw [List.getElem?_set]
    by_cases ht : es.length = t
    · subst ht
      simp
    · rw [if_neg ht]
      by_cases h2 : t < es.length
      · rw [List.getElem?_append_left h2, List.getElem?_append_left h2]
      · rw [List.getElem?_eq_none (by rw [hl3]; omega), List.getElem?_eq_none (by simp; omega)]
  rw [hl4] at HI4
  have HED := Hid.mk (HI4.out.edges (es := es) (cap := es.length + 1) (by simp) (by simp) (by omega))
  have HB24 := Hid.mk hb24
  generalize ((w3.setCell ⟨w2.heap.size, es.length * 2, none⟩ (.int .i64 (-9))).setCell ⟨w2.heap.size, es.length * 2 + 1, none⟩ (.int .i64 0)).alloc (.cells #[.int .i64 reps, .slice (some ⟨w2.heap.size, 0, none⟩) es.length (es.length + 1), .bool bp, .bool rr, .int .i64 room] 24) = w4 at *
  clear hl3 hl4 hg34 hb24 hg3 hin3 kq3 q0 q1 q2 q3 q4 i0 i1 ifz hin0 hed0 hmk k1
  refine (prgNew _ es reps room bp rr w4 HED.out hlen).mono ?_
  rintro e w5 ⟨hb5, hcase⟩
  have HI5 := Hid.mk (HI4.out.below hb5)
  have HB25 := Hid.mk (HB24.out.trans (hb5.mono (Nat.le_of_lt hs4)))
  have hs5 := hb5.size
  have HQ5 := Hid.mk ((HB25.out.block _ hql).trans HQ2.out)
  clear hb5 HI4 HED HB24
  obtain ⟨p2, f2, rfl, HC2⟩ : ∃ (p : Option Addr) (f' : Int), e = .returned (.tuple #[.pointer p, .int .i64 f']) ∧ Hid ((newOk reps room es = false ∧ p = none ∧ f' = 4) ∨ (newOk reps room es = true ∧ f' = 0 ∧ ∃ x R, p = some ⟨x, 0, none⟩ ∧ PF w5 x R reps.toNat ∧ w4.heap.size ≤ x ∧ w4.heap.size ≤ R ∧ ∀ i, i < reps.toNat → ∀ m, w5.cell? ⟨R, i * 14 + 3, none⟩ = some (.map (some m)) → w4.heap.size ≤ m)) := by
    rcases hcase with ⟨h1, rfl⟩ | ⟨h1, x, R, rfl, h2⟩
    · exact ⟨none, 4, rfl, .inl ⟨h1, rfl, rfl⟩⟩
    · exact ⟨_, 0, rfl, .inr ⟨h1, rfl, x, R, rfl, h2⟩⟩
  clear hcase
  obtain ⟨i0, -, -⟩ := HI5.out.cells es.length (by simp)
  simp at i0
  have hpp : f2 = f' ∧ (p2.isNone = p.isNone) := by
    rcases HC.out with ⟨a1, rfl, rfl⟩ | ⟨a1, rfl, y, K, f, c', rfl, _⟩
    · rcases HC2.out with ⟨b1, rfl, rfl⟩ | ⟨b1, _⟩
      · exact ⟨rfl, rfl⟩
      · rw [a1] at b1; cases b1
    · rcases HC2.out with ⟨b1, _⟩ | ⟨b1, rfl, x, R, rfl, _⟩
      · rw [a1] at b1; cases b1
      · exact ⟨rfl, rfl⟩
  obtain ⟨rfl, hpn⟩ := hpp
  have hWa : Below w.heap.size w w5 := HB2.out.trans (HB25.out.mono (Nat.le_of_lt hql))
  have HEW : Hid (0 < es.length → ∃ b off, ad = some ⟨b, off, none⟩ ∧ b < w.heap.size ∧ ∀ i (h : i < es.length), w.cell? ⟨b, off + i * 2, none⟩ = some (.int .i64 es[i].1) ∧ w.cell? ⟨b, off + i * 2 + 1, none⟩ = some (.int .i64 es[i].2)) := by
    obtain ⟨ad', cap', hv', -, H⟩ := HE.out
    cases hv'
    exact H
  have HWA := Hid.mk hWa
  clear hWa
  go_wp2
  go_loopw [11] (fun s wr => ∃ (j : Nat) (l : List (Int × Int)), j ≤ es.length ∧ s = .int .i64 j ∧ Hid (InAt wr w2.heap.size l) ∧ Hid (l.length = es.length + 1 ∧ ∀ k (h : k < es.length), j ≤ k → l[k]? = some es[k]) ∧ Hid (Fr (fun q => q = w2.heap.size) w5 wr)) (fun s _ => es.length - (intOf s).toNat)
  case atStart => exact ⟨0, _, Nat.zero_le _, rfl, HI5, ⟨by simp, fun k h _ => by rw [List.getElem?_append_left h, List.getElem?_eq_getElem h]⟩, Fr.refl _ _⟩
  case round =>
    clear HI5 i0
    obtain ⟨j, l, hj, rfl, hin, hl, hfr⟩ := hrel
    have HBr : Hid (Below w2.heap.size w2 wr) := ⟨hfr.out.os.trans HB25.out.os, hfr.out.tape.trans HB25.out.tape, hfr.out.output.trans HB25.out.output, Nat.le_trans HB25.out.size hfr.out.size, fun k hk => (hfr.out.block k (Nat.lt_of_lt_of_le hk HB25.out.size) (by omega)).trans (HB25.out.block k hk)⟩
    by_cases hlt : j < es.length
    · obtain ⟨b, off, rfl, hb, hrow⟩ := HEW.out (by omega)
      obtain ⟨r0, r1⟩ := hrow j hlt
      have hbwr : Below w.heap.size w wr := HB2.out.trans (HBr.out.mono (Nat.le_of_lt hql))
      have c0 := (hbwr.cell (p := ⟨b, off + j * 2, none⟩) hb).trans r0
      have c1 := (hbwr.cell (p := ⟨b, off + j * 2 + 1, none⟩) hb).trans r1
      have hql2 : (wr.heap[w.heap.size]?) = some (.cells #[.int .i64 reps, .slice (some ⟨b, off, none⟩) es.length cap, .bool bp, .bool rr, .int .i64 room] 24 (0, 0)) := (HBr.out.block _ hql).trans HQ2.out
      have k1 := blk_cell hql2 1
      simp at k1
      have hjl : j < l.length := by rw [hl.out.1]; omega
      have hlj : l[j] = es[j] := by
        have := hl.out.2 j hlt (Nat.le_refl _)
        rw [List.getElem?_eq_getElem hjl] at this
        exact Option.some.inj this
      obtain ⟨d0, d1, df⟩ := hin.out.cells j hjl
      rw [hlj] at d0 d1
      generalize es[j].1 = ea at *
      generalize es[j].2 = eb at *
      have qa : (0 : Int) ≤ (j : Int) := by omega
      have qb : (j : Int) < (es.length : Int) := by omega
      have qc : (j : Int) < (es.length : Int) + 1 := by omega
      have hbl : b < wr.heap.size := Nat.lt_of_lt_of_le hb hbwr.size
      have hbg : b ≠ w2.heap.size := by omega
      have HJL := Hid.mk hjl
      clear hrow r0 r1 hbwr hql2 hlj HEW hjl
      go_wp2
      go_quiet (fail)
      obtain ⟨V, hV⟩ : ∃ V : World, V = wr.drewN nq := ⟨_, rfl⟩
      rw [← hV]
      have hbV : Below wr.heap.size wr V := by rw [hV]; exact below_drewN (Below.refl _ _) _
      clear hV
      have hinV := hin.out.below hbV
      have hfrV := hfr.out.below hbV
      have HSET := Hid.mk (hinV.set j HJL.out (-9, 0))
      obtain ⟨v0, v1, vf⟩ := hinV.cells j HJL.out
      have HLN : Hid ((l.set j (-9, 0)).length = es.length + 1 ∧ ∀ k (h : k < es.length), j + 1 ≤ k → (l.set j (-9, 0))[k]? = some es[k]) := ⟨by rw [List.length_set]; exact hl.out.1, fun k h hk => by rw [List.getElem?_set_ne (by omega)]; exact hl.out.2 k h (by omega)⟩
      have HFR : Hid (Fr (fun q => q = w2.heap.size) w5 ((V.setCell ⟨w2.heap.size, j * 2, none⟩ (.int .i64 (-9))).setCell ⟨w2.heap.size, j * 2 + 1, none⟩ (.int .i64 0))) := (hfrV.step (grown_setCell V ⟨w2.heap.size, j * 2, none⟩ (.int .i64 (-9))) (fun q hq => by cases hq; exact .inr rfl)).step (grown_setCell _ ⟨w2.heap.size, j * 2 + 1, none⟩ (.int .i64 0)) (fun q hq => by cases hq; exact .inr rfl)
      clear hin hfr hl hinV hfrV hbV d0 d1 df c0 c1 k1 HBr
      go_wp2
      exact ⟨⟨j + 1, _, by omega, by go_num, HSET, HLN, HFR⟩, by simp [intOf]; omega⟩
    · have qb : ¬ (j : Int) < (es.length : Int) := by omega
      have hbwr : Below w.heap.size w wr := HB2.out.trans (HBr.out.mono (Nat.le_of_lt hql))
      have HBW := Hid.mk hbwr
      clear hbwr
      cases hok : newOk reps room es
      · obtain ⟨rfl, rfl, rfl⟩ : p = none ∧ p2 = none ∧ f2 = 4 := by
          rcases HC.out with ⟨-, rfl, rfl⟩ | ⟨a1, _⟩
          · rcases HC2.out with ⟨-, rfl, -⟩ | ⟨b1, _⟩
            · exact ⟨rfl, rfl, rfl⟩
            · rw [hok] at b1; cases b1
          · rw [hok] at a1; cases a1
        clear hin hfr hl HC HC2
        go_wp2
        go_ret2
        exact ⟨HBW.out, .inl rfl⟩
      · obtain ⟨y, K, f, c', rfl, hra⟩ : ∃ y K f col', p = some ⟨y, 0, none⟩ ∧ RefAt w2 col' 1 y K (clu0 room.toNat bp rr reps.toNat f) := by
          rcases HC.out with ⟨a1, _⟩ | ⟨-, -, h⟩
          · rw [hok] at a1; cases a1
          · exact h
        obtain ⟨x, R, rfl, hpf, hx4, hR4, hm4⟩ : ∃ x R, p2 = some ⟨x, 0, none⟩ ∧ PF w5 x R reps.toNat ∧ w4.heap.size ≤ x ∧ w4.heap.size ≤ R ∧ ∀ i, i < reps.toNat → ∀ m, w5.cell? ⟨R, i * 14 + 3, none⟩ = some (.map (some m)) → w4.heap.size ≤ m := by
          rcases HC2.out with ⟨a1, _⟩ | ⟨-, -, h⟩
          · rw [hok] at a1; cases a1
          · exact h
        have hfin := made_fix HR.out HBW.out HBr.out (Nat.le_of_lt hql) hra hpf hx4 hR4 hm4 hs4 hfr.out hok
        have HFIN := Hid.mk hfin
        clear hin hfr hl HC HC2 hra hpf hx4 hR4 hm4 hfin
        go_wp2
        go_ret2
        have hsz := HBW.out.size
        exact ⟨below_alloc (below_alloc HBW.out _) _, .inr ⟨_, _, _, _, _, _, _, _, _, _, _, _, _, by rfl, HFIN.out.1, HFIN.out.2, hsz, Nat.le_succ_of_le hsz⟩⟩

set_option maxRecDepth 100000 in
set_option maxHeartbeats 1000000 in
/-- A new cluster, and nothing played. -/
theorem plays_none (v : Value) (es : List (Int × Int)) (reps room : Int) (bp rr : Bool) (w : World) (hr : RulesAt w) (hv : EdgesOf w v es) (hlen : es.length ≤ 1048576) :
    Calls Tryz.prog 7 #[.agg #[.int .i64 reps, v, .bool bp, .bool rr, .int .i64 room], .slice none 0 0] w fun e w' => e = .returned (.bool true) ∧ Below w.heap.size w w' := by
  have HR := Hid.mk hr
  have HV := Hid.mk hv
  obtain ⟨ad, cap, rfl, -⟩ := hv
  clear hr
  go_enter Tryz.func7, Tryz.ntmps7
  go_wp2_with fail
  refine (made_walk _ es reps room bp rr _ (HR.out.below (below_alloc (Below.refl _ w) _) HR.out.1) (HV.out.below (below_alloc (Below.refl _ w) _)) hlen).mono ?_
  rintro e w1 ⟨hb1, hcase⟩
  have hbw1 := (below_alloc (Below.refl _ w) (.cells #[.int .i64 reps, .slice ad es.length cap, .bool bp, .bool rr, .int .i64 room] 24)).trans (hb1.mono (by simp))
  have HB := Hid.mk hbw1
  clear hb1 hbw1
  rcases hcase with rfl | ⟨B0, W, x, y, R, n, B, rm, bp', rr', f, col, K, rfl, hF, hN, h0, hW⟩
  · go_wp2
    go_ret
    exact ⟨rfl, HB.out⟩
  · have HC := Hid.mk (hF.lLast hN (by omega))
    have HFX := Hid.mk hF
    have h0' : w.heap.size ≤ B0 := by simp at h0; omega
    clear hF hN h0 hW
    go_wp2
    go_loopw [7] (fun s wr => s = .int .i64 0 ∧ wr = w1) (fun _ _ => 0)
    case atStart => exact ⟨rfl, rfl⟩
    case round =>
      obtain ⟨rfl, rfl⟩ := hrel
      go_wp2_with fail
      refine HC.out.mono ?_
      rintro e w2 ⟨rfl, hn2⟩
      have hb2 : Below w.heap.size w w2 := ⟨hn2.fr.os.trans HB.out.os, hn2.fr.tape.trans HB.out.tape, hn2.fr.output.trans HB.out.output, Nat.le_trans HB.out.size hn2.fr.size, fun k hk => (hn2.fr.block k (Nat.lt_of_lt_of_le hk HB.out.size) (fun e => by omega)).trans (HB.out.block k hk)⟩
      have HB2 := Hid.mk hb2
      clear hn2 hb2 HC
      go_wp2
      go_ret
      exact ⟨rfl, HB2.out⟩

set_option maxRecDepth 100000 in
theorem news_walk (v : Value) (es : List (Int × Int)) (reps room : Int) (bp rr : Bool) (w : World) (hr : RulesAt w) (hv : EdgesOf w v es) (hlen : es.length ≤ 1048576) :
    Calls Tryz.prog 3 #[.agg #[.int .i64 reps, v, .bool bp, .bool rr, .int .i64 room]] w fun e w' => e = .returned (.bool true) ∧ Below w.heap.size w w' := by
  have HR := Hid.mk hr
  have HV := Hid.mk hv
  obtain ⟨ad, cap, rfl, -⟩ := hv
  clear hr
  go_enter Tryz.func3, Tryz.ntmps3
  go_wp2_with fail
  refine (plays_none _ es reps room bp rr _ (HR.out.below (below_alloc (Below.refl _ w) _) HR.out.1) (HV.out.below (below_alloc (Below.refl _ w) _)) hlen).mono ?_
  rintro e w1 ⟨rfl, hb1⟩
  have HB := Hid.mk ((below_alloc (Below.refl _ w) (.cells #[.int .i64 reps, .slice ad es.length cap, .bool bp, .bool rr, .int .i64 room] 24)).trans (hb1.mono (by simp)))
  clear hb1
  go_wp2
  go_ret
  exact ⟨rfl, HB.out⟩
end Go.Proofs.YtahdlejgjcjeoaaGreatDoor
