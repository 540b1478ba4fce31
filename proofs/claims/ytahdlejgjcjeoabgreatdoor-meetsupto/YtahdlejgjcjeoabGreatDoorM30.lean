/- The program's cluster as New makes it is the model's. No walk. -/
import Derived.Test.YtahdlejgjcjeoabGreatDoorM29
import Derived.Test.YtahdlejgjcjeoabGreatDoorM20
import Derived.Test.YtahdlejgjcjeoabGreatDoorM14
namespace Go.Proofs.YtahdlejgjcjeoabGreatDoor
open Go.RowKit
theorem torn_rep {c : Clu} {r : Nat} {o : OpV} {keep : Int} (hr : r < c.reps.length) (he : c.opErr r o = 0) (q : Nat) : (c.tornOp r o keep).rep q = if q = r then ((c.rep r).tear [opAtom (c.rep r).atoms r o] keep).fall else c.rep q := by
  unfold Clu.tornOp
  rw [if_pos he]
  simp only [Int.toNat_natCast]
  exact rep_setRep c r q _ hr
theorem tear_dur (p : Rep) (d : List At) (keep : Int) : (p.tear d keep).fall.dur = p.dur ∨ (p.tear d keep).fall.dur = p.dur ++ d := by
  unfold Rep.tear
  split
  · exact .inl rfl
  · right
    show ((p.log ++ [(⟨1, p.num + 1, d⟩ : Rec)]).map (fun x => x.d)).flatten = _
    rw [dur_app]
    rfl
/-- Of what is there behind a torn update all but one atom was there. -/
theorem torn_one {c : Clu} {U : List At} {N : Nat} (_hok : c.ok U N) (hi : c.inv) {r : Nat} (hr : r < c.reps.length) (hd : (c.rep r).down = false) {o : OpV} (he : c.opErr r o = 0) (keep : Int) :
    ∃ j0, ∀ j, j < (tell ((c.tornOp r o keep).rep r).rise.atoms).length → j ≠ j0 → Lo [nth (tell ((c.tornOp r o keep).rep r).rise.atoms) j] (tell (c.rep r).atoms) := by
  have hu := hi.up hr hd
  rw [torn_rep hr he, if_pos rfl]
  have hat : (((c.rep r).tear [opAtom (c.rep r).atoms r o] keep).fall).rise.atoms = (((c.rep r).tear [opAtom (c.rep r).atoms r o] keep).fall).dur := by
    show ([] : List At) ++ _ = _
    rw [List.nil_append]
    rfl
  rw [hat]
  generalize hM : tell (((c.rep r).tear [opAtom (c.rep r).atoms r o] keep).fall).dur = M
  have hs : M.Pairwise (fun x y => plc x y < 0) := by rw [← hM]; exact (tell_told _).sorted
  have key : ∀ y ∈ M, Lo [y] (tell (c.rep r).atoms) ∨ y = opAtom (c.rep r).atoms r o := by
    intro y hy
    rw [← hM] at hy
    have hy' := ((tell_told _).great y hy).1
    have lo1 : y ∈ (c.rep r).dur → Lo [y] (tell (c.rep r).atoms) := fun h => (Lo.sub fun z hz => by
      obtain rfl : z = y := by simpa using hz
      exact h).trans (hu.2.trans (lo_tell _))
    rcases tear_dur (c.rep r) [opAtom (c.rep r).atoms r o] keep with e | e
    · rw [e] at hy'
      exact .inl (lo1 hy')
    · rw [e] at hy'
      rcases List.mem_append.1 hy' with h | h
      · exact .inl (lo1 h)
      · exact .inr (by simpa using h)
  by_cases hex : ∃ j, j < M.length ∧ nth M j = opAtom (c.rep r).atoms r o
  · obtain ⟨j0, h0, e0⟩ := hex
    refine ⟨j0, fun j hj hne => ?_⟩
    rcases key _ (nth_mem M j hj) with h | h
    · exact h
    · exfalso
      rw [nth_eq M j hj] at h
      rw [nth_eq M j0 h0] at e0
      have hp := List.pairwise_iff_getElem.1 hs
      rcases Nat.lt_or_gt_of_ne hne with hlt | hlt
      · have := hp j j0 hj h0 hlt
        rw [h, e0, plc_tp.refl] at this
        omega
      · have := hp j0 j h0 hj hlt
        rw [h, e0, plc_tp.refl] at this
        omega
  · refine ⟨M.length, fun j hj _ => ?_⟩
    rcases key _ (nth_mem M j hj) with h | h
    · exact h
    · exact absurd ⟨j, hj, h⟩ hex
/-- One element of a list, as a list. -/
theorem SliceOf.one {w : World} {ad : Option Addr} {cap : Nat} {l : List At} (h : SliceOf w (.slice ad l.length cap) l) {i : Nat} (hi : i < l.length) : ∃ b off, ad = some ⟨b, off, none⟩ ∧ ∀ cp, 1 ≤ cp → SliceOf w (.slice (some ⟨b, off + i * 6, none⟩) 1 cp) [nth l i] := by
  obtain ⟨ad', cap', e, hc, H⟩ := h
  cases e
  obtain ⟨b, off, rfl, hb, hrow⟩ := H (by omega)
  refine ⟨b, off, rfl, fun cp hcp => ⟨_, cp, rfl, hcp, fun _ => ⟨b, off + i * 6, rfl, hb, fun k hk => ?_⟩⟩⟩
  obtain rfl : k = 0 := by simpa using hk
  have := hrow i hi
  rw [nth_eq l i hi]
  simpa using this
end Go.Proofs.YtahdlejgjcjeoabGreatDoor

namespace Go.Proofs.YtahdlejgjcjeoabGreatDoor
open Go.RowKit
section
variable {Z : Snap} {w w' : World} {P x N : Nat} {g : Cf} {c : Clu} {D : List Bool} {L : List (List At)} {U : List At}
theorem Pm.pState (h : Pm Z w P x g c D L) (hok : c.ok U N) (r : Int) :
    Calls Tryz.prog 50 #[.pointer (some ⟨x, 0, none⟩), .int .i64 r] w fun e w' => ∃ ad cp out, e = .returned (.tuple #[.slice ad out.length cp, .int .i64 (c.works r)]) ∧ Hid (w'.ownsRow w.heap.size 76 6 (.slice ad out.length cp) out.length (flat out)) ∧ Hid (out = if c.works r = 0 then tell (c.rep r.toNat).atoms else []) ∧ Below w.heap.size w w' := by
  obtain ⟨col, K, vd, vh, H, p, hl⟩ := h
  refine (prgState p.prg (by decide) p.tab hok r).mono fun e w' ⟨v, out, h1, h2, h3, _, h4⟩ => ?_
  obtain ⟨ad, cp, hv⟩ := own_form h2
  subst hv
  exact ⟨ad, cp, out, h1, h2, h3, h4⟩

set_option maxRecDepth 100000 in
set_option maxHeartbeats 4000000 in
theorem Pm.lTorn_down (h : Pm Z w P x g c D L) (hok : c.ok U N) (hL : Lim U N) (hi : c.inv) (ht : Tells c D) {r : Nat} (hr : r < g.n) (op : OpV) (hf : fineOp op = true) (keep : Int) (hd : (c.rep r).down = true) :
    Calls Tryz.prog 95 #[.pointer (some ⟨P, 0, none⟩), .int .i64 r, op.val, .int .i64 keep] w fun e w' => e = .returned (.bool true) ∧ Pm Z w' P x g c D L := by
  have hrc : r < c.reps.length := by rw [h.len]; exact hr
  have htr := ht r hrc
  rw [hd] at htr
  have hE : c.opErr r op = 8 := by rw [opErr_of hrc hf, hd]; rfl
  have hct : c.tornOp r op keep = c := by unfold Clu.tornOp; rw [if_neg (by rw [hE]; decide)]
  have HTO := Hid.mk (fun (Z : Snap) W (hW : Pm Z W P x g c D L) => hW.pTorn hok hL hi r op (fine_short hf) keep)
  rw [hE, hct] at HTO
  have hn6 : g.n ≤ 6 := by rw [← h.len]; exact hok.n6
  have q0 : (0 : Int) ≤ (r : Int) := by omega
  have q1 : (r : Int) < (g.n : Int) := by omega
  clear hok hL hi ht hf hE hct
  obtain ⟨ty, key, side, elem, on⟩ := op
  unfold OpV.val at *
  simp only at HTO ⊢
  have HW0 := Hid.mk (h.same (below_alloc (Below.refl _ _) (.cells #[.int .i64 ty, .string key, .int .i64 side, .string elem, .int .i64 on] 31)))
  obtain ⟨-, s1, s2, s3, s4, s5⟩ := opc_blk HW0.out.cell0 (heap_alloc_new w (.cells #[.int .i64 ty, .string key, .int .i64 side, .string elem, .int .i64 on] 31))
  have c0 := h.cell0
  have hlt : P < w.heap.size := h.ltP
  obtain ⟨dB, dcap, k6, d0, -⟩ := HW0.out.downC hr
  obtain ⟨hB, hcap, hv, k7, e0, hsl, -⟩ := HW0.out.hadC hr
  obtain ⟨adv, cpv, hvv, -⟩ := hsl
  subst hvv
  rw [htr] at d0
  clear h
  go_enter Tryz.func95, Tryz.ntmps95
  go_wp2_with fail
  go_region_law (first | (go_simp; go_at_call 24; refine (HTO.out _ _ (by first | exact HW0.out.same (Below.refl _ _).drew | exact HW0.out)).mono ?_; rintro e w2 ⟨rfl, h2⟩; have HZ2 := Hid.mk h2; obtain ⟨dB', dcap', k6', d0', -⟩ := h2.downC hr; rw [htr] at d0') | fail)
  all_goals clear HTO HW0 h2
  all_goals go_wp2
  all_goals go_ret
  all_goals exact ⟨rfl, HZ2.out⟩

theorem atoms_keep {w1 w' : World} {base : Nat} {e : TypeId} {v : Value} {l : List At} (h : w1.ownsRow base e 6 v l.length (flat l)) (hs : w1.heap.size ≤ w'.heap.size) (hk : ∀ q, base ≤ q → q < w1.heap.size → w'.heap[q]? = w1.heap[q]?) : SliceOf w' v l := by
  rcases h.2 with ⟨rfl, h0⟩ | ⟨g, cap, cur, rfl, hg, hb, h1, h2, h3, h4⟩
  · exact ⟨none, 0, by rw [h0], by omega, fun h => by omega⟩
  · have hlt := (Array.getElem?_eq_some_iff.1 hb).1
    have hb' := (hk g hg hlt).trans hb
    exact ⟨_, cap, rfl, h1, fun _ => ⟨g, 0, rfl, Nat.lt_of_lt_of_le hlt hs, rowAt_of_block hb' h4⟩⟩

set_option maxRecDepth 100000 in
set_option maxHeartbeats 4000000 in
theorem Pm.lTorn_up (h : Pm Z w P x g c D L) (hok : c.ok U N) (hL1 : N + 1 ≤ 2097152 ∧ U.length + 1 ≤ 131072) (hi : c.inv) (ht : Tells c D) {r : Nat} (hr : r < g.n) (op : OpV) (hf : fineOp op = true) (keep : Int) (hd : (c.rep r).down = false) :
    Calls Tryz.prog 95 #[.pointer (some ⟨P, 0, none⟩), .int .i64 r, op.val, .int .i64 keep] w fun e w' => e = .returned (.bool true) ∧ ∃ D', (∃ L', Pm Z w' P x g ((c.tornOp r op keep).start r) D' L') ∧ Tells ((c.tornOp r op keep).start r) D' := by
  have hL : Lim U N := ⟨by omega, by omega⟩
  have hrc : r < c.reps.length := by rw [h.len]; exact hr
  have htr := ht r hrc
  rw [hd] at htr
  have hwz : c.works (r : Int) = 0 := by rw [works_rep hrc, hd]; rfl
  obtain ⟨E, HE⟩ : ∃ E, Hid (c.opErr r op = E) := ⟨_, rfl⟩
  have hE01 : E = 0 ∨ E = 2 := by
    rw [← HE.out, opErr_of hrc hf, hd]
    simp only [Bool.false_eq_true, if_false]
    split
    · exact .inr rfl
    · exact .inl rfl
  have HTO := Hid.mk (fun (Z : Snap) W (hW : Pm Z W P x g c D L) => hW.pTorn hok hL hi r op (fine_short hf) keep)
  rw [HE.out] at HTO
  have HSA := Hid.mk (fun W (hW : Pm Z W P x g c D L) => hW.pState hok r)
  rw [hwz] at HSA
  simp only [if_true, Int.toNat_natCast] at HSA
  have hTL := (ok_tell hok hL hwz).2
  simp only [Int.toNat_natCast] at hTL
  have hu := hi.up hrc hd
  have HLD := Hid.mk h.lenD
  have HLL := Hid.mk h.lenL
  obtain ⟨ct, HCT⟩ : ∃ ct, Hid (c.tornOp r op keep = ct) := ⟨_, rfl⟩
  -- a torn one is there no less
  obtain ⟨U', hU', -, hok'⟩ := hok.tornOp r op keep
  have hLim' : Lim U' (N + 1) := ⟨by omega, by omega⟩
  have hit := hi.tornOp hok r op keep
  rw [HCT.out] at HTO hok' hit ⊢
  have HLT : Hid (Lo (tell (c.rep r).atoms) (ct.rep r).dur) := (tell_lo _).trans (hu.1.trans (hit.2 r hrc))
  have hlen' : ct.reps.length = c.reps.length := by rw [← HCT.out]; exact len_tornOp _ _ _ _
  have HZE : Hid (E = 0 → (ct.rep r).down = true ∧ (∀ q, q ≠ r → (ct.rep q).down = (c.rep q).down) ∧ ∃ j0, ∀ j, j < (tell (ct.rep r).rise.atoms).length → j ≠ j0 → Lo [nth (tell (ct.rep r).rise.atoms) j] (tell (c.rep r).atoms)) := fun e0 => by
    have he : c.opErr r op = 0 := HE.out.trans e0
    have hrep := fun q => torn_rep (keep := keep) hrc he q
    rw [HCT.out] at hrep
    refine ⟨by rw [hrep, if_pos rfl]; rfl, fun q hq => by rw [hrep, if_neg hq], ?_⟩
    have := torn_one hok hi hrc hd he keep
    rwa [HCT.out] at this
  have HTWO : Hid (E = 2 → ct = c) := fun e2 => by
    rw [← HCT.out]
    unfold Clu.tornOp
    rw [if_neg (by rw [HE.out, e2]; decide)]
  have HSD := Hid.mk (fun (Zx : Snap) W (hD : Tells ct (D.set r true)) (hdd : (ct.rep r).down = true) (LL : List (List At)) (hW : Pm Zx W P x g ct (D.set r true) LL) => hW.lStart_down hok' hLim' hit.1 hD hr hdd)
  have HNL : Hid ((tell (ct.rep r).rise.atoms).length ≤ 131072 ∨ (ct.rep r).down = false) := by
    cases hdd : (ct.rep r).down
    · exact .inr rfl
    · left
      have hok2 := hok'.start (r : Int)
      have hrs := start_rep (by rw [hlen']; exact hrc) hdd r
      rw [if_pos rfl] at hrs
      have hws : (ct.start (r : Int)).works (r : Int) = 0 := by rw [works_rep (by rw [len_start, hlen']; exact hrc), hrs]; rfl
      have := (ok_tell hok2 hLim' hws).2
      simpa [hrs] using this
  have HT := Hid.mk ht
  have hn6 : g.n ≤ 6 := by rw [← h.len]; exact hok.n6
  have q0 : (0 : Int) ≤ (r : Int) := by omega
  have q1 : (r : Int) < (g.n : Int) := by omega
  have HLEN := Hid.mk hlen'
  clear hok hL hi ht hf hL1 hU' hok' hLim' hit hlen' hu hwz HCT HE
  generalize tell (c.rep r).atoms = T at *
  obtain ⟨ty, key, side, elem, on⟩ := op
  unfold OpV.val at *
  simp only at HTO ⊢
  have HW0 := Hid.mk (h.same (below_alloc (Below.refl _ _) (.cells #[.int .i64 ty, .string key, .int .i64 side, .string elem, .int .i64 on] 31)))
  have HB0 := Hid.mk (below_alloc (Below.refl _ w) (.cells #[.int .i64 ty, .string key, .int .i64 side, .string elem, .int .i64 on] 31))
  have HS1 := Hid.mk (heap_alloc_new w (.cells #[.int .i64 ty, .string key, .int .i64 side, .string elem, .int .i64 on] 31))
  have c0 := h.cell0
  have hlt : P < w.heap.size := h.ltP
  obtain ⟨dB, dcap, k6, d0, -⟩ := HW0.out.downC hr
  obtain ⟨hB, hcap, hv, k7, e0, hsl, -⟩ := HW0.out.hadC hr
  obtain ⟨adv, cpv, hvv, -⟩ := hsl
  subst hvv
  rw [htr] at d0
  have HPM := Hid.mk h
  clear h
  go_enter Tryz.func95, Tryz.ntmps95
  go_wp2_with fail
  refine (HSA.out _ (by first | exact HW0.out | exact HW0.out.same (Below.refl _ _).drew)).mono ?_
  rintro e w1 ⟨ad, cp, out, rfl, ho, he, hb1⟩
  have he' := he.out
  subst he'
  have HBC := Hid.mk (HB0.out.trans (hb1.mono HB0.out.size))
  obtain ⟨Z1, hZ1, hZP, back1⟩ := HPM.out.rebase HBC.out
  have HZ1 := Hid.mk hZ1
  have HZP := Hid.mk hZP
  have HK1 := Hid.mk back1
  have HOW := Hid.mk (owns_mono ho.out HB0.out.size)
  have hopc := (hb1.block _ (blk_lt HS1.out)).trans HS1.out
  obtain ⟨k0, t1, t2, t3, t4, t5⟩ := opc_blk hZ1.cell0 hopc
  clear HW0 HS1 c0 k6 d0 k7 e0 hZ1 hZP back1 ho he hb1 hopc HB0 HSA
  go_wp2_with fail
  go_cut [10] from 16 (fun t wd => t = .int .i64 E ∧ Hid (Pm Z1 wd P x g ct D L))
  case first =>
    go_region_law (first | (go_simp; go_at_call 24; refine (HTO.out _ _ (by first | exact HZ1.out.same (Below.refl _ _).drew | exact HZ1.out)).mono ?_; rintro e w2 ⟨rfl, h2⟩; have HZ2 := Hid.mk h2) | fail)
    all_goals clear HTO HLT HZE HTWO HSD HNL HT HLEN HPM HBC HZ1 HZP HK1 HOW h2
    all_goals go_wp2
    all_goals go_meet
    all_goals (case rel => exact ⟨rfl, HZ2⟩)
  case rest =>
    obtain ⟨rfl, hz2⟩ := hcut
    obtain ⟨wB, hwB⟩ : ∃ wB, wB = wc := ⟨_, rfl⟩
    subst hwB
    obtain ⟨dB, dcap, k6, d0, df, hset⟩ := hz2.out.downC hr
    rw [htr] at d0
    clear HTO k0 t1 t2 t3 t4 t5
    rcases hE01 with rfl | rfl
    · obtain ⟨z1, z2, j0, z3⟩ := HZE.out rfl
      have HJ := Hid.mk z3
      have HDT : Hid (Tells ct (D.set r true)) := HT.out.set HLEN.out (by rw [HLD.out]; exact hr) z1 z2
      have HP1 := Hid.mk (hset true)
      obtain ⟨hb, hcp, hu, k7, e0, ef, hp2⟩ := (hset true).putHad HZP.out HOW.out hTL hr HLT.out
      have HP2 := Hid.mk hp2
      have HST := Hid.mk (HSD.out Z1 _ HDT.out z1 _ hp2)
      obtain ⟨M, HM⟩ : ∃ M, Hid (tell (ct.rep r).rise.atoms = M) := ⟨_, rfl⟩
      have hML : M.length ≤ 131072 := by
        rw [← HM.out]
        rcases HNL.out with h | h
        · exact h
        · rw [z1] at h; cases h
      rw [HM.out] at HST HJ
      have HTS : Hid (Tells (ct.start r) ((D.set r true).set r false)) := HDT.out.set (len_start _ _) (by rw [List.length_set, HLD.out]; exact hr) (by rw [start_rep (by rw [HLEN.out]; exact hrc) z1, if_pos rfl]; rfl) (fun q hq => by rw [start_rep (by rw [HLEN.out]; exact hrc) z1, if_neg hq])
      have HGD : Hid (((L.set r out).set r M).getD r [] = M) := by
        show List.getD _ _ _ = _
        rw [List.getD_eq_getElem?_getD, List.getElem?_set_self (by rw [List.length_set, HLL.out]; exact hr)]
        rfl
      clear hset hp2 z1 z2 z3 HZE HTWO HSD HNL HT HPM HBC HZ1 HZP hz2 HP1 HDT HM HLT HLEN
      go_wp2_with fail
      refine HST.out.mono ?_
      rintro e w4 ⟨rfl, h4⟩
      have HN4 := Hid.mk h4
      obtain ⟨b7, cp7, v7, k7', e7, hs7, -⟩ := h4.hadC hr
      rw [HGD.out] at hs7
      obtain ⟨h40, hsz1, hsame1⟩ := HK1.out _ _ _ _ h4
      have HF4 := Hid.mk h40
      have HSW := Hid.mk (atoms_keep HOW.out hsz1 hsame1)
      obtain ⟨ad7, cap7, hv7, hc7, -⟩ := id hs7
      subst hv7
      have HS7 := Hid.mk hs7
      clear h4 h40 hsz1 hsame1 HK1 HOW HGD HST HP2 hs7 k6 d0 df k7 e0 ef
      go_wp2
      go_loopw [13, 14] (fun t s wr => ∃ i m : Nat, i ≤ M.length ∧ t = .int .i64 m ∧ s = .int .i64 i ∧ m ≤ 1 ∧ (m = 1 → j0 < i) ∧ Below w4.heap.size w4 wr) (fun _ s _ => M.length - (intOf s).toNat)
      case atStart => exact ⟨0, 0, Nat.zero_le _, rfl, rfl, by omega, fun e => by omega, Below.refl _ _⟩
      case round =>
        obtain ⟨i, m, hil, rfl, rfl, hm, hmj, hbw⟩ := hrel
        by_cases hlt' : i < M.length
        · obtain ⟨bb, off, hadq, hone⟩ := (HS7.out.below hbw).one hlt'
          subst hadq
          have p1 : (0 : Int) ≤ (i : Int) := by omega
          have p2 : (i : Int) < (M.length : Int) := by omega
          have p3 : (i : Int) + 1 ≤ (M.length : Int) := by omega
          have HBL := Hid.mk (fun cp1 (hc : 1 ≤ cp1) => below_lo (.slice (some ⟨bb, off + i * 6, none⟩) 1 cp1) (.slice ad out.length cp) [nth M i] out wr (hone cp1 hc) (HSW.out.below hbw) (by simp) (by omega))
          have HJI : Hid (i ≠ j0 → Lo [nth M i] out) := fun hne => HJ.out i hlt' hne
          have p4 : (i : Int) + 1 ≤ (cap7 : Int) := by omega
          clear hone
          go_wp2_with fail
          refine (HBL.out (cap7 - i) (by omega)).mono ?_
          rintro e w5 ⟨b5, rfl, hb5, hbel⟩
          have HB5 := Hid.mk (hbw.trans (hbel.mono hbw.size))
          cases b5
          · have hij : i = j0 := Classical.byContradiction fun hne => by
              have := hb5.out (HJI.out hne)
              cases this
            have hm0 : m = 0 := Classical.byContradiction fun hne => by
              have := hmj (by omega)
              omega
            subst hm0
            clear HBL HJI hb5 hbel
            go_wp2
            exact ⟨⟨i + 1, 1, by omega, by go_num, by go_num, by omega, fun _ => by omega, HB5.out⟩, by simp [intOf]; omega⟩
          · clear HBL HJI hb5 hbel
            go_wp2
            exact ⟨⟨i + 1, m, by omega, rfl, by go_num, hm, fun e => by have := hmj e; omega, HB5.out⟩, by simp [intOf]; omega⟩
        · have p2 : ¬ (i : Int) < (M.length : Int) := by omega
          have p3 : (m : Int) ≤ 1 := by omega
          have HF5 := Hid.mk (HF4.out.same hbw)
          go_wp2
          go_ret
          exact ⟨by simp, _, ⟨_, HF5.out⟩, HTS.out⟩
    · have hcc := HTWO.out rfl
      have HFIN := Hid.mk (HK1.out _ _ _ _ hz2.out).1
      have hst : ct.start (r : Int) = c := by
        rw [hcc]
        unfold Clu.start
        rw [if_neg]
        rw [startErr_of hrc, hd]
        decide
      rw [hcc] at HFIN
      have HTT := Hid.mk HT.out
      clear HZE HTWO HSD HNL HPM HBC HZ1 HZP HK1 HOW hz2 hset HLT HLEN
      go_wp2
      go_ret
      exact ⟨rfl, D, ⟨L, by rw [hst]; exact HFIN.out⟩, by rw [hst]; exact HTT.out⟩
end
end Go.Proofs.YtahdlejgjcjeoabGreatDoor

namespace Go.Proofs.YtahdlejgjcjeoabGreatDoor
open Go.RowKit Go.MuLone

structure FillQ (w wc : World) (x R n r : Nat) (bp rr : Bool) (room : Int) (F : Nat → Nat → Bool) : Prop extends FillP w wc x R n r bp rr room F where
  bR : ∃ cur, wc.heap[R]? = some (.cells cur 126 (0, 0)) ∧ cur.size = n * 14
  ms : ∃ ms : Nat → Nat, (∀ i, i < r → wc.rangeAt R (i * 14) (rec14 (ms i)) ∧ StMap wc (ms i) 0 noMap ∧ ms i ≠ x ∧ ms i ≠ R ∧ w.heap.size ≤ ms i) ∧ ∀ i j, i < j → j < r → ms i < ms j
theorem MadeP.startQ {w wc : World} {x R n : Nat} {bp rr : Bool} {room : Int} {F : Nat → Nat → Bool} (h : MadeP w wc x R n bp rr room F) : FillQ w wc x R n 0 bp rr room F :=
  { h.start with
    bR := ⟨_, h.bR, by rw [List.size_toArray, zeros_length]⟩
    ms := ⟨fun _ => 0, fun i hi => by omega, fun i j _ hj => by omega⟩ }
theorem FillQ.stepQ {w wc : World} {x R n r : Nat} {bp rr : Bool} {room : Int} {F : Nat → Nat → Bool} (h : FillQ w wc x R n r bp rr room F) (hr : r < n) : FillQ w ((wc.alloc (.map #[] 0)).setCells R (r * 14) (rec14 wc.heap.size)) x R n (r + 1) bp rr room F :=
  { h.toFillP.step hr with
    bR := by
      obtain ⟨cur, h1, h2⟩ := h.bR
      have h3 : (wc.alloc (.map #[] 0)).heap[R]? = some (.cells cur 126 (0, 0)) := (((Below.refl wc.heap.size wc).alloc (Nat.le_refl _) _).block R h.ltR).trans h1
      exact ⟨_, heap_putA (rec14 wc.heap.size) (r * 14) h3, by rw [putA_size]; exact h2⟩
    ms := by
      obtain ⟨ms, h1, h2⟩ := h.ms
      refine ⟨fun i => if i = r then wc.heap.size else ms i, fun i hi => ?_, fun i j hij hj => ?_⟩
      · dsimp only
        by_cases e : i = r
        · rw [if_pos e]
          subst e
          refine ⟨World.rangeAt_setCells_same _ _ _ _ (World.there_alloc (h.th i hr) _), ?_, ?_, ?_, h.bel.size⟩
          · exact (stMap_made wc).kept (grown_setCells _ _ _) (fun e => by have := h.ltR; have := Option.some.inj e; omega)
          · have := blk_lt h.bx; omega
          · have := h.ltR; omega
        · rw [if_neg e]
          obtain ⟨g1, g2, g3, g4, g5⟩ := h1 i (by omega)
          refine ⟨World.rangeAt_setCells_apart (World.rangeAt_alloc g1 _) _ _ _ (.inr (.inl ?_)), ?_, g3, g4, g5⟩
          · show i * 14 + 14 ≤ r * 14
            omega
          · exact (g2.kept (World.grownBy_alloc wc _ none) (by simp)).kept (grown_setCells _ _ _) (fun e => g4 (Option.some.inj e))
      · dsimp only
        rw [if_neg (by omega : ¬ i = r)]
        by_cases e : j = r
        · rw [if_pos e]
          exact (h1 i (by omega)).2.1.lt
        · rw [if_neg e]
          exact h2 i j hij (by omega) }

set_option maxRecDepth 100000 in
set_option maxHeartbeats 4000000 in
theorem prgNew2 (v : Value) (es : List (Int × Int)) (reps room : Int) (bp rr : Bool) (w : World) (hv : EdgesOf w v es) (hlen : es.length ≤ 1048576) :
    Calls Tryz.prog 18 #[.agg #[.int .i64 reps, v, .bool bp, .bool rr, .int .i64 room]] w fun e w' => Below w.heap.size w w' ∧ ((newOk reps room es = false ∧ e = .returned (.tuple #[.pointer none, .int .i64 4])) ∨ (newOk reps room es = true ∧ ∃ x R, e = .returned (.tuple #[.pointer (some ⟨x, 0, none⟩), .int .i64 0]) ∧ ∃ F, linkAll reps.toNat noE es = some F ∧ FillQ w w' x R reps.toNat reps.toNat bp rr room F)) := by
  have HE : Hid (EdgesOf w v es) := hv
  obtain ⟨ad, cap, rfl, -⟩ := hv
  go_enter Tryz.func18, Tryz.ntmps18
  go_wp2_with fail
  refine (sizes_any reps room ad es.length cap bp rr _).mono ?_
  rintro e w1 ⟨rfl, hb1⟩
  have hbw1 : Below w.heap.size w w1 := (below_alloc (Below.refl _ w) _).trans (hb1.mono (by simp))
  have hx1 : w1.heap[w.heap.size]? = some (.cells #[.int .i64 reps, .slice ad es.length cap, .bool bp, .bool rr, .int .i64 room] 24 (0, 0)) := (hb1.block _ (by simp)).trans (heap_alloc_new w _)
  by_cases hs : 1 ≤ reps ∧ reps ≤ 6 ∧ 1 ≤ room ∧ room ≤ 8
  · obtain ⟨n, rfl⟩ : ∃ n : Nat, reps = n := ⟨reps.toNat, by omega⟩
    have hnk : newOk n room es = (linkAll n noE es).isSome := by unfold newOk; rw [decide_eq_true hs]; simp
    have k0 := blk_cell hx1 0
    have k1 := blk_cell hx1 1
    have k2 := blk_cell hx1 2
    have k3 := blk_cell hx1 3
    have k4 := blk_cell hx1 4
    simp at k0 k1 k2 k3 k4
    rw [decide_eq_true hs]
    clear hb1
    have HX1 : Hid (w1.heap[w.heap.size]? = some (.cells #[.int .i64 n, .slice ad es.length cap, .bool bp, .bool rr, .int .i64 room] 24 (0, 0))) := hx1
    clear hx1
    go_wp2_with fail
    refine (link_any _ es n w1 (HE.out.below hbw1) (by omega) hlen).mono ?_
    rintro e w2 ⟨rfl, hb2⟩
    have hl1 := blk_lt HX1.out
    have HX2 : Hid (w2.heap[w.heap.size]? = some (.cells #[.int .i64 n, .slice ad es.length cap, .bool bp, .bool rr, .int .i64 room] 24 (0, 0))) := (hb2.block _ hl1).trans HX1.out
    have hbw2 : Below w.heap.size w w2 := hbw1.trans (hb2.mono hbw1.size)
    clear k0 k1 k2 k3 k4 HX1 hb2
    have hz := heap_alloc_new w2 (.cells (linkB noE).toArray 104)
    generalize hlk : linkAll n noE es = lk at *
    generalize hF : lk.getD noE = F at *
    go_upto_if 20 with (refine wpList_store_row rfl 104 _ _ rfl w2.heap.size (linkB F).toArray rfl rfl _ _ hz (linkI F) rfl (linkB_one F) ?_)
    have hb3 : Below w2.heap.size w2 ((w2.alloc (.cells (linkB noE).toArray 104)).setRow w2.heap.size (linkB F).toArray) := (LinkAt.over (w := w2) hz ((Below.refl _ w2).alloc (Nat.le_refl _) _) F).2
    have hL3 : LinkAt ((w2.alloc (.cells (linkB noE).toArray 104)).setRow w2.heap.size (linkB F).toArray) w2.heap.size F := (LinkAt.over (w := w2) hz ((Below.refl _ w2).alloc (Nat.le_refl _) _) F).1
    obtain ⟨w3, hw3⟩ : ∃ w3 : World, w3 = (w2.alloc (.cells (linkB noE).toArray 104)).setRow w2.heap.size (linkB F).toArray := ⟨_, rfl⟩
    have hsame : ∀ W : World, W = (w2.alloc (.cells (linkB noE).toArray 104)).setRow w2.heap.size (linkB F).toArray → W = w3 := fun W h => h.trans hw3.symm
    rw [← hw3] at hb3 hL3
    change Code.wp _ _ _ _ ((w2.alloc (.cells (linkB noE).toArray 104)).setRow w2.heap.size (linkB F).toArray)
    rw [← hw3]
    clear hw3 hsame hz
    have HB3 : Hid (Below w.heap.size w w3) := hbw2.trans (hb3.mono hbw2.size)
    have HX3 : Hid (w3.heap[w.heap.size]? = some (.cells #[.int .i64 n, .slice ad es.length cap, .bool bp, .bool rr, .int .i64 room] 24 (0, 0))) := (hb3.block _ (blk_lt HX2.out)).trans HX2.out
    have HL3 : Hid (LinkAt w3 w2.heap.size F) := hL3
    clear hb3 hL3 hbw1 hbw2 HX2
    cases lk with
    | none =>
      go_wp2
      go_ret2
      exact ⟨HB3.out, .inl ⟨hnk, rfl⟩⟩
    | some f =>
      go_upto_region 6 with fail
      go_cut [6] from 8 (fun s6 wc => ∃ x R : Nat, s6 = .pointer (some ⟨x, 0, none⟩) ∧ Hid (MadeP w wc x R n bp rr room F))
      case first =>
        have k0 := blk_cell HX3.out 0
        have k1 := blk_cell HX3.out 1
        have k2 := blk_cell HX3.out 2
        have k3 := blk_cell HX3.out 3
        have k4 := blk_cell HX3.out 4
        simp at k0 k1 k2 k3 k4
        have hrg : w3.rangeAt w2.heap.size 0 [.bool (F 0 0), .bool (F 0 1), .bool (F 0 2), .bool (F 0 3), .bool (F 0 4), .bool (F 0 5), .bool (F 1 0), .bool (F 1 1), .bool (F 1 2), .bool (F 1 3), .bool (F 1 4), .bool (F 1 5), .bool (F 2 0), .bool (F 2 1), .bool (F 2 2), .bool (F 2 3), .bool (F 2 4), .bool (F 2 5), .bool (F 3 0), .bool (F 3 1), .bool (F 3 2), .bool (F 3 3), .bool (F 3 4), .bool (F 3 5), .bool (F 4 0), .bool (F 4 1), .bool (F 4 2), .bool (F 4 3), .bool (F 4 4), .bool (F 4 5), .bool (F 5 0), .bool (F 5 1), .bool (F 5 2), .bool (F 5 3), .bool (F 5 4), .bool (F 5 5)] := by
          intro j u hu
          have hj : j < 36 := (List.getElem?_eq_some_iff.1 hu).1
          rw [Nat.zero_add, HL3.out.cell j hj, ← linkB_get F j hj, List.getElem?_toArray]
          exact hu
        have hmk := fun W => make_reps n (by omega) W
        refine wp_region_held_drew (S := fun w' => w'.cell? ⟨w.heap.size, 0, none⟩ = some (.int .i64 n) ∧ w'.cell? ⟨w.heap.size, 2, none⟩ = some (.bool bp) ∧ w'.cell? ⟨w.heap.size, 3, none⟩ = some (.bool rr) ∧ w'.cell? ⟨w.heap.size, 4, none⟩ = some (.int .i64 room) ∧ w'.rangeAt w2.heap.size 0 [.bool (F 0 0), .bool (F 0 1), .bool (F 0 2), .bool (F 0 3), .bool (F 0 4), .bool (F 0 5), .bool (F 1 0), .bool (F 1 1), .bool (F 1 2), .bool (F 1 3), .bool (F 1 4), .bool (F 1 5), .bool (F 2 0), .bool (F 2 1), .bool (F 2 2), .bool (F 2 3), .bool (F 2 4), .bool (F 2 5), .bool (F 3 0), .bool (F 3 1), .bool (F 3 2), .bool (F 3 3), .bool (F 3 4), .bool (F 3 5), .bool (F 4 0), .bool (F 4 1), .bool (F 4 2), .bool (F 4 3), .bool (F 4 4), .bool (F 4 5), .bool (F 5 0), .bool (F 5 1), .bool (F 5 2), .bool (F 5 3), .bool (F 5 4), .bool (F 5 5)]) (by kernel_rfl) ⟨by simpa using k0, by simpa using k2, by simpa using k3, by simpa using k4, by simpa using hrg⟩ (fun hHeld => ?_)
        refine wpAnyH_take (i := 0) (oi := _) (v := ?_) rfl (by kernel_rfl) (by kernel_rfl) (by kernel_rfl) (fun _ _ _ h => h) (Or.inl ⟨by rfl, ?_⟩) (by assumption) ?_
        rotate_left
        · intro w hSw
          try dsimp only at hSw
          go_simp <;> with_reducible rfl
        simp only [Act.put, List.setIfInBounds_toArray]
        refine wpAnyH_take (i := 1) (oi := _) (v := ?_) rfl (by kernel_rfl) (by kernel_rfl) (by kernel_rfl) (fun _ _ _ h => h) (Or.inl ⟨by rfl, ?_⟩) (by assumption) ?_
        rotate_left
        · intro w hSw
          try dsimp only at hSw
          go_simp <;> with_reducible rfl
        simp only [Act.put]
        refine wpAnyH_take (i := 2) (oi := _) (v := ?_) rfl (by kernel_rfl) (by kernel_rfl) (by kernel_rfl) (fun _ _ _ h => h) (Or.inl ⟨by rfl, ?_⟩) (by assumption) ?_
        rotate_left
        · intro w hSw
          try dsimp only at hSw
          go_simp <;> with_reducible rfl
        simp only [Act.put]
        refine wpAnyH_take (i := 3) (oi := _) (v := ?_) rfl (by kernel_rfl) (by kernel_rfl) (by kernel_rfl) (fun _ _ _ h => h) (Or.inl ⟨by rfl, ?_⟩) (by assumption) ?_
        rotate_left
        · intro w hSw
          try dsimp only at hSw
          go_simp <;> with_reducible rfl
        simp only [Act.put]
        refine wpAnyH_take (i := 4) (oi := _) (v := ?_) rfl (by kernel_rfl) (by kernel_rfl) (by kernel_rfl) (fun _ _ _ h => h) (Or.inl ⟨by rfl, ?_⟩) (by assumption) ?_
        rotate_left
        · intro w hSw
          try dsimp only at hSw
          go_simp <;> with_reducible rfl
        simp only [Act.put]
        refine wpAnyH_take (i := 5) (oi := _) (v := ?_) rfl (by kernel_rfl) (by kernel_rfl) (by kernel_rfl) (fun _ _ _ h => h) (Or.inl ⟨by rfl, ?_⟩) (by assumption) ?_
        rotate_left
        · intro w hSw
          try dsimp only at hSw
          go_simp <;> with_reducible rfl
        simp only [Act.put]
        refine' wpAnyH_take (i := 6) (oi := _) (v := _) rfl (by kernel_rfl) (by kernel_rfl) (by kernel_rfl) (fun _ _ _ h => h) (yieldsIf_load_mid (by rfl) _ _ rfl _ _ rfl [.bool (F 0 0), .bool (F 0 1), .bool (F 0 2), .bool (F 0 3), .bool (F 0 4), .bool (F 0 5), .bool (F 1 0), .bool (F 1 1), .bool (F 1 2), .bool (F 1 3), .bool (F 1 4), .bool (F 1 5), .bool (F 2 0), .bool (F 2 1), .bool (F 2 2), .bool (F 2 3), .bool (F 2 4), .bool (F 2 5), .bool (F 3 0), .bool (F 3 1), .bool (F 3 2), .bool (F 3 3), .bool (F 3 4), .bool (F 3 5), .bool (F 4 0), .bool (F 4 1), .bool (F 4 2), .bool (F 4 3), .bool (F 4 4), .bool (F 4 5), .bool (F 5 0), .bool (F 5 1), .bool (F 5 2), .bool (F 5 3), .bool (F 5 4), .bool (F 5 5)] _ (fun w hSw => hSw.2.2.2.2) Tryz.underlying104 rfl infoLinks) (by assumption) ?_
        simp only [Act.put]
        refine wpAnyH_take (i := 7) (oi := _) (v := ?_) rfl (by kernel_rfl) (by kernel_rfl) (by kernel_rfl) (fun _ _ _ h => h) (Or.inl ⟨by rfl, ?_⟩) (by assumption) ?_
        rotate_left
        · intro w hSw
          try dsimp only at hSw
          go_simp <;> with_reducible rfl
        simp only [Act.put]
        refine wpAnyH_take (i := 8) (oi := _) (v := ?_) rfl (by kernel_rfl) (by kernel_rfl) (by kernel_rfl) (fun _ _ _ h => h) (Or.inl ⟨by rfl, ?_⟩) (by assumption) ?_
        rotate_left
        · intro w hSw
          try dsimp only at hSw
          go_simp <;> with_reducible rfl
        simp only [Act.put]
        refine wpAnyH_ready (rs := [9]) (by kernel_rfl) (by simp) ?_
        refine AllReadyH.cons (o := _) rfl (fun K hK => ?_) AllReadyH.nil
        go_simp
        refine hK.out _ _ ?_ (fun hHeld => ?_)
        · exact ⟨cellKeepA k0 _, cellKeepA k2 _, cellKeepA k3 _, cellKeepA k4 _, World.rangeAt_alloc hrg _⟩
        clear hK K
        refine wpAnyH_take (i := 10) (oi := _) (v := ?_) rfl (by kernel_rfl) (by kernel_rfl) (by kernel_rfl) (fun _ _ _ h => h) (Or.inl ⟨by rfl, ?_⟩) (by assumption) ?_
        rotate_left
        · intro w hSw
          try dsimp only at hSw
          go_simp <;> with_reducible rfl
        simp only [Act.put, List.setIfInBounds_toArray]
        refine wpAnyH_ready (rs := [11]) (by kernel_rfl) (by simp) ?_
        refine AllReadyH.cons (o := _) rfl (fun K hK => ?_) AllReadyH.nil
        go_simp
        refine hK.out _ _ ?_ (fun hHeld => ?_)
        · exact ⟨cellKeepA (cellKeepA k0 _) _, cellKeepA (cellKeepA k2 _) _, cellKeepA (cellKeepA k3 _) _, cellKeepA (cellKeepA k4 _) _, World.rangeAt_alloc (World.rangeAt_alloc hrg _) _⟩
        clear hK K
        refine wpAnyH_take (i := 12) (oi := _) (v := ?_) rfl (by kernel_rfl) (by kernel_rfl) (by kernel_rfl) (fun _ _ _ h => h) (Or.inl ⟨by rfl, ?_⟩) (by assumption) ?_
        rotate_left
        · intro w hSw
          try dsimp only at hSw
          go_simp <;> with_reducible rfl
        simp only [Act.put, List.setIfInBounds_toArray]
        refine wpAnyH_done (by kernel_rfl) ?_ _
        go_wp2
        go_meet
        case rel =>
          have h2 := two_blocks w3 (.cells (zeros n).toArray 126) (.cells (clB bp rr room F w3.heap.size n).toArray 108)
          have hsz := HB3.out.size
          exact ⟨w3.heap.size + 1, w3.heap.size, rfl, (below_alloc (below_alloc HB3.out _) _).drew, h2.1, h2.2, by omega, hsz⟩
      case rest =>
        obtain ⟨x, R, rfl, hmade⟩ := hcut
        have c41 : wc.cell? ⟨x, 41, none⟩ = some (.slice (some ⟨R, 0, none⟩) n n) := (blk_cell hmade.out.bx 41).trans rfl
        clear HX3 HL3 HB3
        go_wp2
        have HS : Hid (FillQ w wc x R n 0 bp rr room F) := hmade.out.startQ
        clear hmade c41
        go_loopw [7, 38] (fun _ s wr => ∃ j : Nat, j ≤ n ∧ s = .int .i64 j ∧ Hid (FillQ w wr x R n j bp rr room F)) (fun _ s _ => n - (intOf s).toNat)
        case atStart => exact ⟨0, Nat.zero_le _, rfl, HS⟩
        case round =>
          clear HS
          obtain ⟨j, hj, rfl, hst⟩ := hrel
          by_cases hl : j < n
          · have q1 : (j : Int) < (n : Int) := by omega
            have q2 : (0 : Int) ≤ (j : Int) := by omega
            have c41 : wr.cell? ⟨x, 41, none⟩ = some (.slice (some ⟨R, 0, none⟩) n n) := (blk_cell hst.out.bx 41).trans rfl
            have ht : (wr.alloc (.map #[] 0)).there R (j * 14) 14 := World.there_alloc (hst.out.th j hl) _
            have HN := Hid.mk (hst.out.stepQ hl)
            have hmm := @run_makeMap Tryz.prog
            obtain ⟨v0, c0⟩ := Option.isSome_iff_exists.1 (ht 0 (by decide)).1
            have f0 := (ht 0 (by decide)).2
            obtain ⟨v1, c1⟩ := Option.isSome_iff_exists.1 (ht 1 (by decide)).1
            have f1 := (ht 1 (by decide)).2
            obtain ⟨v2, c2⟩ := Option.isSome_iff_exists.1 (ht 2 (by decide)).1
            have f2 := (ht 2 (by decide)).2
            obtain ⟨v3, c3⟩ := Option.isSome_iff_exists.1 (ht 3 (by decide)).1
            have f3 := (ht 3 (by decide)).2
            obtain ⟨v4, c4⟩ := Option.isSome_iff_exists.1 (ht 4 (by decide)).1
            have f4 := (ht 4 (by decide)).2
            obtain ⟨v5, c5⟩ := Option.isSome_iff_exists.1 (ht 5 (by decide)).1
            have f5 := (ht 5 (by decide)).2
            obtain ⟨v6, c6⟩ := Option.isSome_iff_exists.1 (ht 6 (by decide)).1
            have f6 := (ht 6 (by decide)).2
            obtain ⟨v7, c7⟩ := Option.isSome_iff_exists.1 (ht 7 (by decide)).1
            have f7 := (ht 7 (by decide)).2
            obtain ⟨v8, c8⟩ := Option.isSome_iff_exists.1 (ht 8 (by decide)).1
            have f8 := (ht 8 (by decide)).2
            obtain ⟨v9, c9⟩ := Option.isSome_iff_exists.1 (ht 9 (by decide)).1
            have f9 := (ht 9 (by decide)).2
            obtain ⟨v10, c10⟩ := Option.isSome_iff_exists.1 (ht 10 (by decide)).1
            have f10 := (ht 10 (by decide)).2
            obtain ⟨v11, c11⟩ := Option.isSome_iff_exists.1 (ht 11 (by decide)).1
            have f11 := (ht 11 (by decide)).2
            obtain ⟨v12, c12⟩ := Option.isSome_iff_exists.1 (ht 12 (by decide)).1
            have f12 := (ht 12 (by decide)).2
            obtain ⟨v13, c13⟩ := Option.isSome_iff_exists.1 (ht 13 (by decide)).1
            have f13 := (ht 13 (by decide)).2
            rw [Nat.add_zero] at c0 f0
            clear ht hst
            go_wp2
            exact ⟨⟨j + 1, by omega, by go_num, HN.out⟩, by simp [intOf]; omega⟩
          · obtain rfl : j = n := by omega
            have q1 : ¬ (j : Int) < (j : Int) := by omega
            go_wp2
            go_ret2
            have hff : f = F := hF
            have hQ : FillQ w wr x R j j bp rr room f := by rw [hff]; exact hst.out
            exact ⟨hQ.bel, x, by rfl, R, hQ⟩
  · have hnk : newOk reps room es = false := by unfold newOk; rw [decide_eq_false hs]; rfl
    rw [decide_eq_false hs]
    clear hb1 hx1
    go_wp2
    go_ret2
    exact ⟨hbw1, .inl ⟨hnk, rfl⟩⟩
end Go.Proofs.YtahdlejgjcjeoabGreatDoor

namespace Go.Proofs.YtahdlejgjcjeoabGreatDoor
open Go.RowKit

def newP (m : Nat) : PrD := ⟨true, 0, 0, m, 0, noMap, .slice none 0 0, [], fun _ => 0, .slice none 0 0, [], 0, 0⟩
theorem newP_cells (m : Nat) : (newP m).cells = rec14 m := rfl
def newPcol (col : Col) (o B x R n : Nat) (ms : Nat → Nat) : Col := fun q =>
  if q < B then col q else if q = x then (o, 0) else if q = R then (o, 2) else match (List.range n).find? (fun i => ms i == q) with | some i => (o, 10 + i) | none => (o, 9)

theorem FillQ.prgAt {w wc : World} {x R n : Nat} {bp rr : Bool} {room : Int} {F : Nat → Nat → Bool} (h : FillQ w wc x R n n bp rr room F) (hroom : 0 ≤ room) (col : Col) (o : Nat) :
    ∃ K col', PrgAt wc col' o x K (clu0 room.toNat bp rr n F) ∧ ∀ S, FrC S col col' w wc := by
  obtain ⟨ms, hm, hlt⟩ := h.ms
  obtain ⟨cur, hcur, hsz⟩ := h.bR
  have hinj : ∀ i j, i < n → j < n → ms i = ms j → i = j := fun i j hi hj e => by
    rcases Nat.lt_trichotomy i j with h1 | h1 | h1
    · have := hlt i j h1 hj; omega
    · exact h1
    · have := hlt j i h1 hi; omega
  have cX : newPcol col o w.heap.size x R n ms x = (o, 0) := by
    unfold newPcol
    rw [if_neg (by have := h.hx; omega), if_pos rfl]
  have cR : newPcol col o w.heap.size x R n ms R = (o, 2) := by
    unfold newPcol
    rw [if_neg (by have := h.hR; omega), if_neg (fun e => h.xR e.symm), if_pos rfl]
  have cM : ∀ i, i < n → newPcol col o w.heap.size x R n ms (ms i) = (o, 10 + i) := fun i hi => by
    obtain ⟨_, _, g3, g4, g5⟩ := hm i hi
    unfold newPcol
    rw [if_neg (by omega), if_neg g3, if_neg g4]
    have hf : (List.range n).find? (fun j => ms j == ms i) = some i := by
      rw [List.find?_eq_some_iff_append]
      refine ⟨by simp, List.range i, (List.range (n - i - 1)).map (· + (i + 1)), ?_, fun a ha => ?_⟩
      · apply List.ext_getElem
        · simp; omega
        · intro k k1 k2
          simp only [List.length_range] at k1
          rcases Nat.lt_trichotomy k i with e | e | e
          · rw [List.getElem_append_left (by simp; omega)]; simp
          · subst e
            rw [List.getElem_append_right (by simp)]; simp
          · rw [List.getElem_append_right (by simp; omega)]
            simp only [List.length_range, List.getElem_range]
            obtain ⟨d, hd⟩ : ∃ d, k - i = d + 1 := ⟨k - i - 1, by omega⟩
            simp only [hd, List.getElem_cons_succ, List.getElem_map, List.getElem_range]
            omega
      · simp only [List.mem_range] at ha
        simp only [Bool.not_eq_true', beq_eq_false_iff_ne]
        exact fun e => by have := hinj a i (by omega) hi e; omega
    rw [hf]
  refine ⟨⟨0, bp, rr, room.toNat, F, R, .slice none 0 0, (List.range n).map fun i => newP (ms i), []⟩, newPcol col o w.heap.size x R n ms, ⟨?_, ?_, ?_⟩, fun S => ⟨⟨h.bel.os, h.bel.tape, h.bel.output, h.bel.size, fun q hq _ => h.bel.block q hq⟩, fun q hq => by unfold newPcol; rw [if_pos hq]⟩⟩
  · exact {
      blk := by
        rw [h.bx]
        have e : ((room.toNat : Nat) : Int) = room := by omega
        simp [clB, PrK.block, e]
      cx := cX
      row := by
        show wc.heap[R]? = some (.cells (((List.range n).map fun i => newP (ms i)).flatMap PrD.cells).toArray _ _)
        rw [hcur]
        congr 2
        have hl : (((List.range n).map fun i => newP (ms i)).flatMap PrD.cells).length = n * 14 := by rw [flatMap_len PrD.cells 14 PrD.cells_length]; simp
        apply Array.ext_getElem?
        intro k
        by_cases hk : k < n * 14
        · have hi : k / 14 < n := Nat.div_lt_of_lt_mul (by omega)
          have hj : k % 14 < 14 := Nat.mod_lt _ (by omega)
          have hkk : k / 14 * 14 + k % 14 = k := by omega
          obtain ⟨g1, _⟩ := hm (k / 14) hi
          have hl14 : k % 14 < (rec14 (ms (k / 14))).length := hj
          have hc := g1 (k % 14) _ (List.getElem?_eq_getElem hl14)
          rw [hkk, blk_cell hcur] at hc
          rw [hc, List.getElem?_toArray]
          have := flatMap_get PrD.cells 14 PrD.cells_length ((List.range n).map fun i => newP (ms i)) (k / 14) (k % 14) (by simpa using hi) hj
          rw [hkk] at this
          rw [this]
          simp only [List.getElem_map, List.getElem_range, newP_cells]
          rw [List.getElem?_eq_getElem hl14]
        · rw [Array.getElem?_eq_none (by omega), Array.getElem?_eq_none (by rw [List.size_toArray]; omega)]
      cR := cR
      net := rowC_nil _ _ _ _ _
      netd := fun f hf => by cases hf
      reps := fun i hi _ => by
        have hi' : i < n := by simpa using hi
        have e : ((List.range n).map fun i => newP (ms i))[i] = newP (ms i) := by simp
        show PrRep wc _ o i (((List.range n).map fun i => newP (ms i))[i])
        rw [e]
        exact ⟨(hm i hi').2.1, cM i hi', rowC_nil _ _ _ _ _, (fun e he => by cases he), rowC_nil _ _ _ _ _⟩ }
  · exact {
      lk := rfl
      bp := rfl
      rr := rfl
      room := rfl
      near := fun _ _ _ _ => rfl
      len := by simp [clu0]
      nets := rfl
      reps := fun i hi => by
        have hi' : i < n := by simpa using hi
        have e : ((List.range n).map fun i => newP (ms i))[i] = newP (ms i) := by simp
        have e2 : (clu0 room.toNat bp rr n F).rep i = rep0 n := by simp [Clu.rep, clu0, hi']
        show (((List.range n).map fun i => newP (ms i))[i]).is _
        rw [e, e2]
        refine ⟨rfl, rfl, rfl, rfl, rfl, fun q hq => ?_, rfl, rfl, rfl⟩
        simp only [newP, rep0, List.getD, List.getElem?_replicate]
        split <;> rfl }
  · intro i hi
    have hi' : i < n := by simpa using hi
    have e : ((List.range n).map fun i => newP (ms i))[i] = newP (ms i) := by simp
    show (((List.range n).map fun i => newP (ms i))[i]).n ≤ _
    rw [e]
    exact Nat.zero_le _
end Go.Proofs.YtahdlejgjcjeoabGreatDoor
