/- The card of the law Meets in its second form is proved: for all settings and scripts of bulk at most 1048576 in all the law answers true (behind any script, when all are up and nothing is lost any more, after as many rounds as there are replicas neighbours have the same state) and the arguments read as before. Conditions: the bulk; the tables ripple/state.steps and ripple/state.rules lie as the program's text lays them (the card ties them, to the pruned copy of the project). -/
import Derived.Test.YtahdlejgjcjeoabGreatDoorM33
import Derived.Conc.Holds
import Derived.Deep.DeepHandedRow
import Derived.JoinedCond
import Derived.Below
import Derived.SevenTiedAt
import Derived.Test.YtahdlejgjcjeoabGreatDoorCards
import Derived.Test.YtahdlejgjcjeoabGreatDoorTie
import Derived.Test.YtahdlejgjcjeoabGreatDoorM09
import Derived.WalkKit
import Derived.ProofKit
import Derived.OpenShut
import Derived.Carry
import Derived.LaidLaws
namespace Go.Proofs.YtahdlejgjcjeoabGreatDoor
open Go.RowKit
theorem drop_len {c : Clu} (h : 0 < c.net.length) : (c.dropF 0).net.length + 1 = c.net.length := by
  have := (netErr_yes (c := c) (k := 0) h).2.1
  rw [show ((0 : Nat) : Int) = 0 from rfl] at this
  rw [this]
  show (c.net.eraseIdx 0).length + 1 = _
  rw [List.length_eraseIdx, if_pos h]
  omega
theorem start_net (c : Clu) (r : Int) : (c.start r).net = c.net := by unfold Clu.start; split <;> rfl
theorem linkAll_in {n : Nat} : ∀ (l : List (Int × Int)) (f F : Nat → Nat → Bool), linkAll n f l = some F → ∀ e ∈ l, 0 ≤ e.1 ∧ e.1 < n ∧ 0 ≤ e.2 ∧ e.2 < n
  | [], f, F, h, e, he => by cases he
  | p :: l, f, F, h, e, he => by
    rw [linkAll] at h
    split at h
    · rename_i hp
      rcases List.mem_cons.1 he with rfl | he
      · unfold edgeOk at hp
        simp only [Bool.and_eq_true, decide_eq_true_eq] at hp
        omega
      · exact linkAll_in l _ F h e he
    · cases h
theorem newOk_in {n : Nat} {rm : Int} {es : List (Int × Int)} (h : newOk n rm es = true) : ∀ e ∈ es, 0 ≤ e.1 ∧ e.1 < n ∧ 0 ≤ e.2 ∧ e.2 < n := by
  unfold newOk at h
  simp only [Bool.and_eq_true, decide_eq_true_eq] at h
  obtain ⟨F, hF⟩ := Option.isSome_iff_exists.1 h.2
  rw [Int.toNat_natCast] at hF
  exact linkAll_in es noE F hF
theorem nearE_symm (es : List (Int × Int)) (a b : Int) : nearE es a b = nearE es b a := by
  unfold nearE
  congr 1
  funext e
  rw [Bool.eq_iff_iff, decide_eq_true_eq, decide_eq_true_eq]
  omega
section
variable {Z : Snap} {w w' : World} {P x N r : Nat} {g : Cf} {c : Clu} {U : List At} {es : List (Int × Int)}
theorem Pg.lStartD (h : Pg Z w P x g es U N c) (hL : Lim U N) (hr : r < g.n) (hd : (c.rep r).down = true) :
    Calls Tryz.prog 14 #[.pointer (some ⟨P, 0, none⟩), .int .i64 r] w fun e w' => e = .returned (.bool true) ∧ Pg Z w' P x g es U (N + 1) (c.start r) := by
  obtain ⟨D, ⟨L, hp⟩, ht⟩ := h.pm
  have hrc : r < c.reps.length := by rw [h.len]; exact hr
  refine (hp.lStart_down h.ok hL h.inv ht hr hd).mono fun e w' ⟨h1, h2⟩ => ?_
  have hrep := start_rep hrc hd
  exact ⟨h1, ⟨_, ⟨_, h2⟩, ht.set (len_start _ _) (by rw [hp.lenD]; exact hr) (by rw [hrep, if_pos rfl]; rfl) (fun q hq => by rw [hrep, if_neg hq])⟩, (h.ok.start r).later (by omega), (h.inv.start h.ok r).1, far_of h.far (near_start _ _) (len_start _ _), fun i j => by rw [near_start]; exact h.nr i j, h.ed⟩
/-- The first r are up, and nothing is in flight. -/
structure UpTo (Z : Snap) (P x : Nat) (g : Cf) (es : List (Int × Int)) (U : List At) (N r : Nat) (w : World) (c : Clu) : Prop where
  pg : Pg Z w P x g es U (N + r) c
  net : c.net = []
  up : ∀ q, q < r → (c.rep q).down = false
theorem UpTo.skip (h : UpTo Z P x g es U N r w c) (hd : (c.rep r).down = false) : UpTo Z P x g es U N (r + 1) w c :=
  ⟨h.pg.later (by omega), h.net, fun q hq => by
    by_cases e : q = r
    · rw [e]; exact hd
    · exact h.up q (by omega)⟩
theorem UpTo.step (h : UpTo Z P x g es U N r w c) (hr : r < g.n) (hd : (c.rep r).down = true) {w2 : World} (h2 : Pg Z w2 P x g es U (N + r + 1) (c.start r)) : UpTo Z P x g es U N (r + 1) w2 (c.start r) :=
  ⟨h2, by rw [start_net]; exact h.net, fun q hq => by
    rw [start_rep (by rw [h.pg.len]; exact hr) hd]
    split
    · rfl
    · exact h.up q (by omega)⟩
/-- After t rounds. -/
structure RdT (Z : Snap) (P x : Nat) (g : Cf) (es : List (Int × Int)) (U : List At) (N t : Nat) (w : World) (c : Clu) : Prop where
  pg : Pg Z w P x g es U (N + 108 * t) c
  quiet : Quiet c
  came : Came t c
/-- The first r had what they have. -/
structure StT (Z : Snap) (P x : Nat) (g : Cf) (c : Clu) (r : Nat) (w : World) : Prop where
  pm : ∃ D L, Pm Z w P x g c D L ∧ Tells c D ∧ ∀ q, q < r → L.getD q [] = tell (c.rep q).atoms
theorem StT.lState (h : StT Z P x g c r w) (hok : c.ok U N) (hL : Lim U N) (hi : c.inv) (hr : r < g.n) (hu : (c.rep r).down = false) :
    Calls Tryz.prog 16 #[.pointer (some ⟨P, 0, none⟩), .int .i64 r] w fun e w' => e = .returned (.bool true) ∧ StT Z P x g c (r + 1) w' := by
  obtain ⟨D, L, hp, ht, hL'⟩ := h.pm
  refine (hp.lState hok hL hi ht hr).mono fun e w' ⟨h1, h2⟩ => ⟨h1, D, L.set r (tell (c.rep r).atoms), by rw [hu] at h2; exact h2, ht, fun q hq => ?_⟩
  rw [List.getD_eq_getElem?_getD, List.getElem?_set]
  by_cases e : r = q
  · subst e
    rw [if_pos rfl, if_pos (by rw [hp.lenL]; exact hr)]
    rfl
  · rw [if_neg e, ← List.getD_eq_getElem?_getD]
    exact hL' q (by omega)
theorem StT.cells (h : StT Z P x g c r w) : w.cell? ⟨P, 1, none⟩ = some (.int .i64 g.n) ∧ w.cell? ⟨P, 2, none⟩ = some g.ev := by
  obtain ⟨D, L, hp, ht, hL'⟩ := h.pm
  exact ⟨hp.cell1, hp.cell2⟩
theorem StT.bel {Z : World} (h : StT (Snap.all Z) P x g c r w) : Below Z.heap.size Z w := by
  obtain ⟨D, L, hp, ht, hL'⟩ := h.pm
  exact hp.bel
theorem StT.same (h : StT Z P x g c r w) (hb : Below w.heap.size w w') : StT Z P x g c r w' := by
  obtain ⟨D, L, hp, ht, hL'⟩ := h.pm
  exact ⟨D, L, hp.same hb, ht, hL'⟩
/-- Two neighbours had the same. -/
theorem StT.two (h : StT Z P x g c g.n w) (hcell : c.ok U N) (_hL : Lim U N) (hi : c.inv) (hq : Quiet c) (hc : Came g.n c) (hnr : ∀ i j : Nat, c.near i j = nearE es i j) {a b : Nat} (ha : a < g.n) (hb : b < g.n) (hab : nearE es a b = true) :
    ∃ hb' cap v1 v2 l, w.cell? ⟨P, 7, none⟩ = some (.slice (some ⟨hb', 0, none⟩) g.n cap) ∧ w.cell? ⟨hb', a, none⟩ = some v1 ∧ w.cell? ⟨hb', b, none⟩ = some v2 ∧ SliceOf w v1 l ∧ SliceOf w v2 l ∧ l.length ≤ 131072 := by
  obtain ⟨D, L, hp, ht, hT⟩ := h.pm
  have hl := hp.len
  obtain ⟨h1, cp1, v1, c7, k1, s1, n1⟩ := hp.hadC ha
  obtain ⟨h2, cp2, v2, c7', k2, s2, n2⟩ := hp.hadC hb
  rw [c7] at c7'
  cases c7'
  have hla : a < c.reps.length := by rw [hl]; exact ha
  have hlb : b < c.reps.length := by rw [hl]; exact hb
  rw [← hl] at hc
  obtain ⟨m1, m2⟩ := hc.meet (fun r q => by rw [hnr, hnr, nearE_symm]) hla hlb (by rw [hnr]; exact hab)
  obtain ⟨a1, a2⟩ := hi.up hla (hq.up a hla)
  obtain ⟨b1, b2⟩ := hi.up hlb (hq.up b hlb)
  have heq : tell (c.rep a).atoms = tell (c.rep b).atoms := tell_same (fun y hy => hcell.may y ((hcell.rep hla).sub y hy)) (fun y hy => hcell.may y ((hcell.rep hlb).sub y hy)) (a1.trans (m1.trans b2)) (b1.trans (m2.trans a2))
  rw [hT a ha] at s1 n1
  rw [hT b hb, ← heq] at s2
  exact ⟨_, _, v1, v2, _, c7, k1, k2, s1, s2, n1⟩
end
set_option maxRecDepth 100000 in
set_option maxHeartbeats 8000000 in
theorem meets_walk (v vs : Value) (rs : List (Int × Int)) (l : List ActV) (reps room : Int) (bp rr : Bool) (w : World) (hr : RulesAt w) (hst : StepsAt w) (hv : EdgesOf w v rs) (hlen : rs.length ≤ 1048576) (h1 : i64r reps) (h2 : i64r room) (hrs : ∀ e ∈ rs, i64r e.1 ∧ i64r e.2) (hs : ActsOf w vs l) (hll : l.length ≤ 87381) (hfit : ∀ a ∈ l, a.fit) :
    Calls Tryz.prog 4 #[.agg #[.int .i64 reps, v, .bool bp, .bool rr, .int .i64 room], vs] w fun e w' => e = .returned (.bool true) ∧ Below w.heap.size w w' := by
  have HB0 := Hid.mk (fun ob => below_alloc (Below.refl _ w) ob)
  have HSE : Hid (∀ W, Below w.heap.size w W → Calls Tryz.prog 11 #[.agg #[.int .i64 reps, v, .bool bp, .bool rr, .int .i64 room]] W fun e w' => ∃ (n : Nat) (rm : Int) (u : Value) (es : List (Int × Int)), e = .returned (.agg #[.int .i64 n, u, .bool bp, .bool rr, .int .i64 rm]) ∧ Hid (newOk n rm es = true ∧ es.length ≤ 1048576 ∧ EdgesOf w' u es ∧ Below W.heap.size W w')) := fun W hW => by
    refine (settings_any v rs reps room bp rr W (hv.below hW) hlen h1 h2 hrs).mono fun e w' ⟨n, rm, u, es, k1, k2, k3, k4, k5⟩ => ⟨n, rm, u, es, k1, k2, k3, edges_owns k4, k5⟩
  have HPL : Hid (∀ (W : World) (n : Nat) (rm : Int) (u : Value) (es : List (Int × Int)), Below w.heap.size w W → newOk n rm es = true → es.length ≤ 1048576 → EdgesOf W u es → Calls Tryz.prog 10 #[.agg #[.int .i64 n, u, .bool bp, .bool rr, .int .i64 rm], vs] W fun e w' => ∃ P x : Nat, e = .returned (.pointer (some ⟨P, 0, none⟩)) ∧ Hid (∃ Z : World, Below W.heap.size W Z ∧ EndK Z w' P x ⟨n, u, rm, bp, rr⟩ es 0)) := fun W n rm u es hW k1 k2 k3 => by
    refine (played_any u vs es l n rm bp rr W (hr.below hW hr.1) (hst.block (hW.block 0 hst.1) hW.size) k3 k2 k1 (hs.below hW) hll hfit).mono fun e w' ⟨Z, hZ, P, x, he, hp⟩ => ⟨P, x, he, Z, hZ, hp.end hll⟩
  obtain ⟨ad, cap, rfl, -⟩ := hv
  obtain ⟨adS, capS, rfl, -⟩ := hs
  clear hr hst hfit h1 h2 hrs
  go_enter Tryz.func4, Tryz.ntmps4
  go_wp2_with fail
  refine (HSE.out _ (HB0.out _)).mono ?_
  rintro e w1 ⟨n, rm, u, es, rfl, hse⟩
  obtain ⟨adu, capu, hu, -⟩ := hse.out.2.2.1
  subst hu
  have HB1 := Hid.mk ((HB0.out _).trans (hse.out.2.2.2.mono (HB0.out _).size))
  have HP1 := Hid.mk (HPL.out w1 n rm _ es HB1.out hse.out.1 hse.out.2.1 hse.out.2.2.1)
  have hn6 : n ≤ 6 := (newOk_nums hse.out.1).2.1
  have hel := hse.out.2.1
  have HIN := Hid.mk (newOk_in hse.out.1)
  clear HSE HPL hse
  go_wp2_with fail
  refine HP1.out.mono ?_
  rintro e w2 ⟨P, x, rfl, hend⟩
  obtain ⟨Z, hZ, U, c, hpg, hU⟩ := hend.out
  have HBZ := Hid.mk (HB1.out.trans (hZ.mono HB1.out.size))
  have HPG := Hid.mk hpg
  have HUL : Hid (∀ k, k ≤ 1000 → Lim U (1747640 + k)) := fun k hk => ⟨by omega, by omega⟩
  have HU2 := Hid.mk hU
  obtain ⟨g, hg⟩ : ∃ g : Cf, g = ⟨n, .slice adu es.length capu, rm, bp, rr⟩ := ⟨_, rfl⟩
  have hgn : g.n = n := by rw [hg]
  have hge : g.ev = .slice adu es.length capu := by rw [hg]
  rw [← hg] at HPG
  clear HP1 hend hpg hU hZ hg HB1 HB0
  go_wp2
  go_loopw [6] (fun s wr => ∃ (i : Nat) (c : Clu), i ≤ 200 ∧ s = .int .i64 i ∧ c.net.length + i ≤ 200 ∧ Hid (Pg (Snap.all Z) wr P x g es U (1747640 + i) c)) (fun s _ => 200 - (intOf s).toNat)
  case atStart => exact ⟨0, c, by omega, rfl, HPG.out.ok.netL, HPG⟩
  case round =>
    clear HPG
    obtain ⟨i, c, hi, rfl, hnl, hp⟩ := hrel
    have c0 := hp.out.cells.1
    have HF := Hid.mk hp.out.pFlight
    by_cases hpos : 0 < c.net.length
    · have q1 : (i : Int) < 200 := by omega
      have q2 : (0 : Int) < (c.net.length : Int) := by omega
      go_wp2_with fail
      refine HF.out.mono ?_
      rintro e w3 ⟨rfl, h3⟩
      have HD := Hid.mk (h3.pDrop (HUL.out i (by omega)) 0)
      rw [netErr0 hpos] at HD
      have hdl := drop_len hpos
      have c0' := h3.cells.1
      clear hp HF h3 c0
      go_wp2_with fail
      refine HD.out.mono ?_
      rintro e w4 ⟨rfl, h4⟩
      have H4 := Hid.mk h4
      clear HD h4 c0'
      go_wp2
      exact ⟨⟨i + 1, _, by omega, by go_num, by omega, H4⟩, by simp [intOf]; omega⟩
    · have hz : c.net.length = 0 := by omega
      have hnil : c.net = [] := List.length_eq_zero_iff.1 hz
      rw [hz] at HF
      rcases Nat.lt_or_ge i 200 with hi2 | hi2
      case' inl =>
        have q1 : (i : Int) < 200 := by omega
        go_wp2_with fail
        refine HF.out.mono ?_
        rintro e w3 ⟨rfl, h3⟩
        have H3 := Hid.mk h3
        clear hp HF h3 c0
      case' inr =>
        have q1 : ¬ (i : Int) < 200 := by omega
        obtain ⟨w3, hw3⟩ : ∃ w3, w3 = wr := ⟨_, rfl⟩
        subst hw3
        have H3 := hp
        clear hp HF c0
      all_goals
        have c0 := H3.out.cells.1
        have HF := Hid.mk H3.out.pFlight
        rw [hz] at HF
        go_wp2_with fail
        refine HF.out.mono ?_
        rintro e w4 ⟨rfl, h4⟩
        have HUP : Hid (UpTo (Snap.all Z) P x g es U (1747640 + 200) 0 w4 c) := ⟨h4.later (by omega), hnil, fun q hq => by omega⟩
        clear H3 HF h4 c0 hz hnil
        go_wp2
        go_loopw [8] (fun s wr => ∃ (r : Nat) (c : Clu), r ≤ n ∧ s = .int .i64 r ∧ Hid (UpTo (Snap.all Z) P x g es U (1747640 + 200) r wr c)) (fun s _ => n - (intOf s).toNat)
        case atStart => exact ⟨0, c, Nat.zero_le _, rfl, HUP⟩
        case round =>
          clear HUP
          obtain ⟨r, c, hr, rfl, hu⟩ := hrel
          have c1 := hu.out.pg.cells.2
          rw [hgn] at c1
          by_cases hrl : r < n
          · have q1 : (r : Int) < (n : Int) := by omega
            have q0 : (0 : Int) ≤ (r : Int) := by omega
            have hrg : r < g.n := by rw [hgn]; exact hrl
            obtain ⟨d, cap', d1, d2⟩ := hu.out.pg.down hrg
            rw [hgn] at d1
            cases hdn : (c.rep r).down with
            | false =>
              rw [hdn] at d2
              have HU3 := Hid.mk (hu.out.skip hdn)
              clear hu
              go_wp2
              exact ⟨⟨r + 1, _, by omega, by go_num, HU3⟩, by simp [intOf]; omega⟩
            | true =>
              rw [hdn] at d2
              have HSD := Hid.mk (hu.out.pg.lStartD (by have := HUL.out (200 + r) (by omega); exact ⟨by have := this.1; omega, this.2⟩) hrg hdn)
              go_wp2_with fail
              refine HSD.out.mono ?_
              rintro e w5 ⟨rfl, h5⟩
              have HU3 := Hid.mk (hu.out.step hrg hdn h5)
              clear hu h5 HSD d1 d2 c1
              go_wp2
              exact ⟨⟨r + 1, _, by omega, by go_num, HU3⟩, by simp [intOf]; omega⟩
          · have hrn : n = r := by omega
            subst hrn
            have q1 : ¬ (n : Int) < (n : Int) := by omega
            have HRD : Hid (RdT (Snap.all Z) P x g es U (1747640 + 206) 0 wr c) := ⟨hu.out.pg.later (by omega), ⟨fun q hq => hu.out.up q (by rw [hu.out.pg.len, hgn] at hq; exact hq), hu.out.net⟩, came_zero c⟩
            clear hu
            go_wp2
            go_loopw [10] (fun s wr => ∃ (t : Nat) (c : Clu), t ≤ n ∧ s = .int .i64 t ∧ Hid (RdT (Snap.all Z) P x g es U (1747640 + 206) t wr c)) (fun s _ => n - (intOf s).toNat)
            case atStart => exact ⟨0, c, Nat.zero_le _, rfl, HRD⟩
            case round =>
              clear HRD c1
              obtain ⟨t, c, ht, rfl, hu⟩ := hrel
              have c1 := hu.out.pg.cells.2
              rw [hgn] at c1
              by_cases htl : t < n
              · have q1 : (t : Int) < (n : Int) := by omega
                have HMT := Hid.mk (hu.out.pg.lMeets hu.out.quiet ⟨by omega, by have := HU2.out; omega⟩)
                go_wp2_with fail
                refine HMT.out.mono ?_
                rintro e w5 ⟨rfl, c', D, h5, hs5, hD5⟩
                have HR3 : Hid (RdT (Snap.all Z) P x g es U (1747640 + 206) (t + 1) w5 c') := ⟨h5.later (by omega), hs5.quiet, hu.out.came.round hs5 hD5⟩
                clear hu h5 hs5 hD5 HMT c1
                go_wp2
                exact ⟨⟨t + 1, _, by omega, by go_num, HR3⟩, by simp [intOf]; omega⟩
              · have htn : n = t := by omega
                subst htn
                have q1 : ¬ (n : Int) < (n : Int) := by omega
                have HC := Hid.mk (And.intro hu.out.pg.ok (And.intro hu.out.pg.inv (And.intro hu.out.quiet (And.intro hu.out.came (And.intro hu.out.pg.nr hu.out.pg.len)))))
                have HED := Hid.mk hu.out.pg.ed.1
                have HLU : Hid (Lim U (1747640 + 206 + 108 * n)) := ⟨by omega, by have := HU2.out; omega⟩
                have HS0 : Hid (StT (Snap.all Z) P x g c 0 wr) := by
                  obtain ⟨D, ⟨L, hp⟩, htl⟩ := hu.out.pg.pm
                  exact ⟨D, L, hp, htl, fun q hq => by omega⟩
                clear hu
                go_wp2
                go_loopw [12] (fun s wr => ∃ r : Nat, r ≤ n ∧ s = .int .i64 r ∧ Hid (StT (Snap.all Z) P x g c r wr)) (fun s _ => n - (intOf s).toNat)
                case atStart => exact ⟨0, Nat.zero_le _, rfl, HS0⟩
                case round =>
                  clear HS0 c1
                  obtain ⟨r, hr, rfl, hu⟩ := hrel
                  have c1 := hu.out.cells.1
                  rw [hgn] at c1
                  by_cases hrl : r < n
                  · have q1 : (r : Int) < (n : Int) := by omega
                    have hrg : r < g.n := by rw [hgn]; exact hrl
                    have HSA := Hid.mk (hu.out.lState HC.out.1 HLU.out HC.out.2.1 hrg (HC.out.2.2.1.up r (by rw [HC.out.2.2.2.2.2]; exact hrg)))
                    go_wp2_with fail
                    refine HSA.out.mono ?_
                    rintro e w5 ⟨rfl, h5⟩
                    have HS3 := Hid.mk h5
                    clear hu h5 HSA c1
                    go_wp2
                    exact ⟨⟨r + 1, by omega, by go_num, HS3⟩, by simp [intOf]; omega⟩
                  · have hrn : n = r := by omega
                    subst hrn
                    have q1 : ¬ (n : Int) < (n : Int) := by omega
                    go_wp2
                    go_loopw [14] (fun s wr => ∃ i : Nat, i ≤ es.length ∧ s = .int .i64 i ∧ Hid (StT (Snap.all Z) P x g c n wr)) (fun s _ => es.length - (intOf s).toNat)
                    case atStart => exact ⟨0, Nat.zero_le _, rfl, hu⟩
                    case round =>
                      clear hu c1
                      obtain ⟨i, hi, rfl, hu⟩ := hrel
                      have c2 := hu.out.cells.2
                      rw [hge] at c2
                      by_cases hil : i < es.length
                      · have q1 : (i : Int) < (es.length : Int) := by omega
                        have q2 : (0 : Int) ≤ (i : Int) := by omega
                        obtain ⟨be, off, hae, e0, e1⟩ : ∃ be off, adu = some ⟨be, off, none⟩ ∧ wr.cell? ⟨be, off + i * 2, none⟩ = some (.int .i64 es[i].1) ∧ wr.cell? ⟨be, off + i * 2 + 1, none⟩ = some (.int .i64 es[i].2) := by
                          obtain ⟨D, L, hp, -, -⟩ := hu.out.pm
                          obtain ⟨ad', cap', hv', -, HH⟩ := HED.out _ _ _ _ hp
                          rw [hge] at hv'
                          cases hv'
                          obtain ⟨bb, off, rfl, hb, hrow⟩ := HH (by omega)
                          exact ⟨bb, off, rfl, (hrow i hil).1, (hrow i hil).2⟩
                        subst hae
                        obtain ⟨a0, a1, b0, b1⟩ := HIN.out _ (List.getElem_mem hil)
                        have hne : nearE es es[i].1 es[i].2 = true := by
                          unfold nearE
                          rw [List.any_eq_true]
                          exact ⟨_, List.getElem_mem hil, by simp⟩
                        generalize es[i].1 = ea at *
                        generalize es[i].2 = eb at *
                        obtain ⟨a, rfl⟩ : ∃ a : Nat, ea = a := ⟨ea.toNat, by omega⟩
                        obtain ⟨b, rfl⟩ : ∃ b : Nat, eb = b := ⟨eb.toNat, by omega⟩
                        have hag : a < g.n := by rw [hgn]; omega
                        have hbg : b < g.n := by rw [hgn]; omega
                        rw [← hgn] at hu
                        have HCC := HC
                        obtain ⟨hb', cap', v1, v2, ll, c7, k1, k2, s1, s2, hln⟩ := hu.out.two HC.out.1 HLU.out HC.out.2.1 HC.out.2.2.1 (by rw [hgn]; exact HC.out.2.2.2.1) HC.out.2.2.2.2.1 hag hbg hne
                        rw [hgn] at c7 hu
                        have HSM : Hid (∀ W, Below wr.heap.size wr W → Calls Tryz.prog 17 #[v1, v2] W fun e w' => e = .returned (.bool true) ∧ Below W.heap.size W w') := fun W hW => sameAtoms_any v1 v2 ll W (s1.below hW) (s2.below hW) (by omega)
                        obtain ⟨ad1, cp1, rfl, -⟩ := s1
                        obtain ⟨ad2, cp2, rfl, -⟩ := s2
                        clear hne hag hbg HCC
                        go_wp2_with fail
                        go_region_held3 (fun w' => w'.cell? ⟨P, 7, none⟩ = some (.slice (some ⟨hb', 0, none⟩) n cap') ∧ w'.cell? ⟨P, 2, none⟩ = some (.slice (some ⟨be, off, none⟩) es.length capu) ∧ w'.cell? ⟨be, off + i * 2, none⟩ = some (.int .i64 a) ∧ w'.cell? ⟨be, off + i * 2 + 1, none⟩ = some (.int .i64 b) ∧ w'.cell? ⟨hb', a, none⟩ = some (.slice ad1 ll.length cp1) ∧ w'.cell? ⟨hb', b, none⟩ = some (.slice ad2 ll.length cp2)) (first | assumption | exact ⟨cell_kept c7 hbS, cell_kept c2 hbS, cell_kept e0 hbS, cell_kept e1 hbS, cell_kept k1 hbS, cell_kept k2 hbS⟩ | (simp [*]; done)) (first | (go_at_call 17; refine (HSM.out _ (Below.refl _ _).drew).mono ?_; rintro e wN ⟨rfl, hbN⟩; have hbS : Below wr.heap.size wr wN := (Below.refl _ _).drew.trans hbN; have HS5 := Hid.mk (hu.out.same hbS)) | fail)
                        all_goals clear hu c2 c7 e0 e1 k1 k2 HSM
                        all_goals go_wp2
                        all_goals exact ⟨⟨i + 1, by omega, by go_num, HS5⟩, by simp [intOf]; omega⟩
                      · have q1 : ¬ (i : Int) < (es.length : Int) := by omega
                        have HBF := Hid.mk (HBZ.out.trans (hu.out.bel.mono HBZ.out.size))
                        clear hu
                        go_wp2
                        go_ret
                        exact ⟨rfl, HBF.out⟩
end Go.Proofs.YtahdlejgjcjeoabGreatDoor

namespace Go.Proofs.YtahdlejgjcjeoabGreatDoor

/-- WHAT A CALL LEAVES THAT WRITES INTO NEW MEMORY ALONE. -/
theorem post_of_below {H : Type} {enc : TypeId × Value → H} {P : Program} {f : Func} {s : ChangeSpec} {apart fresh handsOn again : Bool} {W W' : World} {args : Array Value} {v : Value} {ds gs : List (DataW H)} {before pa pv : List MemPlace}
    (hW : DataW.Whole enc P f.params.toList s.vars apart W args.toList ds gs before)
    (hres : ∀ (b : Nat) (sp : Nat → Bool) (hd : Bool), DataW.TrodAll enc P W' b sp hd f.resultTypes.toList (v.resultList f.resultTypes.size) (s.fn H (ds ++ gs)).results [])
    (hargs : ∀ sp : Nat → Bool, (∀ p ∈ before, sp p.block = true) → DataW.TrodAll enc P W' 0 sp true f.params.toList args.toList (s.fn H (ds ++ gs)).args pa)
    (hvars : ∀ sp : Nat → Bool, (∀ p ∈ before, sp p.block = true) → DataW.TrodVars enc P W' sp s.vars (s.fn H (ds ++ gs)).vars pv)
    (hps : before = pa ++ pv) (hb : RowKit.Below W.heap.size W W')
    (hok : ∀ (j : Nat) (t : TypeId) (r : Value), f.resultTypes[j]? = some t → (v.resultList f.resultTypes.size)[j]? = some r → Value.okWide P W' .any 0 t r) :
    s.post enc P f apart fresh handsOn again W args v W' := by
  have hlt : ∀ p ∈ before, p.block < W.heap.size := fun p hp => hW.lt p hp
  have hold : ∀ p ∈ before, (fun b => decide (b < W.heap.size)) p.block = true := fun p hp => by simpa using hlt p hp
  refine ⟨ds, gs, before, [], pa, pv, hW, hres _ _ _, hargs _ hold, hvars _ hold, hb.frame _, fun _ => ?_⟩
  obtain ⟨_, _, _, _, _, hz, hn⟩ := hW
  refine ⟨hok, _, _, ([] ++ pa) ++ pv, ⟨[] ++ pa, pv, ChangeShapes.trodAll_append (hargs _ (fun _ _ => rfl)) (hres _ _ _), hvars _ (fun _ _ => rfl), rfl, ?_, ?_⟩, ?_⟩
  · intro b off hp
    have hp' : MemPlace.cell b off ∈ before := by rw [hps]; simpa using hp
    rw [hb.frozen (hlt _ hp')]
    exact hz b off hp'
  · intro ha
    have := hn ha
    rw [hps] at this
    simpa using this
  · intro p hp _
    rw [hps]
    simpa using hp

end Go.Proofs.YtahdlejgjcjeoabGreatDoor

namespace Go.Proofs.YtahdlejgjcjeoabGreatDoor.meetsCardP
open Go.ChangeShapes Go.WideShapes Go.ChangeAt Go.RowKit

theorem own : ownKnob Tryz.prog.godebug = none := by kernel_rfl
theorem lays : laidOutB Tryz.prog = true := by kernel_rfl
theorem readC : Tryz.prog.readableRec 24 = true := by kernel_rfl
theorem readS : Tryz.prog.readableRec 25 = true := by kernel_rfl
theorem rowS : 25 < Tryz.prog.types.size := of_decide_eq_true (by kernel_rfl)
theorem rowC : 24 < Tryz.prog.types.size := of_decide_eq_true (by kernel_rfl)

set_option maxRecDepth 100000 in
/-- FOR EVERY INPUT OF THAT BULK AND EVERY WORLD THAT HOLDS THE TABLE. -/
theorem contract (H : Type) (en : TypeId × Value → H) (W : World) (base : Nat) (args : Array Value) (ds gs : List (DataW H)) (before : List MemPlace)
    (hval : ∀ (j : Nat) t v, Tryz.f4.params[j]? = some t → args[j]? = some v → Value.okWide Tryz.prog W .any base t v)
    (hW : DataW.Whole en Tryz.prog Tryz.f4.params.toList Rows.meetsSpec.vars false W args.toList ds gs before) (hk : Rows.uptoSmall H (ds ++ gs) = true) (hL : laidMetH Tryz.prog Rows.meetsUptoRow.laid W) :
    Calls Tryz.prog 4 args W fun e W' => ∃ v, e = .returned v ∧ Rows.meetsSpec.post en Tryz.prog Tryz.f4 false true false false W args v W' := by
  have hW' := hW
  obtain ⟨p, q, hA0, hV, rfl, hfz, hnd⟩ := hW
  have hA : DataW.TrodAll en Tryz.prog W 0 (fun _ => true) true Tryz.f4.params.toList args.toList ds p := hA0
  rw [Tryz.params4] at hA hval
  obtain ⟨v0, v1, d0, d1, p0, p1, rfl, rfl, rfl, h0, h1⟩ := trodAll_two hA
  obtain ⟨rfl, rfl⟩ := trodVars_none hV
  clear hA0
  have hb : Rows.uptoBulk d0 + (Rows.uptoBulk d1 + 0) ≤ 1048576 := by simpa [Rows.uptoSmall, Rows.uptoBulkAll] using hk
  obtain ⟨reps, room, bp, rr, vE, es, rfl, hed, hel, hre, hro, her⟩ := open_cfgR (hval 0 _ v0 rfl rfl) h0 (by omega)
  obtain ⟨l, hs, hll, hfit⟩ := open_script (hval 1 _ v1 rfl rfl) h1 (by omega)
  have hr := rules_of_laid2 hL
  have hst := steps_of_laid hL
  refine (meets_walk vE v1 es l reps room bp rr W hr hst hed hel hre hro her hs hll hfit).mono fun e W' ⟨he, hbel⟩ => ?_
  subst he
  have hlt : ∀ x ∈ p0 ++ p1, x.block < W.heap.size := fun x hx => hW'.lt x (by simpa using hx)
  refine ⟨_, rfl, post_of_below (pa := p0 ++ p1) (pv := []) hW' (fun _ _ _ => trodAll_cons_mk (shut_bool Tryz.underlying4 _) trodAll_mk0) (fun sp hsp => ?_) (fun _ _ => rfl) rfl hbel (ok_one (by kernel_rfl) rfl (okWide_bool_mk Tryz.underlying4 _))⟩
  rw [Tryz.params4]
  have k0 : DataW.Trod en Tryz.prog W' 0 sp true 24 (.agg #[.int .i64 reps, vE, .bool bp, .bool rr, .int .i64 room]) d0 p0 := WideElems.Trod_stays lays readC rowC h0 (fun x hx => hbel.same (hlt x (by simp [hx]))) (fun x hx => hsp x (by simp [hx]))
  have k1 : DataW.Trod en Tryz.prog W' 0 sp true 25 v1 d1 p1 := WideElems.Trod_stays lays readS rowS h1 (fun x hx => hbel.same (hlt x (by simp [hx]))) (fun x hx => hsp x (by simp [hx]))
  exact trodAll_mk2 k0 k1

/-- A WORLD FOR THE WITNESS. -/
def layCells (cs : Array Value) : Obj → Obj
  | .cells _ t frozen => .cells cs t frozen
  | o => o
def laidWorld (P : Program) (os : Os) : World :=
  { World.holding P os ⟨#[], #[], []⟩ with heap := ((World.holding P os ⟨#[], #[], []⟩).heap.modify 1 (layCells #[.int .i64 0, .int .i64 5, .int .i64 1, .int .i64 2147483647, .int .i64 0, .bool false, .int .i64 1, .int .i64 5, .int .i64 1, .int .i64 2147483647, .int .i64 0, .bool false, .int .i64 0, .int .i64 0, .int .i64 0, .int .i64 0, .int .i64 8, .bool false, .int .i64 1, .int .i64 0, .int .i64 0, .int .i64 0, .int .i64 8, .bool false, .int .i64 0, .int .i64 5, .int .i64 1, .int .i64 2147483647, .int .i64 8, .bool true])).modify 0 (layCells #[.int .i64 0, .int .i64 1, .int .i64 1000, .int .i64 0, .bool false, .int .i64 0, .int .i64 (-1000), .int .i64 1000, .int .i64 0, .bool true, .int .i64 0, .int .i64 0, .int .i64 0, .int .i64 8, .bool false, .int .i64 1, .int .i64 0, .int .i64 0, .int .i64 8, .bool false, .int .i64 0, .int .i64 0, .int .i64 0, .int .i64 8, .bool false]) }
theorem laid_met (os : Os) : laidMet Tryz.prog Rows.meetsUptoRow.laid ((laidWorld Tryz.prog os).forCall (fun _ _ => 0) ⟨#[], #[.agg #[.int .i64 0, .slice none 0 0, .bool false, .bool false, .int .i64 0], .slice none 0 0], []⟩).memory :=
  laidMet_of_run' 8 (by kernel_rfl) (by kernel_rfl)
theorem reads (os : Os) {H : Type} (en : TypeId × Value → H) : ∃ places, DataW.whole en Tryz.prog ((laidWorld Tryz.prog os).forCall (fun _ _ => 0) ⟨#[], #[.agg #[.int .i64 0, .slice none 0 0, .bool false, .bool false, .int .i64 0], .slice none 0 0], []⟩).memory Tryz.f4.params.toList Rows.meetsSpec.vars false #[Value.agg #[.int .i64 0, .slice none 0 0, .bool false, .bool false, .int .i64 0], .slice none 0 0].toList 8 = some ([.agg [.lit (.int .i64 0), .nil, .lit (.bool false), .lit (.bool false), .lit (.int .i64 0)], .nil], [], places) :=
  ⟨[], by kernel_rfl⟩

set_option maxRecDepth 100000 in
theorem liftedUpto (os : Os) (started : os.Started) (H : Type) (en : TypeId × Value → H) (F : Stop.Interp) :
    ReturnsInHanded {} Tryz.checked os 4 .any ((Rows.OpenSpec.upto Rows.meetsSpec).preRow en Tryz.prog Tryz.f4 Rows.meetsUptoRow.domain false Rows.meetsUptoRow.laid) (((Rows.OpenSpec.upto Rows.meetsSpec).at F).post en Tryz.prog Tryz.f4 false true false false) := by
  obtain ⟨places, hx⟩ := reads os en
  refine returnsInHanded_of_row (C := Tryz.checked) (s := Rows.OpenSpec.upto Rows.meetsSpec) own started (by kernel_rfl) Tryz.func4
    (witness_row_at (enc := en) (C := Tryz.checked) false (laidWorld Tryz.prog os) #[.agg #[.int .i64 0, .slice none 0 0, .bool false, .bool false, .int .i64 0], .slice none 0 0] rfl (by kernel_rfl) (by kernel_rfl) (by kernel_rfl)
      (OpenSpec.preRow_of_cond 8 hx (by kernel_rfl) (fun k hk => by cases hk; kernel_rfl) (by kernel_rfl) (laid_met os))) ?_
  intro W base args ds gs before hval hW _ hcond _ hL _ _
  exact contract H en W base args ds gs before hval hW (hcond _ rfl) hL

theorem saidUpto : Rows.MeetsUptoSaid :=
  OpenClaim.holds_of_cond 4 Tryz.f4 rfl rfl rfl rfl rfl rfl rfl ⟨rfl, rfl, rfl, rfl, rfl⟩ rfl rfl rfl rfl rfl (by kernel_rfl) Tryz.func4 (by kernel_rfl)
    (of_decide_eq_true (by kernel_rfl)) (by unfold Func.isWrapper; first | (rw [if_pos (by decide +kernel)]; kernel_rfl) | (rw [if_neg (by decide +kernel)]; exact ⟨rfl, rfl⟩))
    (fun os started H en _ F => by rw [OpenClaim.pre_eq_preRow]; exact liftedUpto os started H en F)

theorem plain (f : FuncId) (fn : Func) (hf : Tryz.pinned.checked.prog.funcNamed "ripple/ripplelaw.Meets" = some f) (hfn : Tryz.pinned.checked.prog.funcs[f]? = some fn) :
    false = Tryz.pinned.checked.prog.looks [] ∧ ∀ (j : Nat) t, fn.params[j]? = some t → Tryz.pinned.checked.prog.wantsStandIn t = false := by
  obtain rfl : f = 4 := Option.some.inj ((show Tryz.prog.funcNamed "ripple/ripplelaw.Meets" = some 4 by kernel_rfl).symm.trans hf) |>.symm
  obtain rfl : fn = Tryz.f4 := (Option.some.inj (Tryz.func4.symm.trans hfn)).symm
  refine ⟨by kernel_rfl, fun j t ht => ?_⟩
  rw [Tryz.params4] at ht
  have hm : t = 24 ∨ t = 25 := by simpa using Array.mem_of_getElem? ht
  rcases hm with rfl | rfl
  · exact (show Tryz.prog.wantsStandIn 24 = false by kernel_rfl)
  · exact (show Tryz.prog.wantsStandIn 25 = false by kernel_rfl)

/-- THE CARD. -/
theorem cardUpto : Rows.MeetsUptoCardSaid :=
  Claim7.holds_tied_plain_at .later [] _ _ _ _ saidUpto (fun _ h => by cases h) (by kernel_rfl) (fun _ h => by cases h) meetsUpto_row_tie rfl ⟨rfl, rfl⟩ (by kernel_rfl) rfl plain (by kernel_rfl)

end Go.Proofs.YtahdlejgjcjeoabGreatDoor.meetsCardP

namespace Go.Proofs.YtahdlejgjcjeoabGreatDoor
theorem meetsUpto_holds : Rows.MeetsUptoCardSaid := meetsCardP.cardUpto
end Go.Proofs.YtahdlejgjcjeoabGreatDoor
