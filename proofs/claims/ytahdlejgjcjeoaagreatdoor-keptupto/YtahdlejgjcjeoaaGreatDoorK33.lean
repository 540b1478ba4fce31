/- The card of the law Kept in its second form is proved: for all settings and scripts of bulk at most 1048576 in all the law answers true (whatever is sent, lost, doubled or turned about, whoever crashes, an Update that is answered OK counts at once, what a replica has it has for good, a torn update leaves what was there or that and one atom more) and the arguments read as before. Conditions: the bulk; the tables ripple/state.steps and ripple/state.rules lie as the program's text lays them (the card ties them, to the pruned copy of the project). -/
import Derived.Test.YtahdlejgjcjeoaaGreatDoorK32
import Derived.Conc.Holds
import Derived.Deep.DeepHandedRow
import Derived.JoinedCond
import Derived.Below
import Derived.SevenTiedAt
import Derived.Test.YtahdlejgjcjeoaaGreatDoorCards
import Derived.Test.YtahdlejgjcjeoaaGreatDoorTie
import Derived.Test.YtahdlejgjcjeoaaGreatDoorK09
import Derived.WalkKit
import Derived.ProofKit
import Derived.OpenShut
import Derived.Carry
import Derived.LaidLaws
namespace Go.Proofs.YtahdlejgjcjeoaaGreatDoor
open Go.RowKit
section
variable {Z : Snap} {w w' : World} {P x N : Nat} {g : Cf} {c : Clu} {U : List At} {es : List (Int × Int)}
theorem Pg.down (h : Pg Z w P x g es U N c) {r : Nat} (hr : r < g.n) : ∃ d cap, w.cell? ⟨P, 6, none⟩ = some (.slice (some ⟨d, 0, none⟩) g.n cap) ∧ w.cell? ⟨d, r, none⟩ = some (.bool (c.rep r).down) := by
  obtain ⟨D, ⟨L, hp⟩, ht⟩ := h.pm
  obtain ⟨d, cap, h1, h2, -⟩ := hp.downC hr
  rw [ht r (by rw [h.len]; exact hr)] at h2
  exact ⟨d, cap, h1, h2⟩
end
/-- Where the end of a play stands. -/
def EndK (Z w : World) (P x : Nat) (g : Cf) (es : List (Int × Int)) (k : Nat) : Prop := ∃ U c, Pg (Snap.all Z) w P x g es U (1747640 + 20 * k) c ∧ U.length ≤ 87382 + k
theorem PlayK.end {Z w : World} {P x i : Nat} {g : Cf} {es : List (Int × Int)} (h : PlayK Z w P x g es i) (hi : i ≤ 87381) : EndK Z w P x g es 0 := by
  obtain ⟨U, c, h1, h2⟩ := h
  exact ⟨U, c, h1.later (by omega), by omega⟩
section
variable {Z w : World} {P x k : Nat} {g : Cf} {es : List (Int × Int)}
theorem EndK.cell1 (h : EndK Z w P x g es k) : w.cell? ⟨P, 1, none⟩ = some (.int .i64 g.n) := by
  obtain ⟨U, c, h1, h2⟩ := h
  exact h1.cells.2
theorem EndK.more (h : EndK Z w P x g es k) : EndK Z w P x g es (k + 1) := by
  obtain ⟨U, c, h1, h2⟩ := h
  exact ⟨U, c, h1.later (by omega), by omega⟩
theorem EndK.bel (h : EndK Z w P x g es k) : Below Z.heap.size Z w := by
  obtain ⟨U, c, h1, h2⟩ := h
  obtain ⟨D, ⟨L, hp⟩, -⟩ := h1.pm
  exact hp.bel
theorem EndK.start (h : EndK Z w P x g es k) {r : Nat} (hr : r < g.n) (hk : k ≤ 6) : ∃ d cap b, w.cell? ⟨P, 6, none⟩ = some (.slice (some ⟨d, 0, none⟩) g.n cap) ∧ w.cell? ⟨d, r, none⟩ = some (.bool b) ∧ (b = true → Calls Tryz.prog 10 #[.pointer (some ⟨P, 0, none⟩), .int .i64 r] w fun e w' => e = .returned (.bool true) ∧ EndK Z w' P x g es (k + 1)) := by
  obtain ⟨U, c, h1, h2⟩ := h
  obtain ⟨d, cap, d1, d2⟩ := h1.down hr
  refine ⟨d, cap, _, d1, d2, fun _ => (h1.lStart ⟨by omega, by omega⟩ hr).mono fun e w' ⟨he, c', U', h3, h4⟩ => ⟨he, U', c', h3.later (by omega), by omega⟩⟩
theorem EndK.state (h : EndK Z w P x g es k) {r : Nat} (hr : r < g.n) (hk : k ≤ 7) : Calls Tryz.prog 11 #[.pointer (some ⟨P, 0, none⟩), .int .i64 r] w fun e w' => e = .returned (.bool true) ∧ EndK Z w' P x g es k := by
  obtain ⟨U, c, h1, h2⟩ := h
  exact (h1.lState ⟨by omega, by omega⟩ hr).mono fun e w' ⟨he, h3⟩ => ⟨he, U, c, h3, h2⟩
end
set_option maxRecDepth 100000 in
set_option maxHeartbeats 4000000 in
theorem kept_walk (v vs : Value) (rs : List (Int × Int)) (l : List ActV) (reps room : Int) (bp rr : Bool) (w : World) (hr : RulesAt w) (hst : StepsAt w) (hv : EdgesOf w v rs) (hlen : rs.length ≤ 1048576) (h1 : i64r reps) (h2 : i64r room) (hrs : ∀ e ∈ rs, i64r e.1 ∧ i64r e.2) (hs : ActsOf w vs l) (hll : l.length ≤ 87381) (hfit : ∀ a ∈ l, a.fit) :
    Calls Tryz.prog 5 #[.agg #[.int .i64 reps, v, .bool bp, .bool rr, .int .i64 room], vs] w fun e w' => e = .returned (.bool true) ∧ Below w.heap.size w w' := by
  have HB0 := Hid.mk (fun ob => below_alloc (Below.refl _ w) ob)
  have HSE : Hid (∀ W, Below w.heap.size w W → Calls Tryz.prog 9 #[.agg #[.int .i64 reps, v, .bool bp, .bool rr, .int .i64 room]] W fun e w' => ∃ (n : Nat) (rm : Int) (u : Value) (es : List (Int × Int)), e = .returned (.agg #[.int .i64 n, u, .bool bp, .bool rr, .int .i64 rm]) ∧ Hid (newOk n rm es = true ∧ es.length ≤ 1048576 ∧ EdgesOf w' u es ∧ Below W.heap.size W w')) := fun W hW => by
    refine (settings_any v rs reps room bp rr W (hv.below hW) hlen h1 h2 hrs).mono fun e w' ⟨n, rm, u, es, k1, k2, k3, k4, k5⟩ => ⟨n, rm, u, es, k1, k2, k3, edges_owns k4, k5⟩
  have HPL : Hid (∀ (W : World) (n : Nat) (rm : Int) (u : Value) (es : List (Int × Int)), Below w.heap.size w W → newOk n rm es = true → es.length ≤ 1048576 → EdgesOf W u es → Calls Tryz.prog 8 #[.agg #[.int .i64 n, u, .bool bp, .bool rr, .int .i64 rm], vs] W fun e w' => ∃ P x : Nat, e = .returned (.pointer (some ⟨P, 0, none⟩)) ∧ Hid (∃ Z : World, Below W.heap.size W Z ∧ EndK Z w' P x ⟨n, u, rm, bp, rr⟩ es 0)) := fun W n rm u es hW k1 k2 k3 => by
    refine (played_any u vs es l n rm bp rr W (hr.below hW hr.1) (hst.block (hW.block 1 hst.1) hW.size) k3 k2 k1 (hs.below hW) hll hfit).mono fun e w' ⟨Z, hZ, P, x, he, hp⟩ => ⟨P, x, he, Z, hZ, hp.end hll⟩
  obtain ⟨ad, cap, rfl, -⟩ := hv
  obtain ⟨adS, capS, rfl, -⟩ := hs
  clear hr hst hfit h1 h2 hrs
  go_enter Tryz.func5, Tryz.ntmps5
  go_wp2_with fail
  refine (HSE.out _ (HB0.out _)).mono ?_
  rintro e w1 ⟨n, rm, u, es, rfl, hse⟩
  obtain ⟨adu, capu, hu, -⟩ := hse.out.2.2.1
  subst hu
  have HB1 := Hid.mk ((HB0.out _).trans (hse.out.2.2.2.mono (HB0.out _).size))
  have HP1 := Hid.mk (HPL.out w1 n rm _ es HB1.out hse.out.1 hse.out.2.1 hse.out.2.2.1)
  clear HSE HPL
  go_wp2_with fail
  refine HP1.out.mono ?_
  rintro e w2 ⟨P, x, rfl, hend⟩
  obtain ⟨Z, hZ, hE⟩ := hend.out
  have HE0 := Hid.mk hE
  have hn6 : n ≤ 6 := (newOk_nums hse.out.1).2.1
  clear HP1 hend hE
  go_wp2
  go_loopw [6] (fun s wr => ∃ r : Nat, r ≤ n ∧ s = .int .i64 r ∧ Hid (EndK Z wr P x ⟨n, .slice adu es.length capu, rm, bp, rr⟩ es r)) (fun s _ => n - (intOf s).toNat)
  case atStart => exact ⟨0, Nat.zero_le _, rfl, HE0⟩
  case round =>
    clear HE0
    obtain ⟨r, hr, rfl, hk⟩ := hrel
    have c1 : wr.cell? ⟨P, 1, none⟩ = some (.int .i64 n) := hk.out.cell1
    by_cases hrl : r < n
    · have q1 : (r : Int) < (n : Int) := by omega
      have q0 : (0 : Int) ≤ (r : Int) := by omega
      obtain ⟨d, cap', b, d1, d2, hst⟩ := hk.out.start (show r < (⟨n, .slice adu es.length capu, rm, bp, rr⟩ : Cf).n from hrl) (by omega)
      simp only at d1
      have HSTART := Hid.mk hst
      clear hst
      cases b with
      | false =>
        have HSA := Hid.mk (hk.out.more.state (show r < (⟨n, .slice adu es.length capu, rm, bp, rr⟩ : Cf).n from hrl) (by omega))
        clear HSTART hk
        go_wp2_with fail
        refine HSA.out.mono ?_
        rintro e w4 ⟨rfl, h4⟩
        have H4 := Hid.mk h4
        clear h4 HSA d1 d2 c1
        go_wp2
        exact ⟨⟨r + 1, by omega, by go_num, H4⟩, by simp [intOf]; omega⟩
      | true =>
        have HS2 := Hid.mk (HSTART.out rfl)
        clear HSTART
        go_wp2_with fail
        refine HS2.out.mono ?_
        rintro e w3 ⟨rfl, h3⟩
        have HSA := Hid.mk (h3.state (show r < (⟨n, .slice adu es.length capu, rm, bp, rr⟩ : Cf).n from hrl) (by omega))
        clear HS2 hk h3 d1 d2 c1
        go_wp2_with fail
        refine HSA.out.mono ?_
        rintro e w4 ⟨rfl, h4⟩
        have H4 := Hid.mk h4
        clear h4 HSA
        go_wp2
        exact ⟨⟨r + 1, by omega, by go_num, H4⟩, by simp [intOf]; omega⟩
    · have hrn : r = n := by omega
      subst hrn
      have q1 : ¬ (r : Int) < (r : Int) := by omega
      have HB3 := Hid.mk (HB1.out.trans ((hZ.trans (hk.out.bel.mono hZ.size)).mono HB1.out.size))
      clear hk
      go_wp2
      go_ret
      exact ⟨rfl, HB3.out⟩
end Go.Proofs.YtahdlejgjcjeoaaGreatDoor

namespace Go.Proofs.YtahdlejgjcjeoaaGreatDoor

/-- WHAT A CALL LEAVES THAT WRITES INTO NEW MEMORY ALONE. -/
theorem post_of_below {H : Type} {enc : TypeId × Value → H} {P : Program} {f : Func} {s : ChangeSpec} {apart fresh handsOn again : Bool} {W W' : World} {args : Array Value} {v : Value} {ds gs : List (DataW H)} {before pa pv : List MemPlace}
    (hW : DataW.Whole enc P f.params.toList s.vars apart W args.toList ds gs before)
    (hres : ∀ (b : Nat) (sp : Nat → Bool) (hd : Bool), DataW.TrodAll enc P W' b sp hd f.resultTypes.toList (v.resultList f.resultTypes.size) (s.fn H (ds ++ gs)).results [])
    (hargs : ∀ sp : Nat → Bool, (∀ p ∈ before, sp p.block = true) → DataW.TrodAll enc P W' 0 sp true f.params.toList args.toList (s.fn H (ds ++ gs)).args pa)
    (hvars : ∀ sp : Nat → Bool, (∀ p ∈ before, sp p.block = true) → DataW.TrodVars enc P W' sp s.vars (s.fn H (ds ++ gs)).vars pv)
    (hps : before = pa ++ pv) (hb : RowKit.Below W.heap.size W W')
    (hok : ∀ (j : Nat) (t : TypeId) (r : Value), f.resultTypes[j]? = some t → (v.resultList f.resultTypes.size)[j]? = some r → Value.okWide P W' .any 0 t r) :
    s.post enc P f apart fresh handsOn again W args v W' := by
  have hlt : ∀ p ∈ before, p.block < W.heap.size := fun p hp => hW.lt p hp
  have hold : ∀ p ∈ before, (fun b => decide (b < W.heap.size)) p.block = true := fun p hp => by simpa using hlt p hp
  refine ⟨ds, gs, before, [], pa, pv, hW, hres _ _ _, hargs _ hold, hvars _ hold, hb.frame _, fun _ => ?_⟩
  obtain ⟨_, _, _, _, _, hz, hn⟩ := hW
  refine ⟨hok, _, _, ([] ++ pa) ++ pv, ⟨[] ++ pa, pv, ChangeShapes.trodAll_append (hargs _ (fun _ _ => rfl)) (hres _ _ _), hvars _ (fun _ _ => rfl), rfl, ?_, ?_⟩, ?_⟩
  · intro b off hp
    have hp' : MemPlace.cell b off ∈ before := by rw [hps]; simpa using hp
    rw [hb.frozen (hlt _ hp')]
    exact hz b off hp'
  · intro ha
    have := hn ha
    rw [hps] at this
    simpa using this
  · intro p hp _
    rw [hps]
    simpa using hp

end Go.Proofs.YtahdlejgjcjeoaaGreatDoor

namespace Go.Proofs.YtahdlejgjcjeoaaGreatDoor.keptCardP
open Go.ChangeShapes Go.WideShapes Go.ChangeAt Go.RowKit

theorem own : ownKnob Tryz.prog.godebug = none := by kernel_rfl
theorem lays : laidOutB Tryz.prog = true := by kernel_rfl
theorem readC : Tryz.prog.readableRec 24 = true := by kernel_rfl
theorem readS : Tryz.prog.readableRec 27 = true := by kernel_rfl
theorem rowS : 27 < Tryz.prog.types.size := of_decide_eq_true (by kernel_rfl)
theorem rowC : 24 < Tryz.prog.types.size := of_decide_eq_true (by kernel_rfl)

set_option maxRecDepth 100000 in
/-- FOR EVERY INPUT OF THAT BULK AND EVERY WORLD THAT HOLDS THE TABLE. -/
theorem contract (H : Type) (en : TypeId × Value → H) (W : World) (base : Nat) (args : Array Value) (ds gs : List (DataW H)) (before : List MemPlace)
    (hval : ∀ (j : Nat) t v, Tryz.f5.params[j]? = some t → args[j]? = some v → Value.okWide Tryz.prog W .any base t v)
    (hW : DataW.Whole en Tryz.prog Tryz.f5.params.toList Rows.keptSpec.vars false W args.toList ds gs before) (hk : Rows.uptoSmall H (ds ++ gs) = true) (hL : laidMetH Tryz.prog Rows.keptUptoRow.laid W) :
    Calls Tryz.prog 5 args W fun e W' => ∃ v, e = .returned v ∧ Rows.keptSpec.post en Tryz.prog Tryz.f5 false true false false W args v W' := by
  have hW' := hW
  obtain ⟨p, q, hA0, hV, rfl, hfz, hnd⟩ := hW
  have hA : DataW.TrodAll en Tryz.prog W 0 (fun _ => true) true Tryz.f5.params.toList args.toList ds p := hA0
  rw [Tryz.params5] at hA hval
  obtain ⟨v0, v1, d0, d1, p0, p1, rfl, rfl, rfl, h0, h1⟩ := trodAll_two hA
  obtain ⟨rfl, rfl⟩ := trodVars_none hV
  clear hA0
  have hb : Rows.uptoBulk d0 + (Rows.uptoBulk d1 + 0) ≤ 1048576 := by simpa [Rows.uptoSmall, Rows.uptoBulkAll] using hk
  obtain ⟨reps, room, bp, rr, vE, es, rfl, hed, hel, hre, hro, her⟩ := open_cfgR (hval 0 _ v0 rfl rfl) h0 (by omega)
  obtain ⟨l, hs, hll, hfit⟩ := open_script (hval 1 _ v1 rfl rfl) h1 (by omega)
  have hr := rules_of_laid2 hL
  have hst := steps_of_laid hL
  refine (kept_walk vE v1 es l reps room bp rr W hr hst hed hel hre hro her hs hll hfit).mono fun e W' ⟨he, hbel⟩ => ?_
  subst he
  have hlt : ∀ x ∈ p0 ++ p1, x.block < W.heap.size := fun x hx => hW'.lt x (by simpa using hx)
  refine ⟨_, rfl, post_of_below (pa := p0 ++ p1) (pv := []) hW' (fun _ _ _ => trodAll_cons_mk (shut_bool Tryz.underlying4 _) trodAll_mk0) (fun sp hsp => ?_) (fun _ _ => rfl) rfl hbel (ok_one (by kernel_rfl) rfl (okWide_bool_mk Tryz.underlying4 _))⟩
  rw [Tryz.params5]
  have k0 : DataW.Trod en Tryz.prog W' 0 sp true 24 (.agg #[.int .i64 reps, vE, .bool bp, .bool rr, .int .i64 room]) d0 p0 := WideElems.Trod_stays lays readC rowC h0 (fun x hx => hbel.same (hlt x (by simp [hx]))) (fun x hx => hsp x (by simp [hx]))
  have k1 : DataW.Trod en Tryz.prog W' 0 sp true 27 v1 d1 p1 := WideElems.Trod_stays lays readS rowS h1 (fun x hx => hbel.same (hlt x (by simp [hx]))) (fun x hx => hsp x (by simp [hx]))
  exact trodAll_mk2 k0 k1

/-- A WORLD FOR THE WITNESS. -/
def layCells (cs : Array Value) : Obj → Obj
  | .cells _ t frozen => .cells cs t frozen
  | o => o
def laidWorld (P : Program) (os : Os) : World :=
  { World.holding P os ⟨#[], #[], []⟩ with heap := ((World.holding P os ⟨#[], #[], []⟩).heap.modify 0 (layCells #[.int .i64 0, .int .i64 5, .int .i64 1, .int .i64 2147483647, .int .i64 0, .bool false, .int .i64 1, .int .i64 5, .int .i64 1, .int .i64 2147483647, .int .i64 0, .bool false, .int .i64 0, .int .i64 0, .int .i64 0, .int .i64 0, .int .i64 8, .bool false, .int .i64 1, .int .i64 0, .int .i64 0, .int .i64 0, .int .i64 8, .bool false, .int .i64 0, .int .i64 5, .int .i64 1, .int .i64 2147483647, .int .i64 8, .bool true])).modify 1 (layCells #[.int .i64 0, .int .i64 1, .int .i64 1000, .int .i64 0, .bool false, .int .i64 0, .int .i64 (-1000), .int .i64 1000, .int .i64 0, .bool true, .int .i64 0, .int .i64 0, .int .i64 0, .int .i64 8, .bool false, .int .i64 1, .int .i64 0, .int .i64 0, .int .i64 8, .bool false, .int .i64 0, .int .i64 0, .int .i64 0, .int .i64 8, .bool false]) }
theorem laid_met (os : Os) : laidMet Tryz.prog Rows.keptUptoRow.laid ((laidWorld Tryz.prog os).forCall (fun _ _ => 0) ⟨#[], #[.agg #[.int .i64 0, .slice none 0 0, .bool false, .bool false, .int .i64 0], .slice none 0 0], []⟩).memory :=
  laidMet_of_run' 8 (by kernel_rfl) (by kernel_rfl)
theorem reads (os : Os) {H : Type} (en : TypeId × Value → H) : ∃ places, DataW.whole en Tryz.prog ((laidWorld Tryz.prog os).forCall (fun _ _ => 0) ⟨#[], #[.agg #[.int .i64 0, .slice none 0 0, .bool false, .bool false, .int .i64 0], .slice none 0 0], []⟩).memory Tryz.f5.params.toList Rows.keptSpec.vars false #[Value.agg #[.int .i64 0, .slice none 0 0, .bool false, .bool false, .int .i64 0], .slice none 0 0].toList 8 = some ([.agg [.lit (.int .i64 0), .nil, .lit (.bool false), .lit (.bool false), .lit (.int .i64 0)], .nil], [], places) :=
  ⟨[], by kernel_rfl⟩

set_option maxRecDepth 100000 in
theorem liftedUpto (os : Os) (started : os.Started) (H : Type) (en : TypeId × Value → H) (F : Stop.Interp) :
    ReturnsInHanded {} Tryz.checked os 5 .any ((Rows.OpenSpec.upto Rows.keptSpec).preRow en Tryz.prog Tryz.f5 Rows.keptUptoRow.domain false Rows.keptUptoRow.laid) (((Rows.OpenSpec.upto Rows.keptSpec).at F).post en Tryz.prog Tryz.f5 false true false false) := by
  obtain ⟨places, hx⟩ := reads os en
  refine returnsInHanded_of_row (C := Tryz.checked) (s := Rows.OpenSpec.upto Rows.keptSpec) own started (by kernel_rfl) Tryz.func5
    (witness_row_at (enc := en) (C := Tryz.checked) false (laidWorld Tryz.prog os) #[.agg #[.int .i64 0, .slice none 0 0, .bool false, .bool false, .int .i64 0], .slice none 0 0] rfl (by kernel_rfl) (by kernel_rfl) (by kernel_rfl)
      (OpenSpec.preRow_of_cond 8 hx (by kernel_rfl) (fun k hk => by cases hk; kernel_rfl) (by kernel_rfl) (laid_met os))) ?_
  intro W base args ds gs before hval hW _ hcond _ hL _ _
  exact contract H en W base args ds gs before hval hW (hcond _ rfl) hL

theorem saidUpto : Rows.KeptUptoSaid :=
  OpenClaim.holds_of_cond 5 Tryz.f5 rfl rfl rfl rfl rfl rfl rfl ⟨rfl, rfl, rfl, rfl, rfl⟩ rfl rfl rfl rfl rfl (by kernel_rfl) Tryz.func5 (by kernel_rfl)
    (of_decide_eq_true (by kernel_rfl)) (by unfold Func.isWrapper; first | (rw [if_pos (by decide +kernel)]; kernel_rfl) | (rw [if_neg (by decide +kernel)]; exact ⟨rfl, rfl⟩))
    (fun os started H en _ F => by rw [OpenClaim.pre_eq_preRow]; exact liftedUpto os started H en F)

theorem plain (f : FuncId) (fn : Func) (hf : Tryz.pinned.checked.prog.funcNamed "ripple/ripplelaw.Kept" = some f) (hfn : Tryz.pinned.checked.prog.funcs[f]? = some fn) :
    false = Tryz.pinned.checked.prog.looks [] ∧ ∀ (j : Nat) t, fn.params[j]? = some t → Tryz.pinned.checked.prog.wantsStandIn t = false := by
  obtain rfl : f = 5 := Option.some.inj ((show Tryz.prog.funcNamed "ripple/ripplelaw.Kept" = some 5 by kernel_rfl).symm.trans hf) |>.symm
  obtain rfl : fn = Tryz.f5 := (Option.some.inj (Tryz.func5.symm.trans hfn)).symm
  refine ⟨by kernel_rfl, fun j t ht => ?_⟩
  rw [Tryz.params5] at ht
  have hm : t = 24 ∨ t = 27 := by simpa using Array.mem_of_getElem? ht
  rcases hm with rfl | rfl
  · exact (show Tryz.prog.wantsStandIn 24 = false by kernel_rfl)
  · exact (show Tryz.prog.wantsStandIn 27 = false by kernel_rfl)

/-- THE CARD. -/
theorem cardUpto : Rows.KeptUptoCardSaid :=
  Claim7.holds_tied_plain_at .later [] _ _ _ _ saidUpto (fun _ h => by cases h) (by kernel_rfl) (fun _ h => by cases h) keptUpto_row_tie rfl ⟨rfl, rfl⟩ (by kernel_rfl) rfl plain (by kernel_rfl)

end Go.Proofs.YtahdlejgjcjeoaaGreatDoor.keptCardP

namespace Go.Proofs.YtahdlejgjcjeoaaGreatDoor
theorem keptUpto_holds : Rows.KeptUptoCardSaid := keptCardP.cardUpto
end Go.Proofs.YtahdlejgjcjeoaaGreatDoor
