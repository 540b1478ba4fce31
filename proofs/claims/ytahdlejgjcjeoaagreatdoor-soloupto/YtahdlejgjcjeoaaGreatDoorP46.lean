/- The card of the law Solo in its second form is proved: for all settings and scripts of bulk at most 1048576 in all the law answers true (while nothing is sent, every answer, state, buffer, log and number is as the document says, through torn writing, crashes and compaction) and the arguments read as before. Conditions: the bulk; the tables ripple/state.steps and ripple/state.rules lie as the program's text lays them (the card ties them, to the pruned copy of the project). -/
import Derived.Test.YtahdlejgjcjeoaaGreatDoorP09
import Derived.Test.YtahdlejgjcjeoaaGreatDoorP45
import Derived.Conc.Holds
import Derived.Deep.DeepHandedRow
import Derived.JoinedCond
import Derived.Below
import Derived.SevenTiedAt
import Derived.Test.YtahdlejgjcjeoaaGreatDoorCards
import Derived.Test.YtahdlejgjcjeoaaGreatDoorTie
import Derived.WalkKit
import Derived.ProofKit
import Derived.OpenShut
import Derived.Carry
import Derived.LaidLaws
namespace Go.Proofs.YtahdlejgjcjeoaaGreatDoor
open Go.RowKit Go.ChangeShapes Go.WideShapes

theorem cellsOp : Tryz.prog.cellsOf 29 = 5 := by kernel_rfl
theorem cellsAct : Tryz.prog.cellsOf 31 = 10 := by kernel_rfl
def opD {H : Type} (o : OpV) : DataW H := .agg [.lit (.int .i64 o.ty), .lit (.string o.key.data.toList), .lit (.int .i64 o.side), .lit (.string o.elem.data.toList), .lit (.int .i64 o.n)]
def actD {H : Type} (a : ActV) : DataW H := .agg [.lit (.int .i64 a.k), .lit (.int .i64 a.r), .lit (.int .i64 a.q), .lit (.int .i64 a.n), opD a.op, .lit (.string a.key.data.toList)]
set_option maxRecDepth 100000 in
theorem open_op {H : Type} {en : TypeId × Value → H} {w : World} {base : Nat} {sp : Nat → Bool} {held : Bool} {fuel : Nat} {cs : List Value} {x : DataW H × List MemPlace}
    (h : DataW.trod en Tryz.prog w base sp held fuel 29 cs = some x) : ∃ o : OpV, cs = [.int .i64 o.ty, .string o.key, .int .i64 o.side, .string o.elem, .int .i64 o.n] ∧ x = (opD o, []) := by
  obtain ⟨xs, n, -, rfl, hl, hxl, hf⟩ := DataW.trod_struct Tryz.underlying29 h
  rw [cellsOp] at hl
  have h0 := hf 0 _ rfl
  have h1 := hf 1 _ rfl
  have h2 := hf 2 _ rfl
  have h3 := hf 3 _ rfl
  have h4 := hf 4 _ rfl
  match cs, hl, xs, hxl with
  | [v0, v1, v2, v3, v4], _, [x0, x1, x2, x3, x4], _ =>
    have g0 : DataW.trod en Tryz.prog w base sp held n 3 [v0] = some x0 := by simpa [cellsI] using h0
    have g1 : DataW.trod en Tryz.prog w base sp held n 9 [v1] = some x1 := by simpa [cellsS] using h1
    have g2 : DataW.trod en Tryz.prog w base sp held n 3 [v2] = some x2 := by simpa [cellsI] using h2
    have g3 : DataW.trod en Tryz.prog w base sp held n 9 [v3] = some x3 := by simpa [cellsS] using h3
    have g4 : DataW.trod en Tryz.prog w base sp held n 3 [v4] = some x4 := by simpa [cellsI] using h4
    obtain ⟨n0, e0, rfl, -⟩ := DataW.trod_int Tryz.underlying3 g0
    obtain ⟨n1, e1, rfl, -⟩ := DataW.trod_string Tryz.underlying9 g1
    obtain ⟨n2, e2, rfl, -⟩ := DataW.trod_int Tryz.underlying3 g2
    obtain ⟨n3, e3, rfl, -⟩ := DataW.trod_string Tryz.underlying9 g3
    obtain ⟨n4, e4, rfl, -⟩ := DataW.trod_int Tryz.underlying3 g4
    simp only [List.cons.injEq, and_true] at e0 e1 e2 e3 e4
    subst e0 e1 e2 e3 e4
    exact ⟨⟨n0, n1, n2, n3, n4⟩, rfl, rfl⟩
set_option maxRecDepth 100000 in
theorem open_act {H : Type} {en : TypeId × Value → H} {w : World} {base : Nat} {sp : Nat → Bool} {held : Bool} {fuel : Nat} {cs : List Value} {x : DataW H × List MemPlace}
    (h : DataW.trod en Tryz.prog w base sp held fuel 31 cs = some x) : ∃ a : ActV, cs = a.cells ∧ x = (actD a, []) ∧ -9223372036854775808 ≤ a.n ∧ a.n ≤ 9223372036854775807 := by
  obtain ⟨xs, n, -, rfl, hl, hxl, hf⟩ := DataW.trod_struct Tryz.underlying31 h
  rw [cellsAct] at hl
  have h0 := hf 0 _ rfl
  have h1 := hf 1 _ rfl
  have h2 := hf 2 _ rfl
  have h3 := hf 3 _ rfl
  have h4 := hf 4 _ rfl
  have h5 := hf 5 _ rfl
  match cs, hl, xs, hxl with
  | [v0, v1, v2, v3, v4, v5, v6, v7, v8, v9], _, [x0, x1, x2, x3, x4, x5], _ =>
    have g0 : DataW.trod en Tryz.prog w base sp held n 3 [v0] = some x0 := by simpa [cellsI] using h0
    have g1 : DataW.trod en Tryz.prog w base sp held n 3 [v1] = some x1 := by simpa [cellsI] using h1
    have g2 : DataW.trod en Tryz.prog w base sp held n 3 [v2] = some x2 := by simpa [cellsI] using h2
    have g3 : DataW.trod en Tryz.prog w base sp held n 3 [v3] = some x3 := by simpa [cellsI] using h3
    have g4 : DataW.trod en Tryz.prog w base sp held n 29 [v4, v5, v6, v7, v8] = some x4 := by simpa [cellsOp] using h4
    have g5 : DataW.trod en Tryz.prog w base sp held n 9 [v9] = some x5 := by simpa [cellsS] using h5
    obtain ⟨n0, e0, rfl, -⟩ := DataW.trod_int Tryz.underlying3 g0
    obtain ⟨n1, e1, rfl, -⟩ := DataW.trod_int Tryz.underlying3 g1
    obtain ⟨n2, e2, rfl, -⟩ := DataW.trod_int Tryz.underlying3 g2
    obtain ⟨n3, e3, rfl, r3⟩ := DataW.trod_int Tryz.underlying3 g3
    obtain ⟨o, e4, rfl⟩ := open_op g4
    obtain ⟨n5, e5, rfl, -⟩ := DataW.trod_string Tryz.underlying9 g5
    simp only [List.cons.injEq, and_true] at e0 e1 e2 e3 e4 e5
    obtain ⟨rfl, rfl, rfl, rfl, rfl⟩ := e4
    subst e0 e1 e2 e3 e5
    exact ⟨⟨n0, n1, n2, n3, o, n5⟩, rfl, rfl, wf_range r3⟩
theorem bulk_act {H : Type} (a : ActV) : 12 ≤ Rows.uptoBulk (actD (H := H) a) ∧ a.op.key.size + a.op.elem.size + a.key.size ≤ Rows.uptoBulk (actD (H := H) a) := by
  simp only [actD, opD, Rows.uptoBulk, Rows.uptoBulkAll]
  have h1 : a.op.key.data.toList.length = a.op.key.size := by simp
  have h2 : a.op.elem.data.toList.length = a.op.elem.size := by simp
  have h3 : a.key.data.toList.length = a.key.size := by simp
  omega
theorem bulk_acts {H : Type} : ∀ l : List (DataW H), (∀ d ∈ l, ∃ p, d = actD p) → 12 * l.length ≤ Rows.uptoBulkAll l
  | [], _ => Nat.zero_le _
  | x :: r, h => by
    obtain ⟨a, rfl⟩ := h x (by simp)
    have := bulk_acts r (fun d hd => h d (by simp [hd]))
    simp only [Rows.uptoBulkAll, List.length_cons]
    have := (bulk_act (H := H) a).1
    omega

set_option maxRecDepth 100000 in
/-- A SCRIPT THAT IS HANDED IN. -/
theorem open_script {H : Type} {en : TypeId × Value → H} {w : World} {r : Reach} {b0 : Nat} {v : Value} {d : DataW H} {ps : List MemPlace}
    (hval : Value.okWide Tryz.prog w r b0 27 v) (hd : DataW.Trod en Tryz.prog w 0 (fun _ => true) true 27 v d ps) (hk : Rows.uptoBulk d ≤ 1048576) :
    ∃ l, ActsOf w v l ∧ l.length ≤ 87381 ∧ ∀ a ∈ l, a.fit := by
  obtain ⟨ad, len, cap, rfl⟩ := okWide_slice Tryz.underlying27 hval
  obtain ⟨fuel, hf⟩ := hd
  rcases DataW.trod_slice Tryz.underlying27 hf with ⟨hc, -⟩ | ⟨a, len', cap', elems, rest, n, -, hc, hx, -, hl, -, hlen, hel, -, -⟩
  · simp [Value.cells] at hc
    obtain ⟨rfl, rfl, rfl⟩ := hc
    exact ⟨[], ⟨none, 0, rfl, Nat.le_refl _, fun h => by simp at h⟩, by simp, by simp⟩
  · simp [Value.cells] at hc
    obtain ⟨rfl, rfl, rfl⟩ := hc
    simp only [Prod.mk.injEq] at hx
    obtain ⟨rfl, -⟩ := hx
    have each : ∀ i, i < len → ∃ p : ActV, w.cells? 0 (a.add (i * 10)) 10 = some p.cells ∧ elems[i]? = some (actD p, []) ∧ -9223372036854775808 ≤ p.n ∧ p.n ≤ 9223372036854775807 := by
      intro i hi
      have h1 := hel i hi
      rw [cellsAct] at h1
      rw [List.getElem?_eq_getElem (by omega), Option.bind_eq_some_iff] at h1
      obtain ⟨cs, hcs, ht⟩ := h1
      obtain ⟨p, rfl, hx, hn⟩ := open_act ht
      exact ⟨p, hcs, by rw [List.getElem?_eq_getElem (by omega), hx], hn⟩
    obtain ⟨l, hll, hq⟩ := list_of_each len each
    have hmem : ∀ i (h : i < l.length), actD l[i] ∈ elems.map (·.1) := fun i h => List.mem_of_getElem? (i := i) (by rw [List.getElem?_map, (hq i h).2.1]; rfl)
    have hall : ∀ y ∈ elems.map (·.1), ∃ p, y = actD p := by
      intro y hy
      obtain ⟨i, hi⟩ := List.getElem?_of_mem hy
      have hi' : i < l.length := by
        have := (List.getElem?_eq_some_iff.1 hi).1
        simp at this
        omega
      have := (hq i hi').2.1
      rw [List.getElem?_map, this] at hi
      simp at hi
      exact ⟨l[i], hi.symm⟩
    simp only [Rows.uptoBulk] at hk
    have hlen2 : l.length ≤ 87381 := by
      have := bulk_acts (elems.map (·.1)) hall
      rw [List.length_map] at this
      omega
    refine ⟨l, ⟨some a, cap, by rw [hll], by omega, fun hp => ?_⟩, hlen2, fun p hp => ?_⟩
    · have cell : ∀ (k : Nat) (h : k < l.length) (j : Nat), j < 10 → w.cell? ((a.add (k * 10)).add j) = l[k].cells[j]? := fun k h j hj => (World.cells?_some (hq k h).1).2.2 j hj
      obtain ⟨b, off, spot⟩ := a
      have c0 : w.cell? ⟨b, off, spot⟩ = some (.int .i64 (l[0]'hp).k) := cell 0 hp 0 (by decide)
      have hspot : spot = none := by
        cases spot with
        | none => rfl
        | some q =>
          unfold World.cell? at c0
          split at c0 <;> simp at c0
      subst hspot
      refine ⟨b, off, rfl, ?_, ?_⟩
      · have : w.heap[b]? ≠ none := by
          intro hn
          unfold World.cell? at c0
          rw [hn] at c0
          simp at c0
        have := mt Array.getElem?_eq_none this
        omega
      · intro k h j u hu
        have hj : j < 10 := (List.getElem?_eq_some_iff.1 hu).1
        have hadd : ((⟨b, off, none⟩ : Addr).add (k * 10)).add j = ⟨b, off + k * 10 + j, none⟩ := by
          unfold Addr.add
          repeat' split
          all_goals simp_all
        have := cell k h j hj
        rw [hadd, hu] at this
        exact this
    · obtain ⟨i, hi, rfl⟩ := List.mem_iff_getElem.1 hp
      have h1 := bulk_part (hmem i hi)
      have h2 := (bulk_act (H := H) l[i]).2
      obtain ⟨-, -, n0, n1⟩ := hq i hi
      exact ⟨⟨by omega, by omega⟩, n0, n1, by omega⟩

theorem gSteps : Tryz.prog.globalNamed "ripple/state.steps" = some 1 := by kernel_rfl
theorem gStepsType : (Tryz.prog.globals[1]?).map (·.type) = some 265 := by kernel_rfl
theorem cellsStep : Tryz.prog.cellsOf 264 = 5 := by kernel_rfl
set_option maxRecDepth 100000 in
/-- One row of the table. -/
theorem open_step {W : World} {base : Nat} {sp : Nat → Bool} {held : Bool} {fuel : Nat} {cs : List Value} {p : List MemPlace} {a b c d : Int} {r : Bool}
    (h : DataW.trod (fun _ => ()) Tryz.prog W base sp held fuel 264 cs = some (.agg [.lit (.int .i64 a), .lit (.int .i64 b), .lit (.int .i64 c), .lit (.int .i64 d), .lit (.bool r)], p)) :
    cs = [.int .i64 a, .int .i64 b, .int .i64 c, .int .i64 d, .bool r] := by
  obtain ⟨xs, n, -, hx, hl, hxl, hf⟩ := DataW.trod_struct Tryz.underlying264 h
  rw [cellsStep] at hl
  have h0 := hf 0 _ rfl
  have h1 := hf 1 _ rfl
  have h2 := hf 2 _ rfl
  have h3 := hf 3 _ rfl
  have h4 := hf 4 _ rfl
  match cs, hl, xs, hxl with
  | [v0, v1, v2, v3, v4], _, [x0, x1, x2, x3, x4], _ =>
    have g0 : DataW.trod (fun _ => ()) Tryz.prog W base sp held n 3 [v0] = some x0 := by simpa [cellsI] using h0
    have g1 : DataW.trod (fun _ => ()) Tryz.prog W base sp held n 3 [v1] = some x1 := by simpa [cellsI] using h1
    have g2 : DataW.trod (fun _ => ()) Tryz.prog W base sp held n 3 [v2] = some x2 := by simpa [cellsI] using h2
    have g3 : DataW.trod (fun _ => ()) Tryz.prog W base sp held n 3 [v3] = some x3 := by simpa [cellsI] using h3
    have g4 : DataW.trod (fun _ => ()) Tryz.prog W base sp held n 4 [v4] = some x4 := by simpa [cellsB] using h4
    obtain ⟨n0, e0, rfl, -⟩ := DataW.trod_int Tryz.underlying3 g0
    obtain ⟨n1, e1, rfl, -⟩ := DataW.trod_int Tryz.underlying3 g1
    obtain ⟨n2, e2, rfl, -⟩ := DataW.trod_int Tryz.underlying3 g2
    obtain ⟨n3, e3, rfl, -⟩ := DataW.trod_int Tryz.underlying3 g3
    obtain ⟨n4, e4, rfl⟩ := DataW.trod_bool Tryz.underlying4 g4
    simp at hx e0 e1 e2 e3 e4
    obtain ⟨⟨rfl, rfl, rfl, rfl, rfl⟩, -⟩ := hx
    subst e0 e1 e2 e3 e4
    rfl
theorem take_five {cs : List Value} {o : Nat} {v0 v1 v2 v3 v4 : Value} (h : (cs.drop o).take 5 = [v0, v1, v2, v3, v4]) :
    cs[o]? = some v0 ∧ cs[o + 1]? = some v1 ∧ cs[o + 2]? = some v2 ∧ cs[o + 3]? = some v3 ∧ cs[o + 4]? = some v4 := by
  have at5 : ∀ j, j < 5 → cs[o + j]? = [v0, v1, v2, v3, v4][j]? := by
    intro j hj
    rw [← h, List.getElem?_take, if_pos hj, List.getElem?_drop]
  exact ⟨at5 0 (by decide), at5 1 (by decide), at5 2 (by decide), at5 3 (by decide), at5 4 (by decide)⟩
set_option maxRecDepth 100000 in
/-- THE TABLE OF STEPS, out of what the rows list. -/
theorem steps_of_laid {W : World} (h : laidMetH Tryz.prog [("ripple/state.steps", Rows.laid_ripple_state_steps), ("ripple/state.rules", Rows.laid_ripple_state_rules)] W) : StepsAt W := by
  have h' : laidMet Tryz.prog [("ripple/state.steps", Rows.laid_ripple_state_steps), ("ripple/state.rules", Rows.laid_ripple_state_rules)] W := h
  obtain ⟨ps, ⟨g, t, cs, fuel, p, q, hg, ht, hvar, hd, -, -⟩, -⟩ := h'
  obtain rfl := Option.some.inj (gSteps.symm.trans hg)
  obtain rfl := Option.some.inj (gStepsType.symm.trans ht)
  obtain ⟨xs, m, -, hx, hl, hxl, hf⟩ := DataW.trod_array Tryz.underlying265 hd
  rw [cellsStep] at hf
  have hcell : ∀ i, W.cell? ⟨1, i, none⟩ = cs.toList[i]? := fun i => by rw [World.var?_cell gSteps hvar i]; simp
  match xs, hxl with
  | [x0, x1, x2, x3, x4], _ =>
    obtain ⟨y0, p0⟩ := x0
    obtain ⟨y1, p1⟩ := x1
    obtain ⟨y2, p2⟩ := x2
    obtain ⟨y3, p3⟩ := x3
    obtain ⟨y4, p4⟩ := x4
    simp only [Rows.laid_ripple_state_steps, Prod.mk.injEq, List.map_cons, List.map_nil, DataW.agg.injEq, List.cons.injEq, and_true] at hx
    obtain ⟨⟨rfl, rfl, rfl, rfl, rfl⟩, -⟩ := hx
    have r0 := take_five (open_step (hf 0 (by decide)))
    have r1 := take_five (open_step (hf 1 (by decide)))
    have r2 := take_five (open_step (hf 2 (by decide)))
    have r3 := take_five (open_step (hf 3 (by decide)))
    have r4 := take_five (open_step (hf 4 (by decide)))
    simp only [← hcell] at r0 r1 r2 r3 r4
    refine ⟨?_, r0, r1, r2, r3, r4⟩
    have c0 := r0.1
    have : W.heap[1]? ≠ none := by
      intro hn
      unfold World.cell? at c0
      simp [hn] at c0
    have := mt Array.getElem?_eq_none this
    omega
end Go.Proofs.YtahdlejgjcjeoaaGreatDoor

namespace Go.Proofs.YtahdlejgjcjeoaaGreatDoor

/-- WHAT A CALL LEAVES THAT WRITES INTO NEW MEMORY ALONE. -/
theorem post_of_below {H : Type} {enc : TypeId × Value → H} {P : Program} {f : Func} {s : ChangeSpec} {apart fresh handsOn again : Bool} {W W' : World} {args : Array Value} {v : Value} {ds gs : List (DataW H)} {before pa pv : List MemPlace}
    (hW : DataW.Whole enc P f.params.toList s.vars apart W args.toList ds gs before)
    (hres : ∀ (b : Nat) (sp : Nat → Bool) (hd : Bool), DataW.TrodAll enc P W' b sp hd f.resultTypes.toList (v.resultList f.resultTypes.size) (s.fn H (ds ++ gs)).results [])
    (hargs : ∀ sp : Nat → Bool, (∀ p ∈ before, sp p.block = true) → DataW.TrodAll enc P W' 0 sp true f.params.toList args.toList (s.fn H (ds ++ gs)).args pa)
    (hvars : ∀ sp : Nat → Bool, (∀ p ∈ before, sp p.block = true) → DataW.TrodVars enc P W' sp s.vars (s.fn H (ds ++ gs)).vars pv)
    (hps : before = pa ++ pv) (hb : RowKit.Below W.heap.size W W')
    (hok : ∀ (j : Nat) (t : TypeId) (r : Value), f.resultTypes[j]? = some t → (v.resultList f.resultTypes.size)[j]? = some r → Value.okWide P W' .any 0 t r) :
    s.post enc P f apart fresh handsOn again W args v W' := by
  have hlt : ∀ p ∈ before, p.block < W.heap.size := fun p hp => hW.lt p hp
  have hold : ∀ p ∈ before, (fun b => decide (b < W.heap.size)) p.block = true := fun p hp => by simpa using hlt p hp
  refine ⟨ds, gs, before, [], pa, pv, hW, hres _ _ _, hargs _ hold, hvars _ hold, hb.frame _, fun _ => ?_⟩
  obtain ⟨_, _, _, _, _, hz, hn⟩ := hW
  refine ⟨hok, _, _, ([] ++ pa) ++ pv, ⟨[] ++ pa, pv, ChangeShapes.trodAll_append (hargs _ (fun _ _ => rfl)) (hres _ _ _), hvars _ (fun _ _ => rfl), rfl, ?_, ?_⟩, ?_⟩
  · intro b off hp
    have hp' : MemPlace.cell b off ∈ before := by rw [hps]; simpa using hp
    rw [hb.frozen (hlt _ hp')]
    exact hz b off hp'
  · intro ha
    have := hn ha
    rw [hps] at this
    simpa using this
  · intro p hp _
    rw [hps]
    simpa using hp

end Go.Proofs.YtahdlejgjcjeoaaGreatDoor

namespace Go.Proofs.YtahdlejgjcjeoaaGreatDoor.soloCardP
open Go.ChangeShapes Go.WideShapes Go.ChangeAt Go.RowKit

theorem own : ownKnob Tryz.prog.godebug = none := by kernel_rfl
theorem lays : laidOutB Tryz.prog = true := by kernel_rfl
theorem readC : Tryz.prog.readableRec 24 = true := by kernel_rfl
theorem readS : Tryz.prog.readableRec 27 = true := by kernel_rfl
theorem rowS : 27 < Tryz.prog.types.size := of_decide_eq_true (by kernel_rfl)
theorem rowC : 24 < Tryz.prog.types.size := of_decide_eq_true (by kernel_rfl)

set_option maxRecDepth 100000 in
/-- FOR EVERY INPUT OF THAT BULK AND EVERY WORLD THAT HOLDS THE TABLE. -/
theorem contract (H : Type) (en : TypeId × Value → H) (W : World) (base : Nat) (args : Array Value) (ds gs : List (DataW H)) (before : List MemPlace)
    (hval : ∀ (j : Nat) t v, Tryz.f4.params[j]? = some t → args[j]? = some v → Value.okWide Tryz.prog W .any base t v)
    (hW : DataW.Whole en Tryz.prog Tryz.f4.params.toList Rows.soloSpec.vars false W args.toList ds gs before) (hk : Rows.uptoSmall H (ds ++ gs) = true) (hL : laidMetH Tryz.prog Rows.soloUptoRow.laid W) :
    Calls Tryz.prog 4 args W fun e W' => ∃ v, e = .returned v ∧ Rows.soloSpec.post en Tryz.prog Tryz.f4 false true false false W args v W' := by
  have hW' := hW
  obtain ⟨p, q, hA0, hV, rfl, hfz, hnd⟩ := hW
  have hA : DataW.TrodAll en Tryz.prog W 0 (fun _ => true) true Tryz.f4.params.toList args.toList ds p := hA0
  rw [Tryz.params4] at hA hval
  obtain ⟨v0, v1, d0, d1, p0, p1, rfl, rfl, rfl, h0, h1⟩ := trodAll_two hA
  obtain ⟨rfl, rfl⟩ := trodVars_none hV
  clear hA0
  have hb : Rows.uptoBulk d0 + (Rows.uptoBulk d1 + 0) ≤ 1048576 := by simpa [Rows.uptoSmall, Rows.uptoBulkAll] using hk
  obtain ⟨reps, room, bp, rr, vE, es, rfl, hed, hel⟩ := open_cfg (hval 0 _ v0 rfl rfl) h0 (by omega)
  obtain ⟨l, hs, hll, hfit⟩ := open_script (hval 1 _ v1 rfl rfl) h1 (by omega)
  have hr := rules_of_laid2 hL
  have hst := steps_of_laid hL
  refine (solo_walk vE v1 es l reps room bp rr W hr hst hed hel hs hll hfit).mono fun e W' ⟨he, hbel⟩ => ?_
  subst he
  have hlt : ∀ x ∈ p0 ++ p1, x.block < W.heap.size := fun x hx => hW'.lt x (by simpa using hx)
  refine ⟨_, rfl, post_of_below (pa := p0 ++ p1) (pv := []) hW' (fun _ _ _ => trodAll_cons_mk (shut_bool Tryz.underlying4 _) trodAll_mk0) (fun sp hsp => ?_) (fun _ _ => rfl) rfl hbel (ok_one (by kernel_rfl) rfl (okWide_bool_mk Tryz.underlying4 _))⟩
  rw [Tryz.params4]
  have k0 : DataW.Trod en Tryz.prog W' 0 sp true 24 (.agg #[.int .i64 reps, vE, .bool bp, .bool rr, .int .i64 room]) d0 p0 := WideElems.Trod_stays lays readC rowC h0 (fun x hx => hbel.same (hlt x (by simp [hx]))) (fun x hx => hsp x (by simp [hx]))
  have k1 : DataW.Trod en Tryz.prog W' 0 sp true 27 v1 d1 p1 := WideElems.Trod_stays lays readS rowS h1 (fun x hx => hbel.same (hlt x (by simp [hx]))) (fun x hx => hsp x (by simp [hx]))
  exact trodAll_mk2 k0 k1

/-- A WORLD FOR THE WITNESS. -/
def layCells (cs : Array Value) : Obj → Obj
  | .cells _ t frozen => .cells cs t frozen
  | o => o
def laidWorld (P : Program) (os : Os) : World :=
  { World.holding P os ⟨#[], #[], []⟩ with heap := ((World.holding P os ⟨#[], #[], []⟩).heap.modify 0 (layCells #[.int .i64 0, .int .i64 5, .int .i64 1, .int .i64 2147483647, .int .i64 0, .bool false, .int .i64 1, .int .i64 5, .int .i64 1, .int .i64 2147483647, .int .i64 0, .bool false, .int .i64 0, .int .i64 0, .int .i64 0, .int .i64 0, .int .i64 8, .bool false, .int .i64 1, .int .i64 0, .int .i64 0, .int .i64 0, .int .i64 8, .bool false, .int .i64 0, .int .i64 5, .int .i64 1, .int .i64 2147483647, .int .i64 8, .bool true])).modify 1 (layCells #[.int .i64 0, .int .i64 1, .int .i64 1000, .int .i64 0, .bool false, .int .i64 0, .int .i64 (-1000), .int .i64 1000, .int .i64 0, .bool true, .int .i64 0, .int .i64 0, .int .i64 0, .int .i64 8, .bool false, .int .i64 1, .int .i64 0, .int .i64 0, .int .i64 8, .bool false, .int .i64 0, .int .i64 0, .int .i64 0, .int .i64 8, .bool false]) }
theorem laid_met (os : Os) : laidMet Tryz.prog Rows.soloUptoRow.laid ((laidWorld Tryz.prog os).forCall (fun _ _ => 0) ⟨#[], #[.agg #[.int .i64 0, .slice none 0 0, .bool false, .bool false, .int .i64 0], .slice none 0 0], []⟩).memory :=
  laidMet_of_run' 8 (by kernel_rfl) (by kernel_rfl)
theorem reads (os : Os) {H : Type} (en : TypeId × Value → H) : ∃ places, DataW.whole en Tryz.prog ((laidWorld Tryz.prog os).forCall (fun _ _ => 0) ⟨#[], #[.agg #[.int .i64 0, .slice none 0 0, .bool false, .bool false, .int .i64 0], .slice none 0 0], []⟩).memory Tryz.f4.params.toList Rows.soloSpec.vars false #[Value.agg #[.int .i64 0, .slice none 0 0, .bool false, .bool false, .int .i64 0], .slice none 0 0].toList 8 = some ([.agg [.lit (.int .i64 0), .nil, .lit (.bool false), .lit (.bool false), .lit (.int .i64 0)], .nil], [], places) :=
  ⟨[], by kernel_rfl⟩

set_option maxRecDepth 100000 in
theorem liftedUpto (os : Os) (started : os.Started) (H : Type) (en : TypeId × Value → H) (F : Stop.Interp) :
    ReturnsInHanded {} Tryz.checked os 4 .any ((Rows.OpenSpec.upto Rows.soloSpec).preRow en Tryz.prog Tryz.f4 Rows.soloUptoRow.domain false Rows.soloUptoRow.laid) (((Rows.OpenSpec.upto Rows.soloSpec).at F).post en Tryz.prog Tryz.f4 false true false false) := by
  obtain ⟨places, hx⟩ := reads os en
  refine returnsInHanded_of_row (C := Tryz.checked) (s := Rows.OpenSpec.upto Rows.soloSpec) own started (by kernel_rfl) Tryz.func4
    (witness_row_at (enc := en) (C := Tryz.checked) false (laidWorld Tryz.prog os) #[.agg #[.int .i64 0, .slice none 0 0, .bool false, .bool false, .int .i64 0], .slice none 0 0] rfl (by kernel_rfl) (by kernel_rfl) (by kernel_rfl)
      (OpenSpec.preRow_of_cond 8 hx (by kernel_rfl) (fun k hk => by cases hk; kernel_rfl) (by kernel_rfl) (laid_met os))) ?_
  intro W base args ds gs before hval hW _ hcond _ hL _ _
  exact contract H en W base args ds gs before hval hW (hcond _ rfl) hL

theorem saidUpto : Rows.SoloUptoSaid :=
  OpenClaim.holds_of_cond 4 Tryz.f4 rfl rfl rfl rfl rfl rfl rfl ⟨rfl, rfl, rfl, rfl, rfl⟩ rfl rfl rfl rfl rfl (by kernel_rfl) Tryz.func4 (by kernel_rfl)
    (of_decide_eq_true (by kernel_rfl)) (by unfold Func.isWrapper; first | (rw [if_pos (by decide +kernel)]; kernel_rfl) | (rw [if_neg (by decide +kernel)]; exact ⟨rfl, rfl⟩))
    (fun os started H en _ F => by rw [OpenClaim.pre_eq_preRow]; exact liftedUpto os started H en F)

theorem plain (f : FuncId) (fn : Func) (hf : Tryz.pinned.checked.prog.funcNamed "ripple/ripplelaw.Solo" = some f) (hfn : Tryz.pinned.checked.prog.funcs[f]? = some fn) :
    false = Tryz.pinned.checked.prog.looks [] ∧ ∀ (j : Nat) t, fn.params[j]? = some t → Tryz.pinned.checked.prog.wantsStandIn t = false := by
  obtain rfl : f = 4 := Option.some.inj ((show Tryz.prog.funcNamed "ripple/ripplelaw.Solo" = some 4 by kernel_rfl).symm.trans hf) |>.symm
  obtain rfl : fn = Tryz.f4 := (Option.some.inj (Tryz.func4.symm.trans hfn)).symm
  refine ⟨by kernel_rfl, fun j t ht => ?_⟩
  rw [Tryz.params4] at ht
  have hm : t = 24 ∨ t = 27 := by simpa using Array.mem_of_getElem? ht
  rcases hm with rfl | rfl
  · exact (show Tryz.prog.wantsStandIn 24 = false by kernel_rfl)
  · exact (show Tryz.prog.wantsStandIn 27 = false by kernel_rfl)

/-- THE CARD. -/
theorem cardUpto : Rows.SoloUptoCardSaid :=
  Claim7.holds_tied_plain_at .later [] _ _ _ _ saidUpto (fun _ h => by cases h) (by kernel_rfl) (fun _ h => by cases h) soloUpto_row_tie rfl ⟨rfl, rfl⟩ (by kernel_rfl) rfl plain (by kernel_rfl)

end Go.Proofs.YtahdlejgjcjeoaaGreatDoor.soloCardP

namespace Go.Proofs.YtahdlejgjcjeoaaGreatDoor
theorem soloUpto_holds : Rows.SoloUptoCardSaid := soloCardP.cardUpto
end Go.Proofs.YtahdlejgjcjeoaaGreatDoor
