/- Walk of the laws' opOf: an operation that may be. -/
import Derived.Test.YtahdlejgjcjeoabGreatDoorS06
import Derived.Test.YtahdlejgjcjeoabGreatDoorS08
import Derived.Test.YtahdlejgjcjeoabGreatDoorS02
import Derived.Deep.RegionHeld3
import Derived.Deep.RegionHeldLaw
namespace Go.Proofs.YtahdlejgjcjeoabGreatDoor
open Go.RowKit Go.ChangeShapes Go.WideShapes

theorem cellsOp : Tryz.prog.cellsOf 31 = 5 := by kernel_rfl
theorem cellsAct : Tryz.prog.cellsOf 33 = 10 := by kernel_rfl
def opD {H : Type} (o : OpV) : DataW H := .agg [.lit (.int .i64 o.ty), .lit (.string o.key.data.toList), .lit (.int .i64 o.side), .lit (.string o.elem.data.toList), .lit (.int .i64 o.n)]
def actD {H : Type} (a : ActV) : DataW H := .agg [.lit (.int .i64 a.k), .lit (.int .i64 a.r), .lit (.int .i64 a.q), .lit (.int .i64 a.n), opD a.op, .lit (.string a.key.data.toList)]
set_option maxRecDepth 100000 in
theorem open_op {H : Type} {en : TypeId × Value → H} {w : World} {base : Nat} {sp : Nat → Bool} {held : Bool} {fuel : Nat} {cs : List Value} {x : DataW H × List MemPlace}
    (h : DataW.trod en Tryz.prog w base sp held fuel 31 cs = some x) : ∃ o : OpV, cs = [.int .i64 o.ty, .string o.key, .int .i64 o.side, .string o.elem, .int .i64 o.n] ∧ x = (opD o, []) ∧ i64r o.ty ∧ i64r o.side ∧ i64r o.n := by
  obtain ⟨xs, n, -, rfl, hl, hxl, hf⟩ := DataW.trod_struct Tryz.underlying31 h
  rw [cellsOp] at hl
  have h0 := hf 0 _ rfl
  have h1 := hf 1 _ rfl
  have h2 := hf 2 _ rfl
  have h3 := hf 3 _ rfl
  have h4 := hf 4 _ rfl
  match cs, hl, xs, hxl with
  | [v0, v1, v2, v3, v4], _, [x0, x1, x2, x3, x4], _ =>
    have g0 : DataW.trod en Tryz.prog w base sp held n 3 [v0] = some x0 := by simpa [cellsI] using h0
    have g1 : DataW.trod en Tryz.prog w base sp held n 9 [v1] = some x1 := by simpa [cellsS] using h1
    have g2 : DataW.trod en Tryz.prog w base sp held n 3 [v2] = some x2 := by simpa [cellsI] using h2
    have g3 : DataW.trod en Tryz.prog w base sp held n 9 [v3] = some x3 := by simpa [cellsS] using h3
    have g4 : DataW.trod en Tryz.prog w base sp held n 3 [v4] = some x4 := by simpa [cellsI] using h4
    obtain ⟨n0, e0, rfl, r0⟩ := DataW.trod_int Tryz.underlying3 g0
    obtain ⟨n1, e1, rfl, -⟩ := DataW.trod_string Tryz.underlying9 g1
    obtain ⟨n2, e2, rfl, r2⟩ := DataW.trod_int Tryz.underlying3 g2
    obtain ⟨n3, e3, rfl, -⟩ := DataW.trod_string Tryz.underlying9 g3
    obtain ⟨n4, e4, rfl, r4⟩ := DataW.trod_int Tryz.underlying3 g4
    simp only [List.cons.injEq, and_true] at e0 e1 e2 e3 e4
    subst e0 e1 e2 e3 e4
    exact ⟨⟨n0, n1, n2, n3, n4⟩, rfl, rfl, wf_range r0, wf_range r2, wf_range r4⟩
set_option maxRecDepth 100000 in
theorem open_act {H : Type} {en : TypeId × Value → H} {w : World} {base : Nat} {sp : Nat → Bool} {held : Bool} {fuel : Nat} {cs : List Value} {x : DataW H × List MemPlace}
    (h : DataW.trod en Tryz.prog w base sp held fuel 33 cs = some x) : ∃ a : ActV, cs = a.cells ∧ x = (actD a, []) ∧ a.rng := by
  obtain ⟨xs, n, -, rfl, hl, hxl, hf⟩ := DataW.trod_struct Tryz.underlying33 h
  rw [cellsAct] at hl
  have h0 := hf 0 _ rfl
  have h1 := hf 1 _ rfl
  have h2 := hf 2 _ rfl
  have h3 := hf 3 _ rfl
  have h4 := hf 4 _ rfl
  have h5 := hf 5 _ rfl
  match cs, hl, xs, hxl with
  | [v0, v1, v2, v3, v4, v5, v6, v7, v8, v9], _, [x0, x1, x2, x3, x4, x5], _ =>
    have g0 : DataW.trod en Tryz.prog w base sp held n 3 [v0] = some x0 := by simpa [cellsI] using h0
    have g1 : DataW.trod en Tryz.prog w base sp held n 3 [v1] = some x1 := by simpa [cellsI] using h1
    have g2 : DataW.trod en Tryz.prog w base sp held n 3 [v2] = some x2 := by simpa [cellsI] using h2
    have g3 : DataW.trod en Tryz.prog w base sp held n 3 [v3] = some x3 := by simpa [cellsI] using h3
    have g4 : DataW.trod en Tryz.prog w base sp held n 31 [v4, v5, v6, v7, v8] = some x4 := by simpa [cellsOp] using h4
    have g5 : DataW.trod en Tryz.prog w base sp held n 9 [v9] = some x5 := by simpa [cellsS] using h5
    obtain ⟨n0, e0, rfl, -⟩ := DataW.trod_int Tryz.underlying3 g0
    obtain ⟨n1, e1, rfl, r1⟩ := DataW.trod_int Tryz.underlying3 g1
    obtain ⟨n2, e2, rfl, r2⟩ := DataW.trod_int Tryz.underlying3 g2
    obtain ⟨n3, e3, rfl, r3⟩ := DataW.trod_int Tryz.underlying3 g3
    obtain ⟨o, e4, rfl, o1, o2, o3⟩ := open_op g4
    obtain ⟨n5, e5, rfl, -⟩ := DataW.trod_string Tryz.underlying9 g5
    simp only [List.cons.injEq, and_true] at e0 e1 e2 e3 e4 e5
    obtain ⟨rfl, rfl, rfl, rfl, rfl⟩ := e4
    subst e0 e1 e2 e3 e5
    exact ⟨⟨n0, n1, n2, n3, o, n5⟩, rfl, rfl, wf_range r3, wf_range r1, wf_range r2, o1, o2, o3⟩
theorem bulk_act {H : Type} (a : ActV) : 12 ≤ Rows.uptoBulk (actD (H := H) a) ∧ a.op.key.size + a.op.elem.size + a.key.size ≤ Rows.uptoBulk (actD (H := H) a) := by
  simp only [actD, opD, Rows.uptoBulk, Rows.uptoBulkAll]
  have h1 : a.op.key.data.toList.length = a.op.key.size := by simp
  have h2 : a.op.elem.data.toList.length = a.op.elem.size := by simp
  have h3 : a.key.data.toList.length = a.key.size := by simp
  omega
theorem bulk_acts {H : Type} : ∀ l : List (DataW H), (∀ d ∈ l, ∃ p, d = actD p) → 12 * l.length ≤ Rows.uptoBulkAll l
  | [], _ => Nat.zero_le _
  | x :: r, h => by
    obtain ⟨a, rfl⟩ := h x (by simp)
    have := bulk_acts r (fun d hd => h d (by simp [hd]))
    simp only [Rows.uptoBulkAll, List.length_cons]
    have := (bulk_act (H := H) a).1
    omega

set_option maxRecDepth 100000 in
/-- A SCRIPT THAT IS HANDED IN. -/
theorem open_script {H : Type} {en : TypeId × Value → H} {w : World} {r : Reach} {b0 : Nat} {v : Value} {d : DataW H} {ps : List MemPlace}
    (hval : Value.okWide Tryz.prog w r b0 25 v) (hd : DataW.Trod en Tryz.prog w 0 (fun _ => true) true 25 v d ps) (hk : Rows.uptoBulk d ≤ 1048576) :
    ∃ l, ActsOf w v l ∧ l.length ≤ 87381 ∧ ∀ a ∈ l, a.fit := by
  obtain ⟨ad, len, cap, rfl⟩ := okWide_slice Tryz.underlying25 hval
  obtain ⟨fuel, hf⟩ := hd
  rcases DataW.trod_slice Tryz.underlying25 hf with ⟨hc, -⟩ | ⟨a, len', cap', elems, rest, n, -, hc, hx, -, hl, -, hlen, hel, -, -⟩
  · simp [Value.cells] at hc
    obtain ⟨rfl, rfl, rfl⟩ := hc
    exact ⟨[], ⟨none, 0, rfl, Nat.le_refl _, fun h => by simp at h⟩, by simp, by simp⟩
  · simp [Value.cells] at hc
    obtain ⟨rfl, rfl, rfl⟩ := hc
    simp only [Prod.mk.injEq] at hx
    obtain ⟨rfl, -⟩ := hx
    have each : ∀ i, i < len → ∃ p : ActV, w.cells? 0 (a.add (i * 10)) 10 = some p.cells ∧ elems[i]? = some (actD p, []) ∧ p.rng := by
      intro i hi
      have h1 := hel i hi
      rw [cellsAct] at h1
      rw [List.getElem?_eq_getElem (by omega), Option.bind_eq_some_iff] at h1
      obtain ⟨cs, hcs, ht⟩ := h1
      obtain ⟨p, rfl, hx, hn⟩ := open_act ht
      exact ⟨p, hcs, by rw [List.getElem?_eq_getElem (by omega), hx], hn⟩
    obtain ⟨l, hll, hq⟩ := list_of_each len each
    have hmem : ∀ i (h : i < l.length), actD l[i] ∈ elems.map (·.1) := fun i h => List.mem_of_getElem? (i := i) (by rw [List.getElem?_map, (hq i h).2.1]; rfl)
    have hall : ∀ y ∈ elems.map (·.1), ∃ p, y = actD p := by
      intro y hy
      obtain ⟨i, hi⟩ := List.getElem?_of_mem hy
      have hi' : i < l.length := by
        have := (List.getElem?_eq_some_iff.1 hi).1
        simp at this
        omega
      have := (hq i hi').2.1
      rw [List.getElem?_map, this] at hi
      simp at hi
      exact ⟨l[i], hi.symm⟩
    simp only [Rows.uptoBulk] at hk
    have hlen2 : l.length ≤ 87381 := by
      have := bulk_acts (elems.map (·.1)) hall
      rw [List.length_map] at this
      omega
    refine ⟨l, ⟨some a, cap, by rw [hll], by omega, fun hp => ?_⟩, hlen2, fun p hp => ?_⟩
    · have cell : ∀ (k : Nat) (h : k < l.length) (j : Nat), j < 10 → w.cell? ((a.add (k * 10)).add j) = l[k].cells[j]? := fun k h j hj => (World.cells?_some (hq k h).1).2.2 j hj
      obtain ⟨b, off, spot⟩ := a
      have c0 : w.cell? ⟨b, off, spot⟩ = some (.int .i64 (l[0]'hp).k) := cell 0 hp 0 (by decide)
      have hspot : spot = none := by
        cases spot with
        | none => rfl
        | some q =>
          unfold World.cell? at c0
          split at c0 <;> simp at c0
      subst hspot
      refine ⟨b, off, rfl, ?_, ?_⟩
      · have : w.heap[b]? ≠ none := by
          intro hn
          unfold World.cell? at c0
          rw [hn] at c0
          simp at c0
        have := mt Array.getElem?_eq_none this
        omega
      · intro k h j u hu
        have hj : j < 10 := (List.getElem?_eq_some_iff.1 hu).1
        have hadd : ((⟨b, off, none⟩ : Addr).add (k * 10)).add j = ⟨b, off + k * 10 + j, none⟩ := by
          unfold Addr.add
          repeat' split
          all_goals simp_all
        have := cell k h j hj
        rw [hadd, hu] at this
        exact this
    · obtain ⟨i, hi, rfl⟩ := List.mem_iff_getElem.1 hp
      have h1 := bulk_part (hmem i hi)
      have h2 := (bulk_act (H := H) l[i]).2
      obtain ⟨-, -, hg⟩ := hq i hi
      exact ⟨⟨by omega, by omega⟩, hg.n.1, hg.n.2, by omega, hg⟩

theorem gSteps : Tryz.prog.globalNamed "ripple/state.steps" = some 0 := by kernel_rfl
theorem gStepsType : (Tryz.prog.globals[0]?).map (·.type) = some 253 := by kernel_rfl
theorem cellsStep : Tryz.prog.cellsOf 252 = 5 := by kernel_rfl
set_option maxRecDepth 100000 in
/-- One row of the table. -/
theorem open_step {W : World} {base : Nat} {sp : Nat → Bool} {held : Bool} {fuel : Nat} {cs : List Value} {p : List MemPlace} {a b c d : Int} {r : Bool}
    (h : DataW.trod (fun _ => ()) Tryz.prog W base sp held fuel 252 cs = some (.agg [.lit (.int .i64 a), .lit (.int .i64 b), .lit (.int .i64 c), .lit (.int .i64 d), .lit (.bool r)], p)) :
    cs = [.int .i64 a, .int .i64 b, .int .i64 c, .int .i64 d, .bool r] := by
  obtain ⟨xs, n, -, hx, hl, hxl, hf⟩ := DataW.trod_struct Tryz.underlying252 h
  rw [cellsStep] at hl
  have h0 := hf 0 _ rfl
  have h1 := hf 1 _ rfl
  have h2 := hf 2 _ rfl
  have h3 := hf 3 _ rfl
  have h4 := hf 4 _ rfl
  match cs, hl, xs, hxl with
  | [v0, v1, v2, v3, v4], _, [x0, x1, x2, x3, x4], _ =>
    have g0 : DataW.trod (fun _ => ()) Tryz.prog W base sp held n 3 [v0] = some x0 := by simpa [cellsI] using h0
    have g1 : DataW.trod (fun _ => ()) Tryz.prog W base sp held n 3 [v1] = some x1 := by simpa [cellsI] using h1
    have g2 : DataW.trod (fun _ => ()) Tryz.prog W base sp held n 3 [v2] = some x2 := by simpa [cellsI] using h2
    have g3 : DataW.trod (fun _ => ()) Tryz.prog W base sp held n 3 [v3] = some x3 := by simpa [cellsI] using h3
    have g4 : DataW.trod (fun _ => ()) Tryz.prog W base sp held n 4 [v4] = some x4 := by simpa [cellsB] using h4
    obtain ⟨n0, e0, rfl, -⟩ := DataW.trod_int Tryz.underlying3 g0
    obtain ⟨n1, e1, rfl, -⟩ := DataW.trod_int Tryz.underlying3 g1
    obtain ⟨n2, e2, rfl, -⟩ := DataW.trod_int Tryz.underlying3 g2
    obtain ⟨n3, e3, rfl, -⟩ := DataW.trod_int Tryz.underlying3 g3
    obtain ⟨n4, e4, rfl⟩ := DataW.trod_bool Tryz.underlying4 g4
    simp at hx e0 e1 e2 e3 e4
    obtain ⟨⟨rfl, rfl, rfl, rfl, rfl⟩, -⟩ := hx
    subst e0 e1 e2 e3 e4
    rfl
theorem take_five {cs : List Value} {o : Nat} {v0 v1 v2 v3 v4 : Value} (h : (cs.drop o).take 5 = [v0, v1, v2, v3, v4]) :
    cs[o]? = some v0 ∧ cs[o + 1]? = some v1 ∧ cs[o + 2]? = some v2 ∧ cs[o + 3]? = some v3 ∧ cs[o + 4]? = some v4 := by
  have at5 : ∀ j, j < 5 → cs[o + j]? = [v0, v1, v2, v3, v4][j]? := by
    intro j hj
    rw [← h, List.getElem?_take, if_pos hj, List.getElem?_drop]
  exact ⟨at5 0 (by decide), at5 1 (by decide), at5 2 (by decide), at5 3 (by decide), at5 4 (by decide)⟩
set_option maxRecDepth 100000 in
/-- THE TABLE OF STEPS, out of what the rows list. -/
theorem steps_of_laid {W : World} (h : laidMetH Tryz.prog [("ripple/state.steps", Rows.laid_ripple_state_steps), ("ripple/state.rules", Rows.laid_ripple_state_rules)] W) : StepsAt W := by
  have h' : laidMet Tryz.prog [("ripple/state.steps", Rows.laid_ripple_state_steps), ("ripple/state.rules", Rows.laid_ripple_state_rules)] W := h
  obtain ⟨ps, ⟨g, t, cs, fuel, p, q, hg, ht, hvar, hd, -, -⟩, -⟩ := h'
  obtain rfl := Option.some.inj (gSteps.symm.trans hg)
  obtain rfl := Option.some.inj (gStepsType.symm.trans ht)
  obtain ⟨xs, m, -, hx, hl, hxl, hf⟩ := DataW.trod_array Tryz.underlying253 hd
  rw [cellsStep] at hf
  have hcell : ∀ i, W.cell? ⟨0, i, none⟩ = cs.toList[i]? := fun i => by rw [World.var?_cell gSteps hvar i]; simp
  match xs, hxl with
  | [x0, x1, x2, x3, x4], _ =>
    obtain ⟨y0, p0⟩ := x0
    obtain ⟨y1, p1⟩ := x1
    obtain ⟨y2, p2⟩ := x2
    obtain ⟨y3, p3⟩ := x3
    obtain ⟨y4, p4⟩ := x4
    simp only [Rows.laid_ripple_state_steps, Prod.mk.injEq, List.map_cons, List.map_nil, DataW.agg.injEq, List.cons.injEq, and_true] at hx
    obtain ⟨⟨rfl, rfl, rfl, rfl, rfl⟩, -⟩ := hx
    have r0 := take_five (open_step (hf 0 (by decide)))
    have r1 := take_five (open_step (hf 1 (by decide)))
    have r2 := take_five (open_step (hf 2 (by decide)))
    have r3 := take_five (open_step (hf 3 (by decide)))
    have r4 := take_five (open_step (hf 4 (by decide)))
    simp only [← hcell] at r0 r1 r2 r3 r4
    refine ⟨?_, r0, r1, r2, r3, r4⟩
    have c0 := r0.1
    have : W.heap[0]? ≠ none := by
      intro hn
      unfold World.cell? at c0
      simp [hn] at c0
    have := mt Array.getElem?_eq_none this
    omega
end Go.Proofs.YtahdlejgjcjeoabGreatDoor

namespace Go.Proofs.YtahdlejgjcjeoabGreatDoor
open Go.RowKit Go.ChangeShapes Go.WideShapes
set_option maxRecDepth 100000 in
theorem open_edgeR {H : Type} {en : TypeId × Value → H} {w : World} {base : Nat} {sp : Nat → Bool} {held : Bool} {fuel : Nat} {cs : List Value} {x : DataW H × List MemPlace}
    (h : DataW.trod en Tryz.prog w base sp held fuel 55 cs = some x) : ∃ p : Int × Int, cs = [.int .i64 p.1, .int .i64 p.2] ∧ x = (edgeD p, []) ∧ i64r p.1 ∧ i64r p.2 := by
  obtain ⟨xs, n, -, rfl, hl, hxl, hf⟩ := DataW.trod_struct Tryz.underlying55 h
  rw [cellsE] at hl
  have h0 := hf 0 _ rfl
  have h1 := hf 1 _ rfl
  match cs, hl, xs, hxl with
  | [v0, v1], _, [x0, x1], _ =>
    have g0 : DataW.trod en Tryz.prog w base sp held n 3 [v0] = some x0 := by simpa [cellsI] using h0
    have g1 : DataW.trod en Tryz.prog w base sp held n 3 [v1] = some x1 := by simpa [cellsI] using h1
    obtain ⟨n0, e0, rfl, r0⟩ := DataW.trod_int Tryz.underlying3 g0
    obtain ⟨n1, e1, rfl, r1⟩ := DataW.trod_int Tryz.underlying3 g1
    simp only [List.cons.injEq, and_true] at e0 e1
    subst e0 e1
    exact ⟨(n0, n1), rfl, rfl, wf_range r0, wf_range r1⟩
set_option maxRecDepth 100000 in
/-- A list of edges. -/
theorem open_edgesR {H : Type} {en : TypeId × Value → H} {w : World} {fuel : Nat} {v : Value} {x : DataW H × List MemPlace}
    (hf : DataW.trod en Tryz.prog w 0 (fun _ => true) true fuel 22 [v] = some x) (hk : Rows.uptoBulk x.1 ≤ 1048576) :
    ∃ es, EdgesOf w v es ∧ es.length ≤ 1048576 ∧ ∀ e ∈ es, i64r e.1 ∧ i64r e.2 := by
  rcases DataW.trod_slice Tryz.underlying22 hf with ⟨hc, -⟩ | ⟨a, len, cap, elems, rest, n, -, hc, hx, -, hl, -, hlen, hel, -, -⟩
  · simp at hc
    subst hc
    exact ⟨[], ⟨none, 0, rfl, Nat.le_refl _, fun h => by simp at h⟩, by simp, fun e he => by cases he⟩
  · simp at hc
    subst hc
    subst hx
    have each : ∀ i, i < len → ∃ p : Int × Int, w.cells? 0 (a.add (i * 2)) 2 = some [.int .i64 p.1, .int .i64 p.2] ∧ elems[i]? = some (edgeD p, []) ∧ i64r p.1 ∧ i64r p.2 := by
      intro i hi
      have h1 := hel i hi
      rw [cellsE] at h1
      rw [List.getElem?_eq_getElem (by omega), Option.bind_eq_some_iff] at h1
      obtain ⟨cs, hcs, ht⟩ := h1
      obtain ⟨p, rfl, hx, hrg⟩ := open_edgeR ht
      exact ⟨p, hcs, by rw [List.getElem?_eq_getElem (by omega), hx], hrg⟩
    obtain ⟨l, hll, hq⟩ := list_of_each len each
    have hall : ∀ y ∈ elems.map (·.1), ∃ p, y = edgeD p := by
      intro y hy
      obtain ⟨i, hi⟩ := List.getElem?_of_mem hy
      have hi' : i < l.length := by
        have := (List.getElem?_eq_some_iff.1 hi).1
        simp at this
        omega
      have := (hq i hi').2.1
      rw [List.getElem?_map, this] at hi
      simp at hi
      exact ⟨l[i], hi.symm⟩
    have hlen2 : l.length ≤ 1048576 := by
      have := bulk_edges (elems.map (·.1)) hall
      rw [List.length_map] at this
      simp only [Rows.uptoBulk] at hk
      omega
    refine ⟨l, ⟨some a, cap, by rw [hll], by omega, fun hp => ?_⟩, hlen2, fun e he => ?_⟩
    rotate_left
    · obtain ⟨i, hi, rfl⟩ := List.getElem_of_mem he
      exact (hq i hi).2.2
    have cell : ∀ (k : Nat) (h : k < l.length) (j : Nat), j < 2 → w.cell? ((a.add (k * 2)).add j) = ([.int .i64 l[k].1, .int .i64 l[k].2] : List Value)[j]? := fun k h j hj => (World.cells?_some (hq k h).1).2.2 j hj
    obtain ⟨b, off, spot⟩ := a
    have c0 : w.cell? ⟨b, off, spot⟩ = some (.int .i64 (l[0]'hp).1) := cell 0 hp 0 (by decide)
    have hspot : spot = none := by
      cases spot with
      | none => rfl
      | some q =>
        unfold World.cell? at c0
        split at c0 <;> simp at c0
    subst hspot
    refine ⟨b, off, rfl, ?_, ?_⟩
    · have : w.heap[b]? ≠ none := by
        intro hn
        unfold World.cell? at c0
        rw [hn] at c0
        simp at c0
      have := mt Array.getElem?_eq_none this
      omega
    · intro k h
      have hadd : ∀ j, ((⟨b, off, none⟩ : Addr).add (k * 2)).add j = ⟨b, off + k * 2 + j, none⟩ := by
        intro j
        unfold Addr.add
        repeat' split
        all_goals simp_all
      refine ⟨?_, ?_⟩
      · have := cell k h 0 (by decide); rw [hadd] at this; exact this
      · have := cell k h 1 (by decide); rw [hadd] at this; exact this

set_option maxRecDepth 100000 in
/-- SETTINGS THAT ARE HANDED IN. -/
theorem open_cfgR {H : Type} {en : TypeId × Value → H} {w : World} {r : Reach} {b0 : Nat} {v : Value} {d : DataW H} {ps : List MemPlace}
    (hval : Value.okWide Tryz.prog w r b0 24 v) (hd : DataW.Trod en Tryz.prog w 0 (fun _ => true) true 24 v d ps) (hk : Rows.uptoBulk d ≤ 1048576) :
    ∃ (reps room : Int) (bp rr : Bool) (vE : Value) (es : List (Int × Int)), v = .agg #[.int .i64 reps, vE, .bool bp, .bool rr, .int .i64 room] ∧ EdgesOf w vE es ∧ es.length ≤ 1048576 ∧ i64r reps ∧ i64r room ∧ ∀ e ∈ es, i64r e.1 ∧ i64r e.2 := by
  have hag : ∃ cs, v = .agg cs := by
    unfold Value.okWide at hval
    rw [Tryz.underlying24] at hval
    obtain ⟨cs, rfl, _⟩ := hval
    exact ⟨cs, rfl⟩
  obtain ⟨ca, rfl⟩ := hag
  obtain ⟨fuel, hf⟩ := hd
  obtain ⟨xs, n, -, hx, hl, hxl, hfs⟩ := DataW.trod_struct Tryz.underlying24 hf
  rw [cellsC] at hl
  have h0 := hfs 0 _ rfl
  have h1 := hfs 1 _ rfl
  have h2 := hfs 2 _ rfl
  have h3 := hfs 3 _ rfl
  have h4 := hfs 4 _ rfl
  obtain ⟨cs⟩ := ca
  simp only [Value.cells] at hl h0 h1 h2 h3 h4
  match cs, hl, xs, hxl with
  | [v0, v1, v2, v3, v4], _, [x0, x1, x2, x3, x4], _ =>
    have g0 : DataW.trod en Tryz.prog w 0 (fun _ => true) true n 3 [v0] = some x0 := by simpa [cellsI] using h0
    have g1 : DataW.trod en Tryz.prog w 0 (fun _ => true) true n 22 [v1] = some x1 := by simpa [cellsSE] using h1
    have g2 : DataW.trod en Tryz.prog w 0 (fun _ => true) true n 4 [v2] = some x2 := by simpa [cellsB] using h2
    have g3 : DataW.trod en Tryz.prog w 0 (fun _ => true) true n 4 [v3] = some x3 := by simpa [cellsB] using h3
    have g4 : DataW.trod en Tryz.prog w 0 (fun _ => true) true n 3 [v4] = some x4 := by simpa [cellsI] using h4
    have hb1 : Rows.uptoBulk x1.1 ≤ 1048576 := by
      have hd : d = .agg ([x0, x1, x2, x3, x4].map (·.1)) := by
        have := congrArg Prod.fst hx
        exact this
      rw [hd] at hk
      simp only [Rows.uptoBulk, Rows.uptoBulkAll, List.map_cons, List.map_nil] at hk
      omega
    obtain ⟨n0, e0, -, r0⟩ := DataW.trod_int Tryz.underlying3 g0
    obtain ⟨n2, e2, -⟩ := DataW.trod_bool Tryz.underlying4 g2
    obtain ⟨n3, e3, -⟩ := DataW.trod_bool Tryz.underlying4 g3
    obtain ⟨n4, e4, -, r4⟩ := DataW.trod_int Tryz.underlying3 g4
    obtain ⟨es, he, hel, her⟩ := open_edgesR g1 hb1
    simp only [List.cons.injEq, and_true] at e0 e2 e3 e4
    subst e0 e2 e3 e4
    exact ⟨n0, n4, n2, n3, v1, es, rfl, he, hel, wf_range r0, wf_range r4, her⟩

end Go.Proofs.YtahdlejgjcjeoabGreatDoor

namespace Go.Proofs.YtahdlejgjcjeoabGreatDoor
open Go.RowKit

theorem calls_of_args {P : Program} {f : FuncId} {args args' : Array Value} {w : World} {Q Q' : Ending → World → Prop} (e : args' = args) (h : Calls P f args w Q) (hm : ∀ e w', Q e w' → Q' e w') : Calls P f args' w Q' := by
  rw [e]
  exact h.mono hm
end Go.Proofs.YtahdlejgjcjeoabGreatDoor

namespace Go.Proofs.YtahdlejgjcjeoabGreatDoor
open Go.RowKit

theorem tmod_range {a n : Int} (h0 : 0 ≤ a) (hn : 0 < n) : 0 ≤ a.tmod n ∧ a.tmod n < n :=
  ⟨Int.tmod_nonneg n h0, Int.tmod_lt_of_pos a hn⟩

set_option maxRecDepth 100000 in
theorem pick_any (c n : Int) (w : World) (h0 : -9223372036854775808 ≤ c) (h1 : c ≤ 9223372036854775807) (hn : 0 < n) (hn1 : n ≤ 2147483647) :
    Calls Tryz.prog 43 #[.int .i64 c, .int .i64 n] w fun e w' => ∃ r, e = .returned (.int .i64 r) ∧ (0 ≤ r ∧ r < n) ∧ w' = w := by
  by_cases hc : c < 0
  · have ha : 0 ≤ -(c + 1) := by omega
    have hm := tmod_range ha hn
    rw [Int.neg_tmod] at hm
    go_enter Tryz.func43, Tryz.ntmps43
    go_wp2
    go_ret
    exact ⟨_, rfl, hm, rfl⟩
  · have hm : 0 ≤ c % n ∧ c % n < n := ⟨Int.emod_nonneg c (by omega), Int.emod_lt_of_pos c hn⟩
    go_enter Tryz.func43, Tryz.ntmps43
    go_wp2
    go_ret
    exact ⟨_, rfl, hm, rfl⟩
end Go.Proofs.YtahdlejgjcjeoabGreatDoor

namespace Go.Proofs.YtahdlejgjcjeoabGreatDoor
open Go.RowKit

theorem wrap1k {t : Int} (h : 0 ≤ t ∧ t < 1000) : IntKind.i64.wrap (1 + t) = 1 + t := by
  have := h.1
  have := h.2
  rw [IntKind.wrap_i64]
  omega
theorem fine_short {o : OpV} (h : fineOp o = true) : o.short := by
  simp only [fineOp, decide_eq_true_eq] at h
  unfold OpV.short
  omega
theorem five_first {w : World} {x0 x1 x2 x3 x4 : Value} {e : TypeId} :
    Below w.heap.size w (w.alloc (.cells #[x0, x1, x2, x3, x4] e)) ∧ w.heap.size < (w.alloc (.cells #[x0, x1, x2, x3, x4] e)).heap.size ∧ (w.alloc (.cells #[x0, x1, x2, x3, x4] e)).cell? ⟨w.heap.size, 0, none⟩ = some x0 ∧ (w.alloc (.cells #[x0, x1, x2, x3, x4] e)).cell? ⟨w.heap.size, 1, none⟩ = some x1 ∧ (w.alloc (.cells #[x0, x1, x2, x3, x4] e)).cell? ⟨w.heap.size, 2, none⟩ = some x2 ∧ (w.alloc (.cells #[x0, x1, x2, x3, x4] e)).cell? ⟨w.heap.size, 3, none⟩ = some x3 ∧ (w.alloc (.cells #[x0, x1, x2, x3, x4] e)).cell? ⟨w.heap.size, 4, none⟩ = some x4 :=
  ⟨below_alloc (Below.refl _ _) _, by simp, by simp, by simp, by simp, by simp, by simp⟩

end Go.Proofs.YtahdlejgjcjeoabGreatDoor
