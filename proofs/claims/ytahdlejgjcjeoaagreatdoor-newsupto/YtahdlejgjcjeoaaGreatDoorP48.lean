/- The arguments opened: the settings of a cluster; the tables that the program lays. -/
import Derived.Test.YtahdlejgjcjeoaaGreatDoorRows
import Derived.Test.YtahdlejgjcjeoaaGreatDoorP14
import Derived.OpenShut
import Derived.RowKit
import Derived.LaidLaws
import Derived.Test.YtahdlejgjcjeoaaGreatDoorP20
namespace Go.Proofs.YtahdlejgjcjeoaaGreatDoor
open Go.RowKit Go.ChangeShapes Go.WideShapes

/-- A struct of six cells. -/
theorem open_six {H : Type} {en : TypeId × Value → H} {P : Program} {w : World} {base : Nat} {sp : Nat → Bool} {held : Bool} {fuel : Nat} {t : TypeId} {cs : List Value} {x : DataW H × List MemPlace} {f0 f1 f2 f3 f4 f5 : Field}
    (ht : P.underlying t = some (.struct #[f0, f1, f2, f3, f4, f5])) (hC : P.cellsOf t = 6)
    (o0 : f0.offset = 0) (o1 : f1.offset = 1) (o2 : f2.offset = 2) (o3 : f3.offset = 3) (o4 : f4.offset = 4) (o5 : f5.offset = 5)
    (c0 : P.cellsOf f0.type = 1) (c1 : P.cellsOf f1.type = 1) (c2 : P.cellsOf f2.type = 1) (c3 : P.cellsOf f3.type = 1) (c4 : P.cellsOf f4.type = 1) (c5 : P.cellsOf f5.type = 1)
    (h : DataW.trod en P w base sp held fuel t cs = some x) :
    ∃ v0 v1 v2 v3 v4 v5 x0 x1 x2 x3 x4 x5 n, cs = [v0, v1, v2, v3, v4, v5] ∧ x = (.agg [x0.1, x1.1, x2.1, x3.1, x4.1, x5.1], x0.2 ++ (x1.2 ++ (x2.2 ++ (x3.2 ++ (x4.2 ++ x5.2))))) ∧
      DataW.trod en P w base sp held n f0.type [v0] = some x0 ∧ DataW.trod en P w base sp held n f1.type [v1] = some x1 ∧ DataW.trod en P w base sp held n f2.type [v2] = some x2 ∧
      DataW.trod en P w base sp held n f3.type [v3] = some x3 ∧ DataW.trod en P w base sp held n f4.type [v4] = some x4 ∧ DataW.trod en P w base sp held n f5.type [v5] = some x5 := by
  obtain ⟨xs, n, -, rfl, hl, hxl, hf⟩ := DataW.trod_struct ht h
  rw [hC] at hl
  have h0 := hf 0 f0 rfl
  have h1 := hf 1 f1 rfl
  have h2 := hf 2 f2 rfl
  have h3 := hf 3 f3 rfl
  have h4 := hf 4 f4 rfl
  have h5 := hf 5 f5 rfl
  match cs, hl, xs, hxl with
  | [v0, v1, v2, v3, v4, v5], _, [x0, x1, x2, x3, x4, x5], _ =>
    rw [o0, c0] at h0
    rw [o1, c1] at h1
    rw [o2, c2] at h2
    rw [o3, c3] at h3
    rw [o4, c4] at h4
    rw [o5, c5] at h5
    exact ⟨v0, v1, v2, v3, v4, v5, x0, x1, x2, x3, x4, x5, n, rfl, by simp, h0, h1, h2, h3, h4, h5⟩

theorem cellsI : Tryz.prog.cellsOf 3 = 1 := by kernel_rfl
theorem cellsS : Tryz.prog.cellsOf 9 = 1 := by kernel_rfl
theorem cellsB : Tryz.prog.cellsOf 4 = 1 := by kernel_rfl
theorem cellsA : Tryz.prog.cellsOf 77 = 6 := by kernel_rfl
theorem cellsR : Tryz.prog.cellsOf 249 = 6 := by kernel_rfl

/-- An atom as it is read. -/
def atomD {H : Type} (a : At) : DataW H := .agg [.lit (.int .i64 a.ty), .lit (.string a.key.data.toList), .lit (.int .i64 a.side), .lit (.int .i64 a.who), .lit (.string a.elem.data.toList), .lit (.int .i64 a.n)]

theorem wf_range {n : Int} (h : (Lit.int .i64 n).wf = true) : -9223372036854775808 ≤ n ∧ n ≤ 9223372036854775807 := by
  simp only [Lit.wf, Bool.and_eq_true, decide_eq_true_eq] at h
  have e1 : IntKind.i64.min = -9223372036854775808 := by rfl
  have e2 : IntKind.i64.max = 9223372036854775807 := by rfl
  rw [e1, e2] at h
  exact h

theorem open_atom {H : Type} {en : TypeId × Value → H} {w : World} {base : Nat} {sp : Nat → Bool} {held : Bool} {fuel : Nat} {cs : List Value} {x : DataW H × List MemPlace}
    (h : DataW.trod en Tryz.prog w base sp held fuel 77 cs = some x) : ∃ a : At, cs = enc a ∧ x = (atomD a, []) ∧ wide a := by
  obtain ⟨v0, v1, v2, v3, v4, v5, x0, x1, x2, x3, x4, x5, n, rfl, rfl, h0, h1, h2, h3, h4, h5⟩ := open_six Tryz.underlying77 cellsA rfl rfl rfl rfl rfl rfl cellsI cellsS cellsI cellsI cellsS cellsI h
  obtain ⟨n0, e0, rfl, r0⟩ := DataW.trod_int Tryz.underlying3 h0
  obtain ⟨n1, e1, rfl, -⟩ := DataW.trod_string Tryz.underlying9 h1
  obtain ⟨n2, e2, rfl, r2⟩ := DataW.trod_int Tryz.underlying3 h2
  obtain ⟨n3, e3, rfl, r3⟩ := DataW.trod_int Tryz.underlying3 h3
  obtain ⟨n4, e4, rfl, -⟩ := DataW.trod_string Tryz.underlying9 h4
  obtain ⟨n5, e5, rfl, r5⟩ := DataW.trod_int Tryz.underlying3 h5
  simp only [List.cons.injEq, and_true] at e0 e1 e2 e3 e4 e5
  subst e0 e1 e2 e3 e4 e5
  exact ⟨⟨n0, n1, n2, n3, n4, n5⟩, rfl, rfl, wf_range r0, wf_range r2, wf_range r3, wf_range r5⟩

/-- What each place has, a list has. -/
theorem list_of_each {α : Type} {Q : Nat → α → Prop} : ∀ n, (∀ i, i < n → ∃ a, Q i a) → ∃ l : List α, l.length = n ∧ ∀ i (h : i < l.length), Q i l[i]
  | 0, _ => ⟨[], rfl, fun i h => by simp at h⟩
  | n + 1, h => by
    obtain ⟨l, hl, hq⟩ := list_of_each n (fun i hi => h i (by omega))
    obtain ⟨a, ha⟩ := h n (by omega)
    refine ⟨l ++ [a], by simp [hl], fun i hi => ?_⟩
    by_cases hin : i < l.length
    · rw [List.getElem_append_left hin]
      exact hq i hin
    · have : i = l.length := by simp at hi; omega
      subst this
      simp only [List.getElem_append_right (Nat.le_refl _), Nat.sub_self, List.getElem_cons_zero]
      rw [hl]
      exact ha

theorem bulk_part {H : Type} {d : DataW H} : ∀ {l : List (DataW H)}, d ∈ l → Rows.uptoBulk d ≤ Rows.uptoBulkAll l
  | x :: r, h => by
    simp only [Rows.uptoBulkAll]
    rcases List.mem_cons.1 h with e | e
    · subst e; omega
    · have := bulk_part e; omega

theorem bulk_atom {H : Type} (a : At) : a.key.size + a.elem.size ≤ Rows.uptoBulk (atomD (H := H) a) := by
  simp [atomD, Rows.uptoBulk, Rows.uptoBulkAll]
  omega

theorem bulk_atoms {H : Type} : ∀ l : List (DataW H), (∀ d ∈ l, ∃ a, d = atomD a) → l.length ≤ Rows.uptoBulkAll l
  | [], _ => Nat.zero_le _
  | x :: r, h => by
    obtain ⟨a, rfl⟩ := h x (by simp)
    have := bulk_atoms r (fun d hd => h d (by simp [hd]))
    simp only [Rows.uptoBulkAll, List.length_cons]
    have : 1 ≤ Rows.uptoBulk (atomD (H := H) a) := by simp [atomD, Rows.uptoBulk]
    omega

set_option maxRecDepth 100000 in
/-- A LIST OF ATOMS THAT IS HANDED IN. -/
theorem open_atomsR {H : Type} {en : TypeId × Value → H} {w : World} {r : Reach} {b0 : Nat} {v : Value} {d : DataW H} {ps : List MemPlace}
    (hval : Value.okWide Tryz.prog w r b0 56 v) (hd : DataW.Trod en Tryz.prog w 0 (fun _ => true) true 56 v d ps) (hk : Rows.uptoBulk d ≤ 1048576) :
    ∃ l, SliceOf w v l ∧ (∀ a ∈ l, short a) ∧ l.length ≤ 1048576 ∧ (∀ a ∈ l, wide a) := by
  obtain ⟨ad, len, cap, rfl⟩ := okWide_slice Tryz.underlying56 hval
  obtain ⟨fuel, hf⟩ := hd
  rcases DataW.trod_slice Tryz.underlying56 hf with ⟨hc, -⟩ | ⟨a, len', cap', elems, rest, n, -, hc, hx, -, hl, -, hlen, hel, -, -⟩
  · simp [Value.cells] at hc
    obtain ⟨rfl, rfl, rfl⟩ := hc
    exact ⟨[], sliceOf_nil w, by simp, Nat.zero_le _, by simp⟩
  · simp [Value.cells] at hc
    obtain ⟨rfl, rfl, rfl⟩ := hc
    simp only [Prod.mk.injEq] at hx
    obtain ⟨rfl, -⟩ := hx
    have each : ∀ i, i < len → ∃ x : At, w.cells? 0 (a.add (i * 6)) 6 = some (enc x) ∧ elems[i]? = some (atomD x, []) ∧ wide x := by
      intro i hi
      have h1 := hel i hi
      rw [cellsA] at h1
      rw [List.getElem?_eq_getElem (by omega), Option.bind_eq_some_iff] at h1
      obtain ⟨cs, hcs, ht⟩ := h1
      obtain ⟨x, rfl, hx, hwx⟩ := open_atom ht
      exact ⟨x, hcs, by rw [List.getElem?_eq_getElem (by omega), hx], hwx⟩
    obtain ⟨l, hll, hq⟩ := list_of_each len each
    have hall : ∀ y ∈ elems.map (·.1), ∃ x ∈ l, y = atomD x := by
      intro y hy
      obtain ⟨i, hi⟩ := List.getElem?_of_mem hy
      have hi' : i < l.length := by
        have := (List.getElem?_eq_some_iff.1 hi).1
        simp at this
        omega
      have := (hq i hi').2.1
      rw [List.getElem?_map, this] at hi
      simp at hi
      exact ⟨l[i], List.getElem_mem hi', hi.symm⟩
    have hin : ∀ x ∈ l, atomD x ∈ elems.map (·.1) := by
      intro x hx
      obtain ⟨i, hi, rfl⟩ := List.getElem_of_mem hx
      have := (hq i hi).2.1
      exact List.mem_map.2 ⟨_, List.mem_of_getElem? this, rfl⟩
    have hb : Rows.uptoBulkAll (elems.map (·.1)) ≤ 1048576 := by
      simp only [Rows.uptoBulk] at hk
      omega
    have hlen2 : l.length ≤ 1048576 := by
      have := bulk_atoms (elems.map (·.1)) (fun y hy => by obtain ⟨x, _, e⟩ := hall y hy; exact ⟨x, e⟩)
      rw [List.length_map] at this
      omega
    refine ⟨l, ⟨some a, cap, by rw [hll], by omega, fun hp => ?_⟩, fun x hx => ?_, hlen2, fun x hx => ?_⟩
    · have cell : ∀ (k : Nat) (h : k < l.length) (j : Nat), j < 6 → w.cell? ((a.add (k * 6)).add j) = (enc l[k])[j]? := fun k h j hj => (World.cells?_some (hq k h).1).2.2 j hj
      obtain ⟨b, off, spot⟩ := a
      have c0 : w.cell? ⟨b, off, spot⟩ = (enc l[0])[0]? := cell 0 hp 0 (by decide)
      have hspot : spot = none := by
        cases spot with
        | none => rfl
        | some q =>
          unfold World.cell? at c0
          split at c0 <;> simp [enc] at c0
      subst hspot
      refine ⟨b, off, rfl, ?_, ?_⟩
      · have : w.heap[b]? ≠ none := by
          intro hn
          unfold World.cell? at c0
          rw [hn] at c0
          simp [enc] at c0
        have := mt Array.getElem?_eq_none this
        omega
      · intro k h
        have hadd : ∀ j, ((⟨b, off, none⟩ : Addr).add (k * 6)).add j = ⟨b, off + k * 6 + j, none⟩ := by
          intro j
          unfold Addr.add
          repeat' split
          all_goals simp_all
        refine ⟨?_, ?_, ?_, ?_, ?_, ?_⟩
        · have := cell k h 0 (by decide); rw [hadd] at this; exact this
        · have := cell k h 1 (by decide); rw [hadd] at this; exact this
        · have := cell k h 2 (by decide); rw [hadd] at this; exact this
        · have := cell k h 3 (by decide); rw [hadd] at this; exact this
        · have := cell k h 4 (by decide); rw [hadd] at this; exact this
        · have := cell k h 5 (by decide); rw [hadd] at this; exact this
    · have h1 := bulk_part (hin x hx)
      have h2 := bulk_atom (H := H) x
      exact ⟨by omega, by omega⟩
    · obtain ⟨i, hi, rfl⟩ := List.getElem_of_mem hx
      exact (hq i hi).2.2

set_option maxRecDepth 100000 in
theorem open_atoms {H : Type} {en : TypeId × Value → H} {w : World} {r : Reach} {b0 : Nat} {v : Value} {d : DataW H} {ps : List MemPlace}
    (hval : Value.okWide Tryz.prog w r b0 56 v) (hd : DataW.Trod en Tryz.prog w 0 (fun _ => true) true 56 v d ps) (hk : Rows.uptoBulk d ≤ 1048576) :
    ∃ l, SliceOf w v l ∧ (∀ a ∈ l, short a) ∧ l.length ≤ 1048576 := by
  obtain ⟨l, h1, h2, h3, -⟩ := open_atomsR hval hd hk
  exact ⟨l, h1, h2, h3⟩

theorem gRules : Tryz.prog.globalNamed "ripple/state.rules" = some 0 := by kernel_rfl
theorem gRulesType : (Tryz.prog.globals[0]?).map (·.type) = some 250 := by kernel_rfl

/-- One row of the table. -/
theorem open_rule {W : World} {base : Nat} {sp : Nat → Bool} {held : Bool} {fuel : Nat} {cs : List Value} {p : List MemPlace} {a b c d e : Int} {r : Bool}
    (h : DataW.trod (fun _ => ()) Tryz.prog W base sp held fuel 249 cs = some (.agg [.lit (.int .i64 a), .lit (.int .i64 b), .lit (.int .i64 c), .lit (.int .i64 d), .lit (.int .i64 e), .lit (.bool r)], p)) :
    cs = [.int .i64 a, .int .i64 b, .int .i64 c, .int .i64 d, .int .i64 e, .bool r] := by
  obtain ⟨v0, v1, v2, v3, v4, v5, x0, x1, x2, x3, x4, x5, n, rfl, hx, h0, h1, h2, h3, h4, h5⟩ := open_six Tryz.underlying249 cellsR rfl rfl rfl rfl rfl rfl cellsI cellsI cellsI cellsI cellsI cellsB h
  obtain ⟨n0, e0, rfl, -⟩ := DataW.trod_int Tryz.underlying3 h0
  obtain ⟨n1, e1, rfl, -⟩ := DataW.trod_int Tryz.underlying3 h1
  obtain ⟨n2, e2, rfl, -⟩ := DataW.trod_int Tryz.underlying3 h2
  obtain ⟨n3, e3, rfl, -⟩ := DataW.trod_int Tryz.underlying3 h3
  obtain ⟨n4, e4, rfl, -⟩ := DataW.trod_int Tryz.underlying3 h4
  obtain ⟨n5, e5, rfl⟩ := DataW.trod_bool Tryz.underlying4 h5
  simp at hx e0 e1 e2 e3 e4 e5
  obtain ⟨⟨rfl, rfl, rfl, rfl, rfl, rfl⟩, -⟩ := hx
  subst e0 e1 e2 e3 e4 e5
  rfl

theorem take_eq {cs : List Value} {o : Nat} {v0 v1 v2 v3 v4 v5 : Value} (h : (cs.drop o).take 6 = [v0, v1, v2, v3, v4, v5]) :
    cs[o]? = some v0 ∧ cs[o + 1]? = some v1 ∧ cs[o + 2]? = some v2 ∧ cs[o + 3]? = some v3 ∧ cs[o + 4]? = some v4 ∧ cs[o + 5]? = some v5 := by
  have at6 : ∀ j, j < 6 → cs[o + j]? = [v0, v1, v2, v3, v4, v5][j]? := by
    intro j hj
    rw [← h, List.getElem?_take, if_pos hj, List.getElem?_drop]
  exact ⟨at6 0 (by decide), at6 1 (by decide), at6 2 (by decide), at6 3 (by decide), at6 4 (by decide), at6 5 (by decide)⟩

/-- THE TABLE, out of what the row lists. -/
theorem rules_of_laid {W : World} (h : laidMetH Tryz.prog [("ripple/state.rules", Rows.laid_ripple_state_rules)] W) : RulesAt W := by
  have h' : laidMet Tryz.prog [("ripple/state.rules", Rows.laid_ripple_state_rules)] W := h
  obtain ⟨ps, ⟨g, t, cs, fuel, p, q, hg, ht, hvar, hd, -, -⟩, -⟩ := h'
  obtain rfl := Option.some.inj (gRules.symm.trans hg)
  obtain rfl := Option.some.inj (gRulesType.symm.trans ht)
  obtain ⟨xs, m, -, hx, hl, hxl, hf⟩ := DataW.trod_array Tryz.underlying250 hd
  rw [cellsR] at hf
  have hcell : ∀ i, W.cell? ⟨0, i, none⟩ = cs.toList[i]? := fun i => by rw [World.var?_cell gRules hvar i]; simp
  match xs, hxl with
  | [x0, x1, x2, x3, x4], _ =>
    obtain ⟨y0, p0⟩ := x0
    obtain ⟨y1, p1⟩ := x1
    obtain ⟨y2, p2⟩ := x2
    obtain ⟨y3, p3⟩ := x3
    obtain ⟨y4, p4⟩ := x4
    simp only [Rows.laid_ripple_state_rules, Prod.mk.injEq, List.map_cons, List.map_nil, DataW.agg.injEq, List.cons.injEq, and_true] at hx
    obtain ⟨⟨rfl, rfl, rfl, rfl, rfl⟩, -⟩ := hx
    have r0 := take_eq (open_rule (hf 0 (by decide)))
    have r1 := take_eq (open_rule (hf 1 (by decide)))
    have r2 := take_eq (open_rule (hf 2 (by decide)))
    have r3 := take_eq (open_rule (hf 3 (by decide)))
    have r4 := take_eq (open_rule (hf 4 (by decide)))
    simp only [← hcell] at r0 r1 r2 r3 r4
    refine ⟨?_, r0, r1, r2, r3, r4⟩
    have c0 := r0.1
    have : W.heap[0]? ≠ none := by
      intro hn
      unfold World.cell? at c0
      simp [hn] at c0
    have := mt Array.getElem?_eq_none this
    omega

end Go.Proofs.YtahdlejgjcjeoaaGreatDoor

namespace Go.Proofs.YtahdlejgjcjeoaaGreatDoor
open Go.RowKit Go.ChangeShapes Go.WideShapes

theorem cellsE : Tryz.prog.cellsOf 53 = 2 := by kernel_rfl
theorem cellsSE : Tryz.prog.cellsOf 22 = 1 := by kernel_rfl
theorem cellsC : Tryz.prog.cellsOf 24 = 5 := by kernel_rfl
def edgeD {H : Type} (p : Int × Int) : DataW H := .agg [.lit (.int .i64 p.1), .lit (.int .i64 p.2)]
set_option maxRecDepth 100000 in
theorem open_edge {H : Type} {en : TypeId × Value → H} {w : World} {base : Nat} {sp : Nat → Bool} {held : Bool} {fuel : Nat} {cs : List Value} {x : DataW H × List MemPlace}
    (h : DataW.trod en Tryz.prog w base sp held fuel 53 cs = some x) : ∃ p : Int × Int, cs = [.int .i64 p.1, .int .i64 p.2] ∧ x = (edgeD p, []) := by
  obtain ⟨xs, n, -, rfl, hl, hxl, hf⟩ := DataW.trod_struct Tryz.underlying53 h
  rw [cellsE] at hl
  have h0 := hf 0 _ rfl
  have h1 := hf 1 _ rfl
  match cs, hl, xs, hxl with
  | [v0, v1], _, [x0, x1], _ =>
    have g0 : DataW.trod en Tryz.prog w base sp held n 3 [v0] = some x0 := by simpa [cellsI] using h0
    have g1 : DataW.trod en Tryz.prog w base sp held n 3 [v1] = some x1 := by simpa [cellsI] using h1
    obtain ⟨n0, e0, rfl, -⟩ := DataW.trod_int Tryz.underlying3 g0
    obtain ⟨n1, e1, rfl, -⟩ := DataW.trod_int Tryz.underlying3 g1
    simp only [List.cons.injEq, and_true] at e0 e1
    subst e0 e1
    exact ⟨(n0, n1), rfl, rfl⟩
theorem bulk_edges {H : Type} : ∀ l : List (DataW H), (∀ d ∈ l, ∃ p, d = edgeD p) → l.length ≤ Rows.uptoBulkAll l
  | [], _ => Nat.zero_le _
  | x :: r, h => by
    obtain ⟨a, rfl⟩ := h x (by simp)
    have := bulk_edges r (fun d hd => h d (by simp [hd]))
    simp only [Rows.uptoBulkAll, List.length_cons]
    have : 1 ≤ Rows.uptoBulk (edgeD (H := H) a) := by simp [edgeD, Rows.uptoBulk]
    omega

set_option maxRecDepth 100000 in
/-- A list of edges. -/
theorem open_edges {H : Type} {en : TypeId × Value → H} {w : World} {fuel : Nat} {v : Value} {x : DataW H × List MemPlace}
    (hf : DataW.trod en Tryz.prog w 0 (fun _ => true) true fuel 22 [v] = some x) (hk : Rows.uptoBulk x.1 ≤ 1048576) :
    ∃ es, EdgesOf w v es ∧ es.length ≤ 1048576 := by
  rcases DataW.trod_slice Tryz.underlying22 hf with ⟨hc, -⟩ | ⟨a, len, cap, elems, rest, n, -, hc, hx, -, hl, -, hlen, hel, -, -⟩
  · simp at hc
    subst hc
    exact ⟨[], ⟨none, 0, rfl, Nat.le_refl _, fun h => by simp at h⟩, by simp⟩
  · simp at hc
    subst hc
    subst hx
    have each : ∀ i, i < len → ∃ p : Int × Int, w.cells? 0 (a.add (i * 2)) 2 = some [.int .i64 p.1, .int .i64 p.2] ∧ elems[i]? = some (edgeD p, []) := by
      intro i hi
      have h1 := hel i hi
      rw [cellsE] at h1
      rw [List.getElem?_eq_getElem (by omega), Option.bind_eq_some_iff] at h1
      obtain ⟨cs, hcs, ht⟩ := h1
      obtain ⟨p, rfl, hx⟩ := open_edge ht
      exact ⟨p, hcs, by rw [List.getElem?_eq_getElem (by omega), hx]⟩
    obtain ⟨l, hll, hq⟩ := list_of_each len each
    have hall : ∀ y ∈ elems.map (·.1), ∃ p, y = edgeD p := by
      intro y hy
      obtain ⟨i, hi⟩ := List.getElem?_of_mem hy
      have hi' : i < l.length := by
        have := (List.getElem?_eq_some_iff.1 hi).1
        simp at this
        omega
      have := (hq i hi').2
      rw [List.getElem?_map, this] at hi
      simp at hi
      exact ⟨l[i], hi.symm⟩
    have hlen2 : l.length ≤ 1048576 := by
      have := bulk_edges (elems.map (·.1)) hall
      rw [List.length_map] at this
      simp only [Rows.uptoBulk] at hk
      omega
    refine ⟨l, ⟨some a, cap, by rw [hll], by omega, fun hp => ?_⟩, hlen2⟩
    have cell : ∀ (k : Nat) (h : k < l.length) (j : Nat), j < 2 → w.cell? ((a.add (k * 2)).add j) = ([.int .i64 l[k].1, .int .i64 l[k].2] : List Value)[j]? := fun k h j hj => (World.cells?_some (hq k h).1).2.2 j hj
    obtain ⟨b, off, spot⟩ := a
    have c0 : w.cell? ⟨b, off, spot⟩ = some (.int .i64 (l[0]'hp).1) := cell 0 hp 0 (by decide)
    have hspot : spot = none := by
      cases spot with
      | none => rfl
      | some q =>
        unfold World.cell? at c0
        split at c0 <;> simp at c0
    subst hspot
    refine ⟨b, off, rfl, ?_, ?_⟩
    · have : w.heap[b]? ≠ none := by
        intro hn
        unfold World.cell? at c0
        rw [hn] at c0
        simp at c0
      have := mt Array.getElem?_eq_none this
      omega
    · intro k h
      have hadd : ∀ j, ((⟨b, off, none⟩ : Addr).add (k * 2)).add j = ⟨b, off + k * 2 + j, none⟩ := by
        intro j
        unfold Addr.add
        repeat' split
        all_goals simp_all
      refine ⟨?_, ?_⟩
      · have := cell k h 0 (by decide); rw [hadd] at this; exact this
      · have := cell k h 1 (by decide); rw [hadd] at this; exact this

set_option maxRecDepth 100000 in
/-- SETTINGS THAT ARE HANDED IN. -/
theorem open_cfg {H : Type} {en : TypeId × Value → H} {w : World} {r : Reach} {b0 : Nat} {v : Value} {d : DataW H} {ps : List MemPlace}
    (hval : Value.okWide Tryz.prog w r b0 24 v) (hd : DataW.Trod en Tryz.prog w 0 (fun _ => true) true 24 v d ps) (hk : Rows.uptoBulk d ≤ 1048576) :
    ∃ (reps room : Int) (bp rr : Bool) (vE : Value) (es : List (Int × Int)), v = .agg #[.int .i64 reps, vE, .bool bp, .bool rr, .int .i64 room] ∧ EdgesOf w vE es ∧ es.length ≤ 1048576 := by
  have hag : ∃ cs, v = .agg cs := by
    unfold Value.okWide at hval
    rw [Tryz.underlying24] at hval
    obtain ⟨cs, rfl, _⟩ := hval
    exact ⟨cs, rfl⟩
  obtain ⟨ca, rfl⟩ := hag
  obtain ⟨fuel, hf⟩ := hd
  obtain ⟨xs, n, -, hx, hl, hxl, hfs⟩ := DataW.trod_struct Tryz.underlying24 hf
  rw [cellsC] at hl
  have h0 := hfs 0 _ rfl
  have h1 := hfs 1 _ rfl
  have h2 := hfs 2 _ rfl
  have h3 := hfs 3 _ rfl
  have h4 := hfs 4 _ rfl
  obtain ⟨cs⟩ := ca
  simp only [Value.cells] at hl h0 h1 h2 h3 h4
  match cs, hl, xs, hxl with
  | [v0, v1, v2, v3, v4], _, [x0, x1, x2, x3, x4], _ =>
    have g0 : DataW.trod en Tryz.prog w 0 (fun _ => true) true n 3 [v0] = some x0 := by simpa [cellsI] using h0
    have g1 : DataW.trod en Tryz.prog w 0 (fun _ => true) true n 22 [v1] = some x1 := by simpa [cellsSE] using h1
    have g2 : DataW.trod en Tryz.prog w 0 (fun _ => true) true n 4 [v2] = some x2 := by simpa [cellsB] using h2
    have g3 : DataW.trod en Tryz.prog w 0 (fun _ => true) true n 4 [v3] = some x3 := by simpa [cellsB] using h3
    have g4 : DataW.trod en Tryz.prog w 0 (fun _ => true) true n 3 [v4] = some x4 := by simpa [cellsI] using h4
    have hb1 : Rows.uptoBulk x1.1 ≤ 1048576 := by
      have hd : d = .agg ([x0, x1, x2, x3, x4].map (·.1)) := by
        have := congrArg Prod.fst hx
        exact this
      rw [hd] at hk
      simp only [Rows.uptoBulk, Rows.uptoBulkAll, List.map_cons, List.map_nil] at hk
      omega
    obtain ⟨n0, e0, -, -⟩ := DataW.trod_int Tryz.underlying3 g0
    obtain ⟨n2, e2, -⟩ := DataW.trod_bool Tryz.underlying4 g2
    obtain ⟨n3, e3, -⟩ := DataW.trod_bool Tryz.underlying4 g3
    obtain ⟨n4, e4, -, -⟩ := DataW.trod_int Tryz.underlying3 g4
    obtain ⟨es, he, hel⟩ := open_edges g1 hb1
    simp only [List.cons.injEq, and_true] at e0 e2 e3 e4
    subst e0 e2 e3 e4
    exact ⟨n0, n4, n2, n3, v1, es, rfl, he, hel⟩

/-- THE TABLE OF RULES, out of what the rows list. -/
theorem rules_of_laid2 {W : World} (h : laidMetH Tryz.prog [("ripple/state.steps", Rows.laid_ripple_state_steps), ("ripple/state.rules", Rows.laid_ripple_state_rules)] W) : RulesAt W := by
  have h' : laidMet Tryz.prog [("ripple/state.steps", Rows.laid_ripple_state_steps), ("ripple/state.rules", Rows.laid_ripple_state_rules)] W := h
  obtain ⟨ps, ⟨g, t, cs, fuel, p, q, hg, ht, hvar, hd, hrest, rfl⟩, hnd, hall⟩ := h'
  refine rules_of_laid (show laidMet Tryz.prog [("ripple/state.rules", Rows.laid_ripple_state_rules)] W from ⟨q, hrest, (List.nodup_append.1 hnd).2.1, fun b off hm => hall b off (List.mem_append.2 (.inr hm))⟩)
end Go.Proofs.YtahdlejgjcjeoaaGreatDoor
