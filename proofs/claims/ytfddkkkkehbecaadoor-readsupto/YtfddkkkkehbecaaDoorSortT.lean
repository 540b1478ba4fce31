/- slices.Sort on a row of texts of the call's own. -/
import Derived.Test.YtfddkkkkehbecaaDoorSortSLay
import Derived.Test.YtfddkkkkehbecaaDoorSortM
namespace Go.Proofs.YtfddkkkkehbecaaDoor
open Go.RowKit Go.Sort

theorem string_cells (xs : List ByteArray) : xs.map Value.string = (xs.map fun x => x.data.toList).map encStr := by
  rw [List.map_map]
  exact List.map_congr_left fun x _ => rfl
theorem ordS_flip (x y : ByteArray) : ordS y x = - ordS x y := by
  have h := plc_tp.anti ⟨5, x, 0, 0, x, 0⟩ ⟨5, y, 0, 0, y, 0⟩
  have e1 : plc ⟨5, x, 0, 0, x, 0⟩ ⟨5, y, 0, 0, y, 0⟩ = ordS x y := by simp [plc]
  have e2 : plc ⟨5, y, 0, 0, y, 0⟩ ⟨5, x, 0, 0, x, 0⟩ = ordS y x := by simp [plc]
  rwa [e1, e2] at h
theorem lt_ordS (x y : ByteArray) : x.data.toList < y.data.toList ↔ ordS x y < 0 := by
  have h1 := Go.Proofs.bytesLess_eq x.data.toList y.data.toList
  have h2 := bytesLess_cb x.data.toList y.data.toList
  rw [h1] at h2
  have := decide_eq_decide.1 h2
  exact this
theorem le_ordS {x y : ByteArray} (h : x.data.toList ≤ y.data.toList) : ordS x y ≤ 0 := by
  have h1 : ¬ ordS y x < 0 := fun e => (List.not_lt.2 h) ((lt_ordS y x).2 e)
  have := ordS_flip x y
  omega

theorem heap_sortedT {w : World} {g n : Nat} {os : Array Obj} {cur : Array Value} {e : TypeId} (F : Array (List UInt8)) (hb : w.heap[g]? = some (.cells cur e (0, 0))) :
    (grow (putRow encStr (Sort.ahead w n) g 0 F) os).heap[g]? = some (.cells (putCells encStr 0 F cur) e (0, 0)) := by
  have hlt := (Array.getElem?_eq_some_iff.1 hb).1
  rw [heap_grow_old _ _ (by simpa using hlt)]
  simp [putRow, mapBlock, Sort.ahead, Array.getElem?_modify, hb, onCells]
theorem grownBy_sortedT {w : World} {g n : Nat} {os : Array Obj} (F : Array (List UInt8)) : w.grownBy (grow (putRow encStr (Sort.ahead w n) g 0 F) os) (some g) := by
  refine ⟨rfl, rfl, rfl, by simp, fun k hk hne => ?_⟩
  rw [heap_grow_old _ _ (by simpa using hk)]
  have : g ≠ k := fun e => hne (by rw [e])
  simp [putRow, mapBlock, Sort.ahead, Array.getElem?_modify, this]
theorem take_putCellsT (cur : Array Value) (F : List (List UInt8)) (h : F.length ≤ cur.size) : (putCells encStr 0 F.toArray cur).toList.take F.length = F.map encStr := by
  apply List.ext_getElem?
  intro j
  by_cases hj : j < F.length
  · rw [List.getElem?_take_of_lt hj, Array.getElem?_toList]
    simp [putCells, hj, show j < cur.size by omega]
  · rw [List.getElem?_take_eq_none (by omega), List.getElem?_eq_none (by simp; omega)]

/-- Sort, on a row of the call's own. -/
theorem sortT_any (base g cap : Nat) (xs : List ByteArray) (w : World) (hown : w.ownsRow base 9 1 (.slice (some ⟨g, 0, none⟩) xs.length cap) xs.length (xs.map Value.string)) (hlen : xs.length < 4611686018427387904) :
    Calls Tryd.prog 99 #[.slice (some ⟨g, 0, none⟩) xs.length cap] w fun e w' =>
      e = .returned (.tuple #[]) ∧ ∃ ys : List ByteArray, ys.Perm xs ∧ ys.Pairwise (fun x y => ordS x y ≤ 0) ∧ w'.ownsRow base 9 1 (.slice (some ⟨g, 0, none⟩) xs.length cap) xs.length (ys.map Value.string) ∧ w.grownBy w' (some g) := by
  rcases hown.2 with ⟨h0, _⟩ | ⟨g', cap', cur, hv, hbase, hb, h1, h2, h3, h4⟩
  · cases h0
  cases hv
  obtain ⟨ss, hss⟩ : ∃ ss : List (List UInt8), ss = xs.map fun x => x.data.toList := ⟨_, rfl⟩
  have hsl : ss.length = xs.length := by rw [hss, List.length_map]
  rw [string_cells, ← hss, Nat.mul_one] at h4
  have hH : Holds encStr w g 0 ss.toArray := by
    intro j hj
    have hj' : j < ss.length := by simpa using hj
    refine ⟨?_, by simp [World.frozen?, hb]⟩
    have e1 : (cur.toList.take xs.length)[j]? = (ss.map encStr)[j]? := by rw [h4]
    rw [List.getElem?_take_of_lt (by omega)] at e1
    simp only [World.cell?, hb, Nat.zero_add]
    simp only [Option.isSome_none, Bool.false_eq_true, if_false]
    rw [← Array.getElem?_toList, e1]
    simp [hj']
  have hcon := Any.slices_Sort_string (P := Tryd.prog) sortTexts g 0 cap ss w hH (Array.getElem?_eq_some_iff.1 hb).1 (by omega)
  rw [hsl] at hcon
  refine Calls.mono (show Calls Tryd.prog 99 _ _ _ from hcon) ?_
  rintro e w' ⟨rfl, n, os, rfl⟩
  have hp : (ss.mergeSort fun x y => decide (x ≤ y)).Perm ss := List.mergeSort_perm _ _
  have hpw := List.pairwise_mergeSort (le := fun x y : List UInt8 => decide (x ≤ y)) (fun a b c h1 h2 => by simp only [decide_eq_true_eq] at *; exact List.le_trans h1 h2) (fun a b => by simp only [Bool.or_eq_true, decide_eq_true_eq]; exact List.le_total a b) ss
  generalize ss.mergeSort (fun x y => decide (x ≤ y)) = F at *
  have hFl : F.length = xs.length := by rw [hp.length_eq, hsl]
  have eF : (F.map fun l => (⟨l.toArray⟩ : ByteArray)).map Value.string = F.map encStr := by rw [List.map_map]; rfl
  refine ⟨rfl, F.map fun l => ⟨l.toArray⟩, ?_, ?_, ?_, grownBy_sortedT _⟩
  · have := hp.map fun l : List UInt8 => (⟨l.toArray⟩ : ByteArray)
    rw [hss, List.map_map] at this
    have e : xs.map ((fun l : List UInt8 => (⟨l.toArray⟩ : ByteArray)) ∘ fun x : ByteArray => x.data.toList) = xs :=
      (List.map_congr_left (g := id) fun x _ => rfl).trans (List.map_id xs)
    rwa [e] at this
  · rw [List.pairwise_map]
    exact hpw.imp fun h => le_ordS (by simpa using h)
  · rw [eF]
    refine ⟨by simp [hFl], .inr ⟨g, cap, _, rfl, hbase, heap_sortedT _ hb, h1, h2, by simp [putCells, h3], ?_⟩⟩
    have := take_putCellsT cur F (by rw [hFl, h3]; omega)
    rw [hFl] at this
    rw [Nat.mul_one]
    exact this
end Go.Proofs.YtfddkkkkehbecaaDoor
