/- Walk of the laws' ownAtoms. -/
import Derived.Shelf.Sort.Plain
import Derived.Shelf.Slices.In.SortNone
import Derived.Test.YtahdlejgjcjeoaaGreatDoorProg
import Derived.Test.YtahdlejgjcjeoaaGreatDoorP09
import Derived.Test.YtahdlejgjcjeoaaGreatDoorP11
import Derived.Test.YtahdlejgjcjeoaaGreatDoorP05
import Derived.Test.YtahdlejgjcjeoaaGreatDoorP03
import Derived.Deep.RegionHeld3
import Derived.Deep.RegionHeldLaw
namespace Go.Proofs.YtahdlejgjcjeoaaGreatDoor
open Go.Shelf

def sortTexts_ren : Go.Shelf.Ren := ⟨fun | 190 => 182 | 125 => 161 | 258 => 213 | 128 => 201 | 129 => 202 | 302 => 224 | 303 => 225 | 304 => 226 | 305 => 227 | 306 => 228 | 307 => 229 | 308 => 230 | 309 => 231 | 310 => 232 | 333 => 235 | 329 => 216 | 330 => 217 | 334 => 236 | 335 => 237 | 336 => 204 | 344 => 238 | n => n, fun | 31 => 87 | 9 => 9 | 3 => 3 | 46 => 227 | 0 => 0 | 51 => 106 | 53 => 261 | 4 => 4 | 183 => 253 | 182 => 252 | 131 => 257 | 5 => 5 | 218 => 275 | 222 => 279 | 228 => 289 | 229 => 290 | n => n, fun | n => n⟩

theorem sortTexts : Go.Proofs.Lays.n190 Tryz.prog sortTexts_ren := {
  mixed := by kernel_rfl,
  f125 := Tryz.func161.trans (congrArg some (by kernel_rfl)),
  f128 := Tryz.func201.trans (congrArg some (by kernel_rfl)),
  f129 := Tryz.func202.trans (congrArg some (by kernel_rfl)),
  f190 := Tryz.func182.trans (congrArg some (by kernel_rfl)),
  f258 := Tryz.func213.trans (congrArg some (by kernel_rfl)),
  f302 := Tryz.func224.trans (congrArg some (by kernel_rfl)),
  f303 := Tryz.func225.trans (congrArg some (by kernel_rfl)),
  f304 := Tryz.func226.trans (congrArg some (by kernel_rfl)),
  f305 := Tryz.func227.trans (congrArg some (by kernel_rfl)),
  f306 := Tryz.func228.trans (congrArg some (by kernel_rfl)),
  f307 := Tryz.func229.trans (congrArg some (by kernel_rfl)),
  f308 := Tryz.func230.trans (congrArg some (by kernel_rfl)),
  f309 := Tryz.func231.trans (congrArg some (by kernel_rfl)),
  f310 := Tryz.func232.trans (congrArg some (by kernel_rfl)),
  f329 := Tryz.func216.trans (congrArg some (by kernel_rfl)),
  f330 := Tryz.func217.trans (congrArg some (by kernel_rfl)),
  f333 := Tryz.func235.trans (congrArg some (by kernel_rfl)),
  f334 := Tryz.func236.trans (congrArg some (by kernel_rfl)),
  f335 := Tryz.func237.trans (congrArg some (by kernel_rfl)),
  f336 := Tryz.func204.trans (congrArg some (by kernel_rfl)),
  f344 := Tryz.func238.trans (congrArg some (by kernel_rfl)),
  t0 := Tryz.underlying0,
  a0 := Tryz.isAgg0,
  z0 := Tryz.sizeOf0,
  v0 := Tryz.zeroValue0,
  t3 := Tryz.underlying3,
  a3 := Tryz.isAgg3,
  z3 := Tryz.sizeOf3,
  v3 := Tryz.zeroValue3,
  t4 := Tryz.underlying4,
  a4 := Tryz.isAgg4,
  z4 := Tryz.sizeOf4,
  v4 := Tryz.zeroValue4,
  t5 := Tryz.underlying5,
  a5 := Tryz.isAgg5,
  z5 := Tryz.sizeOf5,
  v5 := Tryz.zeroValue5,
  t9 := Tryz.underlying9,
  a9 := Tryz.isAgg9,
  z9 := Tryz.sizeOf9,
  v9 := Tryz.zeroValue9,
  t31 := Tryz.underlying87,
  a31 := Tryz.isAgg87,
  z31 := Tryz.sizeOf87,
  v31 := Tryz.zeroValue87,
  t46 := Tryz.underlying227,
  a46 := Tryz.isAgg227,
  z46 := Tryz.sizeOf227,
  v46 := Tryz.zeroValue227,
  t51 := Tryz.underlying106,
  a51 := Tryz.isAgg106,
  z51 := Tryz.sizeOf106,
  v51 := Tryz.zeroValue106,
  t53 := Tryz.underlying261,
  a53 := Tryz.isAgg261,
  z53 := Tryz.sizeOf261,
  v53 := Tryz.zeroValue261,
  t131 := Tryz.underlying257,
  a131 := Tryz.isAgg257,
  z131 := Tryz.sizeOf257,
  v131 := Tryz.zeroValue257,
  t182 := Tryz.underlying252,
  a182 := Tryz.isAgg252,
  z182 := Tryz.sizeOf252,
  v182 := Tryz.zeroValue252,
  t183 := Tryz.underlying253,
  a183 := Tryz.isAgg253,
  z183 := Tryz.sizeOf253,
  v183 := Tryz.zeroValue253,
  t218 := Tryz.underlying275,
  a218 := Tryz.isAgg275,
  z218 := Tryz.sizeOf275,
  v218 := Tryz.zeroValue275,
  t222 := Tryz.underlying279,
  a222 := Tryz.isAgg279,
  z222 := Tryz.sizeOf279,
  v222 := Tryz.zeroValue279,
  t228 := Tryz.underlying289,
  a228 := Tryz.isAgg289,
  z228 := Tryz.sizeOf289,
  v228 := Tryz.zeroValue289,
  t229 := Tryz.underlying290,
  a229 := Tryz.isAgg290,
  z229 := Tryz.sizeOf290,
  v229 := Tryz.zeroValue290 }

end Go.Proofs.YtahdlejgjcjeoaaGreatDoor

namespace Go.Proofs.YtahdlejgjcjeoaaGreatDoor
open Go.RowKit Go.Sort

theorem string_cells (xs : List ByteArray) : xs.map Value.string = (xs.map fun x => x.data.toList).map encStr := by
  rw [List.map_map]
  exact List.map_congr_left fun x _ => rfl
theorem ordS_flip (x y : ByteArray) : ordS y x = - ordS x y := by
  have h := plc_tp.anti ⟨5, x, 0, 0, x, 0⟩ ⟨5, y, 0, 0, y, 0⟩
  have e1 : plc ⟨5, x, 0, 0, x, 0⟩ ⟨5, y, 0, 0, y, 0⟩ = ordS x y := by simp [plc]
  have e2 : plc ⟨5, y, 0, 0, y, 0⟩ ⟨5, x, 0, 0, x, 0⟩ = ordS y x := by simp [plc]
  rwa [e1, e2] at h
theorem lt_ordS (x y : ByteArray) : x.data.toList < y.data.toList ↔ ordS x y < 0 := by
  have h1 := Go.Proofs.bytesLess_eq x.data.toList y.data.toList
  have h2 := bytesLess_cb x.data.toList y.data.toList
  rw [h1] at h2
  have := decide_eq_decide.1 h2
  exact this
theorem le_ordS {x y : ByteArray} (h : x.data.toList ≤ y.data.toList) : ordS x y ≤ 0 := by
  have h1 : ¬ ordS y x < 0 := fun e => (List.not_lt.2 h) ((lt_ordS y x).2 e)
  have := ordS_flip x y
  omega

theorem heap_sortedT {w : World} {g n : Nat} {os : Array Obj} {cur : Array Value} {e : TypeId} (F : Array (List UInt8)) (hb : w.heap[g]? = some (.cells cur e (0, 0))) :
    (grow (putRow encStr (Sort.ahead w n) g 0 F) os).heap[g]? = some (.cells (putCells encStr 0 F cur) e (0, 0)) := by
  have hlt := (Array.getElem?_eq_some_iff.1 hb).1
  rw [heap_grow_old _ _ (by simpa using hlt)]
  simp [putRow, mapBlock, Sort.ahead, Array.getElem?_modify, hb, onCells]
theorem grownBy_sortedT {w : World} {g n : Nat} {os : Array Obj} (F : Array (List UInt8)) : w.grownBy (grow (putRow encStr (Sort.ahead w n) g 0 F) os) (some g) := by
  refine ⟨rfl, rfl, rfl, by simp, fun k hk hne => ?_⟩
  rw [heap_grow_old _ _ (by simpa using hk)]
  have : g ≠ k := fun e => hne (by rw [e])
  simp [putRow, mapBlock, Sort.ahead, Array.getElem?_modify, this]
theorem take_putCellsT (cur : Array Value) (F : List (List UInt8)) (h : F.length ≤ cur.size) : (putCells encStr 0 F.toArray cur).toList.take F.length = F.map encStr := by
  apply List.ext_getElem?
  intro j
  by_cases hj : j < F.length
  · rw [List.getElem?_take_of_lt hj, Array.getElem?_toList]
    simp [putCells, hj, show j < cur.size by omega]
  · rw [List.getElem?_take_eq_none (by omega), List.getElem?_eq_none (by simp; omega)]

/-- Sort, on a row of the call's own. -/
theorem sortT_any (base g cap : Nat) (xs : List ByteArray) (w : World) (hown : w.ownsRow base 9 1 (.slice (some ⟨g, 0, none⟩) xs.length cap) xs.length (xs.map Value.string)) (hlen : xs.length < 4611686018427387904) :
    Calls Tryz.prog 182 #[.slice (some ⟨g, 0, none⟩) xs.length cap] w fun e w' =>
      e = .returned (.tuple #[]) ∧ ∃ ys : List ByteArray, ys.Perm xs ∧ ys.Pairwise (fun x y => ordS x y ≤ 0) ∧ w'.ownsRow base 9 1 (.slice (some ⟨g, 0, none⟩) xs.length cap) xs.length (ys.map Value.string) ∧ w.grownBy w' (some g) := by
  rcases hown.2 with ⟨h0, _⟩ | ⟨g', cap', cur, hv, hbase, hb, h1, h2, h3, h4⟩
  · cases h0
  cases hv
  obtain ⟨ss, hss⟩ : ∃ ss : List (List UInt8), ss = xs.map fun x => x.data.toList := ⟨_, rfl⟩
  have hsl : ss.length = xs.length := by rw [hss, List.length_map]
  rw [string_cells, ← hss, Nat.mul_one] at h4
  have hH : Holds encStr w g 0 ss.toArray := by
    intro j hj
    have hj' : j < ss.length := by simpa using hj
    refine ⟨?_, by simp [World.frozen?, hb]⟩
    have e1 : (cur.toList.take xs.length)[j]? = (ss.map encStr)[j]? := by rw [h4]
    rw [List.getElem?_take_of_lt (by omega)] at e1
    simp only [World.cell?, hb, Nat.zero_add]
    simp only [Option.isSome_none, Bool.false_eq_true, if_false]
    rw [← Array.getElem?_toList, e1]
    simp [hj']
  have hcon := Any.slices_Sort_string (P := Tryz.prog) sortTexts g 0 cap ss w hH (Array.getElem?_eq_some_iff.1 hb).1 (by omega)
  rw [hsl] at hcon
  refine Calls.mono (show Calls Tryz.prog 182 _ _ _ from hcon) ?_
  rintro e w' ⟨rfl, n, os, rfl⟩
  have hp : (ss.mergeSort fun x y => decide (x ≤ y)).Perm ss := List.mergeSort_perm _ _
  have hpw := List.pairwise_mergeSort (le := fun x y : List UInt8 => decide (x ≤ y)) (fun a b c h1 h2 => by simp only [decide_eq_true_eq] at *; exact List.le_trans h1 h2) (fun a b => by simp only [Bool.or_eq_true, decide_eq_true_eq]; exact List.le_total a b) ss
  generalize ss.mergeSort (fun x y => decide (x ≤ y)) = F at *
  have hFl : F.length = xs.length := by rw [hp.length_eq, hsl]
  have eF : (F.map fun l => (⟨l.toArray⟩ : ByteArray)).map Value.string = F.map encStr := by rw [List.map_map]; rfl
  refine ⟨rfl, F.map fun l => ⟨l.toArray⟩, ?_, ?_, ?_, grownBy_sortedT _⟩
  · have := hp.map fun l : List UInt8 => (⟨l.toArray⟩ : ByteArray)
    rw [hss, List.map_map] at this
    have e : xs.map ((fun l : List UInt8 => (⟨l.toArray⟩ : ByteArray)) ∘ fun x : ByteArray => x.data.toList) = xs :=
      (List.map_congr_left (g := id) fun x _ => rfl).trans (List.map_id xs)
    rwa [e] at this
  · rw [List.pairwise_map]
    exact hpw.imp fun h => le_ordS (by simpa using h)
  · rw [eF]
    refine ⟨by simp [hFl], .inr ⟨g, cap, _, rfl, hbase, heap_sortedT _ hb, h1, h2, by simp [putCells, h3], ?_⟩⟩
    have := take_putCellsT cur F (by rw [hFl, h3]; omega)
    rw [hFl] at this
    rw [Nat.mul_one]
    exact this
end Go.Proofs.YtahdlejgjcjeoaaGreatDoor

namespace Go.Proofs.YtahdlejgjcjeoaaGreatDoor
open Go.RowKit

end Go.Proofs.YtahdlejgjcjeoaaGreatDoor

namespace Go.Proofs.YtahdlejgjcjeoaaGreatDoor
open Go.RowKit

end Go.Proofs.YtahdlejgjcjeoaaGreatDoor

namespace Go.Proofs.YtahdlejgjcjeoaaGreatDoor
open Go.RowKit

theorem calls_of_args {P : Program} {f : FuncId} {args args' : Array Value} {w : World} {Q Q' : Ending → World → Prop} (e : args' = args) (h : Calls P f args w Q) (hm : ∀ e w', Q e w' → Q' e w') : Calls P f args' w Q' := by
  rw [e]
  exact h.mono hm
theorem six_keep {W w w' : World} {b : Nat} {x0 x1 x2 x3 x4 x5 : Value} (h : Below W.heap.size W w ∧ b < w.heap.size ∧ w.cell? ⟨b, 0, none⟩ = some x0 ∧ w.cell? ⟨b, 1, none⟩ = some x1 ∧ w.cell? ⟨b, 2, none⟩ = some x2 ∧ w.cell? ⟨b, 3, none⟩ = some x3 ∧ w.cell? ⟨b, 4, none⟩ = some x4 ∧ w.cell? ⟨b, 5, none⟩ = some x5) (hb : Below w.heap.size w w') :
    Below W.heap.size W w' ∧ b < w'.heap.size ∧ w'.cell? ⟨b, 0, none⟩ = some x0 ∧ w'.cell? ⟨b, 1, none⟩ = some x1 ∧ w'.cell? ⟨b, 2, none⟩ = some x2 ∧ w'.cell? ⟨b, 3, none⟩ = some x3 ∧ w'.cell? ⟨b, 4, none⟩ = some x4 ∧ w'.cell? ⟨b, 5, none⟩ = some x5 := by
  obtain ⟨hW, z, c0, c1, c2, c3, c4, c5⟩ := h
  refine ⟨hW.trans (hb.mono hW.size), Nat.lt_of_lt_of_le z hb.size, ?_, ?_, ?_, ?_, ?_, ?_⟩ <;> (rw [hb.cell (p := ⟨b, _, none⟩) z]; assumption)
theorem six_drew {W w : World} {b : Nat} {x0 x1 x2 x3 x4 x5 : Value} (h : Below W.heap.size W w ∧ b < w.heap.size ∧ w.cell? ⟨b, 0, none⟩ = some x0 ∧ w.cell? ⟨b, 1, none⟩ = some x1 ∧ w.cell? ⟨b, 2, none⟩ = some x2 ∧ w.cell? ⟨b, 3, none⟩ = some x3 ∧ w.cell? ⟨b, 4, none⟩ = some x4 ∧ w.cell? ⟨b, 5, none⟩ = some x5) :
    Below W.heap.size W w.drew ∧ b < w.drew.heap.size ∧ w.drew.cell? ⟨b, 0, none⟩ = some x0 ∧ w.drew.cell? ⟨b, 1, none⟩ = some x1 ∧ w.drew.cell? ⟨b, 2, none⟩ = some x2 ∧ w.drew.cell? ⟨b, 3, none⟩ = some x3 ∧ w.drew.cell? ⟨b, 4, none⟩ = some x4 ∧ w.drew.cell? ⟨b, 5, none⟩ = some x5 := six_keep h (Below.refl _ w).drew
theorem six_start {W w : World} {x0 x1 x2 x3 x4 x5 : Value} {e : TypeId} {b : Nat} (hbn : b = w.heap.size) (h : Below W.heap.size W w) :
    Below W.heap.size W (w.alloc (.cells #[x0, x1, x2, x3, x4, x5] e)) ∧ b < (w.alloc (.cells #[x0, x1, x2, x3, x4, x5] e)).heap.size ∧ (w.alloc (.cells #[x0, x1, x2, x3, x4, x5] e)).cell? ⟨b, 0, none⟩ = some x0 ∧ (w.alloc (.cells #[x0, x1, x2, x3, x4, x5] e)).cell? ⟨b, 1, none⟩ = some x1 ∧ (w.alloc (.cells #[x0, x1, x2, x3, x4, x5] e)).cell? ⟨b, 2, none⟩ = some x2 ∧ (w.alloc (.cells #[x0, x1, x2, x3, x4, x5] e)).cell? ⟨b, 3, none⟩ = some x3 ∧ (w.alloc (.cells #[x0, x1, x2, x3, x4, x5] e)).cell? ⟨b, 4, none⟩ = some x4 ∧ (w.alloc (.cells #[x0, x1, x2, x3, x4, x5] e)).cell? ⟨b, 5, none⟩ = some x5 := by
  subst hbn
  exact ⟨below_alloc h _, by simp, six_cells (MapKept.heap_alloc w _).1⟩

end Go.Proofs.YtahdlejgjcjeoaaGreatDoor

namespace Go.Proofs.YtahdlejgjcjeoaaGreatDoor
open Go.RowKit

theorem cell_keep {w w' : World} {p : Addr} {u : Value} (h : w.cell? p = some u) (hb : Below w.heap.size w w') : w'.cell? p = some u := by
  have : p.block < w.heap.size := by
    have h0 : w.heap[p.block]? ≠ none := by
      intro hn
      unfold World.cell? at h
      simp [hn] at h
    have := mt Array.getElem?_eq_none h0
    omega
  rw [hb.cell this]
  exact h
end Go.Proofs.YtahdlejgjcjeoaaGreatDoor

namespace Go.Proofs.YtahdlejgjcjeoaaGreatDoor
open Go.RowKit Go.Maps

theorem ranges_below {P : Program} {k : TypeId} {R : Value → Option (DataW Unit × List MemPlace)} {w w' : World} {b r n : Nat} {D : DataW Unit} {left : Lit → Bool} {cnt : Nat} (h : w.ranges P k R b r n D left cnt) (hb : Below w.heap.size w w') : w'.ranges P k R b r n D left cnt := by
  have h1 := h.owns.lt
  have h2 := h.lt
  obtain ⟨es, clock, since, seen, c0, e1, e2, e3, e4, e5, e6⟩ := h
  exact ⟨es, clock, since, seen, c0, by rw [hb.block b h1]; exact e1, e2, e3, e4, by rw [hb.block r h2]; exact e5, e6⟩

set_option maxRecDepth 100000 in
set_option maxHeartbeats 2000000 in
theorem elems_any (b n : Nat) (M : Sl → Option Gr) (w : World) (hm : StMap w b n M) (hmm : MayMap M) (hn : n ≤ 8388608) :
    Calls Tryz.prog 143 #[.map (some b)] w fun e w' => ∃ (v' : Value) (C : List At) (ys : List ByteArray), e = .returned v' ∧ w'.ownsRow w.heap.size 9 1 v' ys.length (ys.map Value.string) ∧ Hid (Coll M (fun _ => false) C ∧ ys.Perm (elemsOf M C) ∧ ys.Pairwise (fun x y => ordS x y ≤ 0)) ∧ Below w.heap.size w w' := by
  obtain ⟨D, hown, h2, h3⟩ := hm
  have HMM : Hid (MayMap M) := hmm
  have H2 : Hid (∀ s : Sl, s.ok → M s = none → Maps.has D s.lit = false) := h2
  have H3 : Hid (∀ s g, M s = some g → s.ok ∧ Maps.has D s.lit = true ∧ ∀ z, D.atKey s.lit z = g.dat) := h3
  have hsz := hown.size_le
  clear hmm h2 h3
  obtain ⟨i0, hi, hz0, hz1, hz2⟩ := info_parts infoText
  have hbw := hown.lt
  go_enter Tryz.func143, Tryz.ntmps143
  go_wp2_with (at_range; refine wpList_range_own _ rfl _ 122 rfl 172 174 slotKeyed Tryz.underlying122 grElem b n D rfl hown ?_; intro w0 hrg0 hg0 hs0)
  go_frame
  have hb0 : Below w.heap.size w w0 := (Below.refl _ w).grown hg0 (Nat.le_refl _) (fun k hk => by cases hk)
  go_loopw [3, 4] (fun v _ wr => ∃ (left : Lit → Bool) (cnt : Nat) (C : List At), wr.ranges Tryz.prog 172 grElem b w.heap.size n D left cnt ∧ wr.ownsRow (w.heap.size + 1) 9 1 v (elemsOf M C).length ((elemsOf M C).map Value.string) ∧ Hid (Coll M left C) ∧ C.length + cnt ≤ n ∧ Below w.heap.size w wr) (fun _ _ wr => wr.rangeLeft b w.heap.size)
  case atStart =>
    refine ⟨Maps.has D, Maps.size D, [], hrg0, by simp [elemsOf, World.ownsRow], ⟨.nil, fun a => ?_⟩, by simpa using hsz, hb0⟩
    constructor
    · intro h; cases h
    · rintro ⟨h1, h2⟩
      have := (H3.out _ _ h1.2).2.1
      rw [this] at h2; cases h2
  case round =>
    obtain ⟨left, cnt, C, hrg, hrow, hC, hcnt, hbr⟩ := hrel
    have hel := elemsOf_length M C
    go_wp2_with (at_next; refine wpList_next_ranges _ rfl _ rfl 172 slotKeyed grElem (fun s : Sl => .agg #[.int .i64 s.ty, .string s.key, .int .i64 s.side, .int .i64 s.who, .string s.elem]) (fun g : Gr => .agg #[.int .i64 g.n, .int .i64 g.who, .string g.elem]) slot_key_inv (fun v y hv => by obtain ⟨g, rfl, _⟩ := grElem_inv hv; exact ⟨g, rfl⟩) b w.heap.size n D left cnt rfl hrg ?_ ?_)
    · intro _ hl0
      have HC0 : Hid (Coll M (fun _ => false) C) := by
        have e : left = fun _ => false := funext hl0
        rw [e] at hC
        exact hC
      clear hl0 hi hz0 hz1 hz2 hC hrg
      have HX : Hid (elemsOf M C = elemsOf M C) := rfl
      generalize hxs : elemsOf M C = xs at *
      have HXS : Hid (elemsOf M C = xs) := hxs
      clear hxs HX
      rcases hrow.2 with ⟨hv, hC0⟩ | ⟨g, cap, cur, hv, hbase, hblk, h1, h2, h3, h4⟩
      · subst hv
        obtain rfl := List.length_eq_zero_iff.1 hC0
        have hsn := fun W => Any.slices_Sort_string_none (P := Tryz.prog) sortTexts none 0 W
        go_wp2_with fail
        refine Calls.mono (show Calls Tryz.prog 182 _ _ _ from hsn _) ?_
        rintro e w5 ⟨rfl, rfl⟩
        clear hsn
        go_wp2
        go_ret
        exact ⟨_, C, [], rfl, by simp [World.ownsRow], ⟨HC0.out, by rw [HXS.out], .nil⟩, hbr⟩
      · subst hv
        have hso := sortT_any (w.heap.size + 1) g cap xs wr hrow (by omega)
        clear h4
        go_wp2_with fail
        refine hso.mono ?_
        rintro e w5 ⟨rfl, ys, hperm, hsorted, hown5, hg5⟩
        have HTL : Hid (Coll M (fun _ => false) C ∧ ys.Perm (elemsOf M C) ∧ ys.Pairwise (fun x y => ordS x y ≤ 0)) := ⟨HC0.out, by rw [HXS.out]; exact hperm, hsorted⟩
        have hl5 : xs.length = ys.length := hperm.length_eq.symm
        have hfin : w5.ownsRow w.heap.size 9 1 (.slice (some ⟨g, 0, none⟩) xs.length cap) ys.length (ys.map Value.string) := by rw [← hl5]; exact owns_mono hown5 (by omega)
        have hb5 : Below w.heap.size w w5 := hbr.grown hg5 hbr.size (fun k hk => by cases hk; omega)
        clear hso hperm hsorted hown5 hg5 hl5
        go_wp2
        go_ret
        exact ⟨_, C, ys, rfl, hfin, HTL, hb5⟩
    · intro x c kl yd yp w2 cnt2 hkey hlk hv hat hrg2 hlt hg2 hs2 hen
      obtain ⟨hxok, rfl⟩ := slot_ok_of_key x kl hkey
      have hMx : M x = some c := by
        obtain ⟨g', hg', hz'⟩ := grElem_inv hv
        cases hM : M x with
        | none =>
          have hh := H2.out x hxok hM
          rw [Maps.has_true_of_atKey hat] at hh
          cases hh
        | some g0 =>
          have := (H3.out x g0 hM).2.2 .nil
          rw [hat] at this
          have hcc : grElem c.val = some (c.dat, []) := grElem_mk c
          have hv' : grElem c.val = some (yd, yp) := hv
          rw [hcc] at hv'
          simp only [Option.some.injEq, Prod.mk.injEq] at hv'
          rw [Gr.dat_inj (hv'.1.trans this)]
      obtain ⟨a, ha, rfl, rfl⟩ := HMM.out x c hMx
      have HC2 : Hid (Coll M (fun z => left z && !z.sameKey (slot a).lit) (C ++ [a])) := hC.out.step ⟨ha, hMx⟩ hlk (fun s g h => (H3.out s g h).1)
      have HSN : Hid (elemsOf M (C ++ [a]) = if kept M a then elemsOf M C ++ [(slot a).elem] else elemsOf M C) := elemsOf_snoc M C a
      have hsz2 : wr.heap.size ≤ w2.heap.size := by omega
      have hst2 : StMap w2 b n M := ⟨D, hrg2.owns, H2.out, H3.out⟩
      have hir := fun W (h : StMap W b n M) => isRemoved_any b n M (slot a) W h hxok
      clear hkey hat hv hMx hs2 hlk
      have hbr2 : Below w.heap.size w w2 := hbr.grown hg2 hbr.size (fun k hk => by cases hk; exact Nat.le_refl _)
      have hrow2 := owns_grown hrow hg2 (Nat.lt_succ_self _)
      have HL : Hid (wr.rangeLeft b w.heap.size = cnt) := hrg.left_eq
      clear hg2 hrg ha hrow hC
      by_cases hsd : (slot a).side = 0
      · have hi2 := hir (w2.alloc (.cells #[.int .i64 (slot a).ty, .string (slot a).key, .int .i64 (slot a).side, .int .i64 (slot a).who, .string (slot a).elem] 172)) (hst2.alloc _)
        have hrg3 := hrg2.alloc (.cells #[.int .i64 (slot a).ty, .string (slot a).key, .int .i64 (slot a).side, .int .i64 (slot a).who, .string (slot a).elem] 172)
        have hrow3 := hrow2.alloc (.cells #[.int .i64 (slot a).ty, .string (slot a).key, .int .i64 (slot a).side, .int .i64 (slot a).who, .string (slot a).elem] 172)
        have hbr3 := below_alloc hbr2 (.cells #[.int .i64 (slot a).ty, .string (slot a).key, .int .i64 (slot a).side, .int .i64 (slot a).who, .string (slot a).elem] 172)
        have hz3 : w2.heap.size < (w2.alloc (.cells #[.int .i64 (slot a).ty, .string (slot a).key, .int .i64 (slot a).side, .int .i64 (slot a).who, .string (slot a).elem] 172)).heap.size := by simp
        clear hir hst2 hrg2 hrow2 hbr2
        rw [hsd] at hi2 hrg3 hrow3 hbr3 hz3
        cases hR : (M (slot a).one).isSome with
        | true =>
          have hk : kept M a = false := by unfold kept; rw [← Option.not_isSome, hR]; simp
          have HS2 : Hid (elemsOf M (C ++ [a]) = elemsOf M C) := by rw [Hid, HSN.out, hk]; rfl
          rw [hR] at hi2
          clear HSN hk hR
          generalize (slot a).lit = kl at *
          generalize slot a = x at *
          generalize grade a = c at *
          go_wp2_with fail
          generalize hW3 : w2.alloc (.cells #[.int .i64 x.ty, .string x.key, .int .i64 0, .int .i64 x.who, .string x.elem] 172) = w3 at *
          refine hi2.mono ?_
          rintro e w4 ⟨rfl, hb4⟩
          have hrg4 := ranges_below hrg3 hb4
          have hrow4 := owns_below hrow3 hb4
          have hbr4 : Below w.heap.size w w4 := hbr3.trans (hb4.mono hbr3.size)
          clear hi2 hrg3 hrow3 hW3
          go_wp2
          refine ⟨⟨_, cnt2, C ++ [a], hrg4, by rw [HS2.out]; exact hrow4, HC2, by simp; omega, hbr4⟩, ?_⟩
          rw [hrg4.left_eq, HL.out]
          exact hlt
        | false =>
          have hk : kept M a = true := by unfold kept; rw [← Option.not_isSome, hR]; simp [hsd]
          have HS2 : Hid (elemsOf M (C ++ [a]) = elemsOf M C ++ [(slot a).elem]) := by rw [Hid, HSN.out, hk]; rfl
          rw [hR] at hi2
          clear HSN hk hR
          generalize (slot a).lit = kl at *
          generalize slot a = x at *
          generalize grade a = c at *
          have hcx : (w2.alloc (.cells #[.int .i64 x.ty, .string x.key, .int .i64 0, .int .i64 x.who, .string x.elem] 172)).cell? ⟨w2.heap.size, 4, none⟩ = some (.string x.elem) := by simp
          go_wp2_with fail
          generalize hW3 : w2.alloc (.cells #[.int .i64 x.ty, .string x.key, .int .i64 0, .int .i64 x.who, .string x.elem] 172) = w3 at *
          refine hi2.mono ?_
          rintro e w4 ⟨rfl, hb4⟩
          have hrg4 := ranges_below hrg3 hb4
          have hrow4 := owns_below hrow3 hb4
          have hbr4 : Below w.heap.size w w4 := hbr3.trans (hb4.mono hbr3.size)
          have hcx4 := cell_keep hcx hb4
          have hz4 := hbr4.size
          clear hi2 hrg3 hrow3 hW3 hcx
          go_wp2_with (at_builtin; refine wpList_append_lies _ rfl _ _ 87 rfl (w.heap.size + 1) 9 i0 _ 1 16 Tryz.underlying87 hi hz0 hz1 hz2 rfl (by decide) _ (elemsOf M C).length _ rfl (hrow4.alloc _) ⟨w4.heap.size, 0, none⟩ 1 1 [.string x.elem] rfl rfl (World.news_of_block (heap_alloc_new w4 _)) (by simp [Value.oneCell']) (by decide) (by unfold maxLen; omega) (by omega) (by simp; omega) (w4.heap.size + 1) (by simp) ?_; intro g capn w5 hown5 hgrow5 hat5 hlt5)
          have hrg5 := (hrg4.alloc (.cells #[.string x.elem] 9)).kept hgrow5 (ne_own hrow4 _ (by omega)) (ne_own hrow4 _ (Nat.lt_succ_self _))
          have hbr5 : Below w.heap.size w w5 := (below_alloc hbr4 _).grown hgrow5 (by simp; omega) (fun q hq => by have := owns_base hrow4 q hq; omega)
          refine ⟨⟨_, cnt2, C ++ [a], hrg5, by rw [HS2.out, List.map_append, List.length_append]; exact hown5, HC2, by simp; omega, hbr5⟩, ?_⟩
          rw [hrg5.left_eq, HL.out]
          exact hlt
      · have hk : kept M a = false := by unfold kept; simp [hsd]
        have HS2 : Hid (elemsOf M (C ++ [a]) = elemsOf M C) := by rw [Hid, HSN.out, hk]; rfl
        clear HSN hk hir hst2
        generalize (slot a).lit = kl at *
        generalize slot a = x at *
        generalize grade a = c at *
        go_wp2
        refine ⟨⟨_, cnt2, C ++ [a], (hrg2.alloc _), by rw [HS2.out]; exact hrow2.alloc _, HC2, by simp; omega, below_alloc hbr2 _⟩, ?_⟩
        rw [(hrg2.alloc _).left_eq, HL.out]
        exact hlt
end Go.Proofs.YtahdlejgjcjeoaaGreatDoor

namespace Go.Proofs.YtahdlejgjcjeoaaGreatDoor
open Go.RowKit

theorem infoOut : (Tryz.prog.info? 75).map (fun i => (i.zero, i.size, i.bytes)) = some (some (.agg #[.slice none 0 0, .int .i64 0]), 2, 32) := by kernel_rfl

theorem all_marks {L : List At} {n : Nat} {k : Int} (hl : L.length = n) (h : ∀ t, t < n → nth L t = mark k) : L = List.replicate n (mark k) := by
  apply List.ext_getElem (by simp [hl])
  intro i h1 h2
  rw [← nth_eq L i h1, h i (by omega)]
  simp

end Go.Proofs.YtahdlejgjcjeoaaGreatDoor
