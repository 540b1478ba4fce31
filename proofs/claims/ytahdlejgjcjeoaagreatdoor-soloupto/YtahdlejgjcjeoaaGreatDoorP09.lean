/- Walks of the program's mayBe and AllMayBe. -/
import Derived.Test.YtahdlejgjcjeoaaGreatDoorP02
import Derived.Test.YtahdlejgjcjeoaaGreatDoorP08
import Derived.Shelf.SlSortCmp.WholeK
import Derived.Test.YtahdlejgjcjeoaaGreatDoorProg
namespace Go.Proofs.YtahdlejgjcjeoaaGreatDoor
open Go.RowKit Go.ChangeShapes Go.WideShapes

theorem cellsE : Tryz.prog.cellsOf 53 = 2 := by kernel_rfl
theorem cellsSE : Tryz.prog.cellsOf 22 = 1 := by kernel_rfl
theorem cellsC : Tryz.prog.cellsOf 24 = 5 := by kernel_rfl
def edgeD {H : Type} (p : Int × Int) : DataW H := .agg [.lit (.int .i64 p.1), .lit (.int .i64 p.2)]
set_option maxRecDepth 100000 in
theorem open_edge {H : Type} {en : TypeId × Value → H} {w : World} {base : Nat} {sp : Nat → Bool} {held : Bool} {fuel : Nat} {cs : List Value} {x : DataW H × List MemPlace}
    (h : DataW.trod en Tryz.prog w base sp held fuel 53 cs = some x) : ∃ p : Int × Int, cs = [.int .i64 p.1, .int .i64 p.2] ∧ x = (edgeD p, []) := by
  obtain ⟨xs, n, -, rfl, hl, hxl, hf⟩ := DataW.trod_struct Tryz.underlying53 h
  rw [cellsE] at hl
  have h0 := hf 0 _ rfl
  have h1 := hf 1 _ rfl
  match cs, hl, xs, hxl with
  | [v0, v1], _, [x0, x1], _ =>
    have g0 : DataW.trod en Tryz.prog w base sp held n 3 [v0] = some x0 := by simpa [cellsI] using h0
    have g1 : DataW.trod en Tryz.prog w base sp held n 3 [v1] = some x1 := by simpa [cellsI] using h1
    obtain ⟨n0, e0, rfl, -⟩ := DataW.trod_int Tryz.underlying3 g0
    obtain ⟨n1, e1, rfl, -⟩ := DataW.trod_int Tryz.underlying3 g1
    simp only [List.cons.injEq, and_true] at e0 e1
    subst e0 e1
    exact ⟨(n0, n1), rfl, rfl⟩
theorem bulk_edges {H : Type} : ∀ l : List (DataW H), (∀ d ∈ l, ∃ p, d = edgeD p) → l.length ≤ Rows.uptoBulkAll l
  | [], _ => Nat.zero_le _
  | x :: r, h => by
    obtain ⟨a, rfl⟩ := h x (by simp)
    have := bulk_edges r (fun d hd => h d (by simp [hd]))
    simp only [Rows.uptoBulkAll, List.length_cons]
    have : 1 ≤ Rows.uptoBulk (edgeD (H := H) a) := by simp [edgeD, Rows.uptoBulk]
    omega

set_option maxRecDepth 100000 in
/-- A list of edges. -/
theorem open_edges {H : Type} {en : TypeId × Value → H} {w : World} {fuel : Nat} {v : Value} {x : DataW H × List MemPlace}
    (hf : DataW.trod en Tryz.prog w 0 (fun _ => true) true fuel 22 [v] = some x) (hk : Rows.uptoBulk x.1 ≤ 1048576) :
    ∃ es, EdgesOf w v es ∧ es.length ≤ 1048576 := by
  rcases DataW.trod_slice Tryz.underlying22 hf with ⟨hc, -⟩ | ⟨a, len, cap, elems, rest, n, -, hc, hx, -, hl, -, hlen, hel, -, -⟩
  · simp at hc
    subst hc
    exact ⟨[], ⟨none, 0, rfl, Nat.le_refl _, fun h => by simp at h⟩, by simp⟩
  · simp at hc
    subst hc
    subst hx
    have each : ∀ i, i < len → ∃ p : Int × Int, w.cells? 0 (a.add (i * 2)) 2 = some [.int .i64 p.1, .int .i64 p.2] ∧ elems[i]? = some (edgeD p, []) := by
      intro i hi
      have h1 := hel i hi
      rw [cellsE] at h1
      rw [List.getElem?_eq_getElem (by omega), Option.bind_eq_some_iff] at h1
      obtain ⟨cs, hcs, ht⟩ := h1
      obtain ⟨p, rfl, hx⟩ := open_edge ht
      exact ⟨p, hcs, by rw [List.getElem?_eq_getElem (by omega), hx]⟩
    obtain ⟨l, hll, hq⟩ := list_of_each len each
    have hall : ∀ y ∈ elems.map (·.1), ∃ p, y = edgeD p := by
      intro y hy
      obtain ⟨i, hi⟩ := List.getElem?_of_mem hy
      have hi' : i < l.length := by
        have := (List.getElem?_eq_some_iff.1 hi).1
        simp at this
        omega
      have := (hq i hi').2
      rw [List.getElem?_map, this] at hi
      simp at hi
      exact ⟨l[i], hi.symm⟩
    have hlen2 : l.length ≤ 1048576 := by
      have := bulk_edges (elems.map (·.1)) hall
      rw [List.length_map] at this
      simp only [Rows.uptoBulk] at hk
      omega
    refine ⟨l, ⟨some a, cap, by rw [hll], by omega, fun hp => ?_⟩, hlen2⟩
    have cell : ∀ (k : Nat) (h : k < l.length) (j : Nat), j < 2 → w.cell? ((a.add (k * 2)).add j) = ([.int .i64 l[k].1, .int .i64 l[k].2] : List Value)[j]? := fun k h j hj => (World.cells?_some (hq k h).1).2.2 j hj
    obtain ⟨b, off, spot⟩ := a
    have c0 : w.cell? ⟨b, off, spot⟩ = some (.int .i64 (l[0]'hp).1) := cell 0 hp 0 (by decide)
    have hspot : spot = none := by
      cases spot with
      | none => rfl
      | some q =>
        unfold World.cell? at c0
        split at c0 <;> simp at c0
    subst hspot
    refine ⟨b, off, rfl, ?_, ?_⟩
    · have : w.heap[b]? ≠ none := by
        intro hn
        unfold World.cell? at c0
        rw [hn] at c0
        simp at c0
      have := mt Array.getElem?_eq_none this
      omega
    · intro k h
      have hadd : ∀ j, ((⟨b, off, none⟩ : Addr).add (k * 2)).add j = ⟨b, off + k * 2 + j, none⟩ := by
        intro j
        unfold Addr.add
        repeat' split
        all_goals simp_all
      refine ⟨?_, ?_⟩
      · have := cell k h 0 (by decide); rw [hadd] at this; exact this
      · have := cell k h 1 (by decide); rw [hadd] at this; exact this

set_option maxRecDepth 100000 in
/-- SETTINGS THAT ARE HANDED IN. -/
theorem open_cfg {H : Type} {en : TypeId × Value → H} {w : World} {r : Reach} {b0 : Nat} {v : Value} {d : DataW H} {ps : List MemPlace}
    (hval : Value.okWide Tryz.prog w r b0 24 v) (hd : DataW.Trod en Tryz.prog w 0 (fun _ => true) true 24 v d ps) (hk : Rows.uptoBulk d ≤ 1048576) :
    ∃ (reps room : Int) (bp rr : Bool) (vE : Value) (es : List (Int × Int)), v = .agg #[.int .i64 reps, vE, .bool bp, .bool rr, .int .i64 room] ∧ EdgesOf w vE es ∧ es.length ≤ 1048576 := by
  have hag : ∃ cs, v = .agg cs := by
    unfold Value.okWide at hval
    rw [Tryz.underlying24] at hval
    obtain ⟨cs, rfl, _⟩ := hval
    exact ⟨cs, rfl⟩
  obtain ⟨ca, rfl⟩ := hag
  obtain ⟨fuel, hf⟩ := hd
  obtain ⟨xs, n, -, hx, hl, hxl, hfs⟩ := DataW.trod_struct Tryz.underlying24 hf
  rw [cellsC] at hl
  have h0 := hfs 0 _ rfl
  have h1 := hfs 1 _ rfl
  have h2 := hfs 2 _ rfl
  have h3 := hfs 3 _ rfl
  have h4 := hfs 4 _ rfl
  obtain ⟨cs⟩ := ca
  simp only [Value.cells] at hl h0 h1 h2 h3 h4
  match cs, hl, xs, hxl with
  | [v0, v1, v2, v3, v4], _, [x0, x1, x2, x3, x4], _ =>
    have g0 : DataW.trod en Tryz.prog w 0 (fun _ => true) true n 3 [v0] = some x0 := by simpa [cellsI] using h0
    have g1 : DataW.trod en Tryz.prog w 0 (fun _ => true) true n 22 [v1] = some x1 := by simpa [cellsSE] using h1
    have g2 : DataW.trod en Tryz.prog w 0 (fun _ => true) true n 4 [v2] = some x2 := by simpa [cellsB] using h2
    have g3 : DataW.trod en Tryz.prog w 0 (fun _ => true) true n 4 [v3] = some x3 := by simpa [cellsB] using h3
    have g4 : DataW.trod en Tryz.prog w 0 (fun _ => true) true n 3 [v4] = some x4 := by simpa [cellsI] using h4
    have hb1 : Rows.uptoBulk x1.1 ≤ 1048576 := by
      have hd : d = .agg ([x0, x1, x2, x3, x4].map (·.1)) := by
        have := congrArg Prod.fst hx
        exact this
      rw [hd] at hk
      simp only [Rows.uptoBulk, Rows.uptoBulkAll, List.map_cons, List.map_nil] at hk
      omega
    obtain ⟨n0, e0, -, -⟩ := DataW.trod_int Tryz.underlying3 g0
    obtain ⟨n2, e2, -⟩ := DataW.trod_bool Tryz.underlying4 g2
    obtain ⟨n3, e3, -⟩ := DataW.trod_bool Tryz.underlying4 g3
    obtain ⟨n4, e4, -, -⟩ := DataW.trod_int Tryz.underlying3 g4
    obtain ⟨es, he, hel⟩ := open_edges g1 hb1
    simp only [List.cons.injEq, and_true] at e0 e2 e3 e4
    subst e0 e2 e3 e4
    exact ⟨n0, n4, n2, n3, v1, es, rfl, he, hel⟩

/-- THE TABLE OF RULES, out of what the rows list. -/
theorem rules_of_laid2 {W : World} (h : laidMetH Tryz.prog [("ripple/state.steps", Rows.laid_ripple_state_steps), ("ripple/state.rules", Rows.laid_ripple_state_rules)] W) : RulesAt W := by
  have h' : laidMet Tryz.prog [("ripple/state.steps", Rows.laid_ripple_state_steps), ("ripple/state.rules", Rows.laid_ripple_state_rules)] W := h
  obtain ⟨ps, ⟨g, t, cs, fuel, p, q, hg, ht, hvar, hd, hrest, rfl⟩, hnd, hall⟩ := h'
  refine rules_of_laid (show laidMet Tryz.prog [("ripple/state.rules", Rows.laid_ripple_state_rules)] W from ⟨q, hrest, (List.nodup_append.1 hnd).2.1, fun b off hm => hall b off (List.mem_append.2 (.inr hm))⟩)
end Go.Proofs.YtahdlejgjcjeoaaGreatDoor

namespace Go.Proofs.YtahdlejgjcjeoaaGreatDoor
open Go.Shelf

def sortAtoms_ren : Go.Shelf.Ren := ⟨fun | 6 => 104 | 15 => 161 | 14 => 160 | 28 => 201 | 29 => 202 | 20 => 193 | 21 => 194 | 22 => 195 | 23 => 196 | 24 => 197 | 25 => 198 | 26 => 199 | 27 => 200 | 46 => 215 | 47 => 216 | 48 => 217 | 49 => 218 | 50 => 219 | 57 => 234 | n => n, fun | 22 => 56 | 24 => 77 | 25 => 177 | 3 => 3 | 39 => 227 | 0 => 0 | 53 => 106 | 55 => 261 | 4 => 4 | 46 => 253 | 45 => 252 | 50 => 257 | 5 => 5 | 9 => 9 | 66 => 275 | 70 => 279 | 76 => 289 | 77 => 290 | n => n, fun | n => n⟩

theorem sortAtoms : Go.Proofs.SlLaysF0.n6 Tryz.prog sortAtoms_ren := {
  mixed := by kernel_rfl,
  f6 := ⟨Tryz.f104.name, by decide, Tryz.func104.trans (congrArg some (by kernel_rfl))⟩,
  f14 := ⟨Tryz.f160.name, by decide, Tryz.func160.trans (congrArg some (by kernel_rfl))⟩,
  f15 := Tryz.func161.trans (congrArg some (by kernel_rfl)),
  f20 := ⟨Tryz.f193.name, by decide, Tryz.func193.trans (congrArg some (by kernel_rfl))⟩,
  f21 := ⟨Tryz.f194.name, by decide, Tryz.func194.trans (congrArg some (by kernel_rfl))⟩,
  f22 := ⟨Tryz.f195.name, by decide, Tryz.func195.trans (congrArg some (by kernel_rfl))⟩,
  f23 := ⟨Tryz.f196.name, by decide, Tryz.func196.trans (congrArg some (by kernel_rfl))⟩,
  f24 := ⟨Tryz.f197.name, by decide, Tryz.func197.trans (congrArg some (by kernel_rfl))⟩,
  f25 := ⟨Tryz.f198.name, by decide, Tryz.func198.trans (congrArg some (by kernel_rfl))⟩,
  f26 := ⟨Tryz.f199.name, by decide, Tryz.func199.trans (congrArg some (by kernel_rfl))⟩,
  f27 := ⟨Tryz.f200.name, by decide, Tryz.func200.trans (congrArg some (by kernel_rfl))⟩,
  f28 := Tryz.func201.trans (congrArg some (by kernel_rfl)),
  f29 := Tryz.func202.trans (congrArg some (by kernel_rfl)),
  f46 := ⟨Tryz.f215.name, by decide, Tryz.func215.trans (congrArg some (by kernel_rfl))⟩,
  f47 := Tryz.func216.trans (congrArg some (by kernel_rfl)),
  f48 := Tryz.func217.trans (congrArg some (by kernel_rfl)),
  f49 := ⟨Tryz.f218.name, by decide, Tryz.func218.trans (congrArg some (by kernel_rfl))⟩,
  f50 := ⟨Tryz.f219.name, by decide, Tryz.func219.trans (congrArg some (by kernel_rfl))⟩,
  f57 := ⟨Tryz.f234.name, by decide, Tryz.func234.trans (congrArg some (by kernel_rfl))⟩,
  t0 := Tryz.underlying0,
  a0 := Tryz.isAgg0,
  z0 := Tryz.sizeOf0,
  v0 := Tryz.zeroValue0,
  t3 := Tryz.underlying3,
  a3 := Tryz.isAgg3,
  z3 := Tryz.sizeOf3,
  v3 := Tryz.zeroValue3,
  t4 := Tryz.underlying4,
  a4 := Tryz.isAgg4,
  z4 := Tryz.sizeOf4,
  v4 := Tryz.zeroValue4,
  t5 := Tryz.underlying5,
  a5 := Tryz.isAgg5,
  z5 := Tryz.sizeOf5,
  v5 := Tryz.zeroValue5,
  t9 := Tryz.underlying9,
  a9 := Tryz.isAgg9,
  z9 := Tryz.sizeOf9,
  v9 := Tryz.zeroValue9,
  t22 := Tryz.underlying56,
  a22 := Tryz.isAgg56,
  z22 := Tryz.sizeOf56,
  v22 := Tryz.zeroValue56,
  t25 := Tryz.underlying177,
  a25 := Tryz.isAgg177,
  z25 := Tryz.sizeOf177,
  v25 := Tryz.zeroValue177,
  t39 := Tryz.underlying227,
  a39 := Tryz.isAgg227,
  z39 := Tryz.sizeOf227,
  v39 := Tryz.zeroValue227,
  t45 := Tryz.underlying252,
  a45 := Tryz.isAgg252,
  z45 := Tryz.sizeOf252,
  v45 := Tryz.zeroValue252,
  t46 := Tryz.underlying253,
  a46 := Tryz.isAgg253,
  z46 := Tryz.sizeOf253,
  v46 := Tryz.zeroValue253,
  t50 := Tryz.underlying257,
  a50 := Tryz.isAgg257,
  z50 := Tryz.sizeOf257,
  v50 := Tryz.zeroValue257,
  t53 := Tryz.underlying106,
  a53 := Tryz.isAgg106,
  z53 := Tryz.sizeOf106,
  v53 := Tryz.zeroValue106,
  t55 := Tryz.underlying261,
  a55 := Tryz.isAgg261,
  z55 := Tryz.sizeOf261,
  v55 := Tryz.zeroValue261,
  t66 := Tryz.underlying275,
  a66 := Tryz.isAgg275,
  z66 := Tryz.sizeOf275,
  v66 := Tryz.zeroValue275,
  t70 := Tryz.underlying279,
  a70 := Tryz.isAgg279,
  z70 := Tryz.sizeOf279,
  v70 := Tryz.zeroValue279,
  t76 := Tryz.underlying289,
  a76 := Tryz.isAgg289,
  z76 := Tryz.sizeOf289,
  v76 := Tryz.zeroValue289,
  t77 := Tryz.underlying290,
  a77 := Tryz.isAgg290,
  z77 := Tryz.sizeOf290,
  v77 := Tryz.zeroValue290 }

end Go.Proofs.YtahdlejgjcjeoaaGreatDoor

namespace Go.Proofs.YtahdlejgjcjeoaaGreatDoor
open Go.RowKit

theorem cb_range : ∀ l r, Lib.compareBytes l r = -1 ∨ Lib.compareBytes l r = 0 ∨ Lib.compareBytes l r = 1
  | [], [] => by simp [Lib.compareBytes]
  | [], _ :: _ => by simp [Lib.compareBytes]
  | _ :: _, [] => by simp [Lib.compareBytes]
  | a :: l, b :: r => by
    have := cb_range l r
    simp only [Lib.compareBytes]
    split
    · simp
    · split
      · simp
      · exact this
theorem bytesLess_cb : ∀ l r, Op.bytesLess l r = decide (Lib.compareBytes l r < 0)
  | [], [] => by simp [Op.bytesLess, Lib.compareBytes]
  | [], _ :: _ => by simp [Op.bytesLess, Lib.compareBytes]
  | _ :: _, [] => by simp [Op.bytesLess, Lib.compareBytes]
  | a :: l, b :: r => by
    have ih := bytesLess_cb l r
    simp only [Op.bytesLess, Lib.compareBytes, ih]
    by_cases h : a < b
    · simp [h]
    · by_cases h2 : b < a
      · have : ¬ a = b := fun e => h (e ▸ h2)
        simp [h, h2, this]
      · have : a = b := UInt8.toNat_inj.1 (by rw [UInt8.lt_iff_toNat_lt] at h h2; omega)
        simp [this]
theorem lessS (x y : ByteArray) : Op.bytesLess x.toList y.toList = decide (ordS x y < 0) := by
  rw [ByteArray.toList_eq, ByteArray.toList_eq, bytesLess_cb]; rfl
theorem sameS (x y : ByteArray) : (x.toList == y.toList) = decide (ordS x y = 0) := by
  rw [ByteArray.toList_eq, ByteArray.toList_eq, Bool.eq_iff_iff, beq_iff_eq, decide_eq_true_eq]
  exact (cb_zero _ _).symm
theorem ordS_range (x y : ByteArray) : ordS x y = -1 ∨ ordS x y = 0 ∨ ordS x y = 1 := cb_range _ _

set_option maxHeartbeats 400000 in
theorem isNaN_int (x : Int) (w : World) :
    Calls Tryz.prog 203 #[.int .i64 x] w fun e w' => e = .returned (.bool false) ∧ w' = w := by
  go_enter Tryz.func203, Tryz.ntmps203
  go_wp2
  go_ret
  exact ⟨ret_bool (by simp), rfl⟩
set_option maxHeartbeats 400000 in
theorem isNaN_string (x : ByteArray) (w : World) :
    Calls Tryz.prog 204 #[.string x] w fun e w' => e = .returned (.bool false) ∧ w' = w := by
  go_enter Tryz.func204, Tryz.ntmps204
  go_wp2
  go_ret
  exact ⟨ret_bool (by simp), rfl⟩
set_option maxHeartbeats 1000000 in
theorem compare_int (x y : Int) (w : World) :
    Calls Tryz.prog 163 #[.int .i64 x, .int .i64 y] w fun e w' => e = .returned (.int .i64 (ci x y)) ∧ w' = w := by
  go_enter Tryz.func163, Tryz.ntmps163
  go_wp2_with (go_at_call 203; refine (isNaN_int _ _).mono ?_; rintro e w' ⟨rfl, rfl⟩)
  all_goals go_ret
  all_goals exact ⟨ret_int (by simp only [ci, sgn]; split <;> (try split) <;> omega), rfl⟩
set_option maxHeartbeats 1000000 in
theorem compare_string (x y : ByteArray) (w : World) :
    Calls Tryz.prog 164 #[.string x, .string y] w fun e w' => e = .returned (.int .i64 (ordS x y)) ∧ w' = w := by
  go_enter Tryz.func164, Tryz.ntmps164
  go_wp2_with (go_at_call 204; refine (isNaN_string _ _).mono ?_; rintro e w' ⟨rfl, rfl⟩)
  all_goals go_ret
  all_goals go_light
  all_goals refine ⟨ret_int ?_, rfl⟩
  all_goals have hr := ordS_range x y
  all_goals simp only [lessS, sameS, decide_eq_true_eq, decide_eq_false_iff_not, Bool.not_eq_true', Bool.not_eq_false'] at *
  all_goals omega

/-- The first that is not nought. -/
def orI : List Int → Int
  | [] => 0
  | x :: r => if x ≠ 0 then x else orI r
theorem orI_skip (l : List Int) : ∀ k, k ≤ l.length → (∀ j, (h : j < l.length) → j < k → l[j] = 0) → orI l = orI (l.drop k) := by
  intro k
  induction k generalizing l with
  | zero => intros; simp
  | succ k ih =>
    intro hk h
    cases l with
    | nil => simp at hk
    | cons x l =>
      have h0 : x = 0 := h 0 (by simp) (by omega)
      simp only [orI, h0, List.drop_succ_cons]
      simp
      exact ih l (by simpa using hk) (fun j hj hjk => by have := h (j + 1) (by simpa using hj) (by omega); simpa using this)
theorem orI_hit (l : List Int) (k : Nat) (hk : k < l.length) (h : ∀ j, (h : j < l.length) → j < k → l[j] = 0) (hn : l[k] ≠ 0) : orI l = l[k] := by
  rw [orI_skip l k (by omega) h, List.drop_eq_getElem_cons hk]
  simp [orI, hn]

set_option maxHeartbeats 1000000 in
theorem or_any (b cap : Nat) (l : List Int) (w : World) (hrow : ∀ k, (h : k < l.length) → w.cell? ⟨b, k, none⟩ = some (.int .i64 l[k])) (_hcap : l.length ≤ cap) (hlen : l.length ≤ 1000) :
    Calls Tryz.prog 162 #[.slice (some ⟨b, 0, none⟩) l.length cap] w fun e w' => e = .returned (.int .i64 (orI l)) ∧ w' = w := by
  have HR : Hid (∀ k, (h : k < l.length) → w.cell? ⟨b, k, none⟩ = some (.int .i64 l[k])) := hrow
  clear hrow
  go_enter Tryz.func162, Tryz.ntmps162
  go_wp2
  go_loopw [8] (fun i wr => ∃ k : Nat, k ≤ l.length ∧ i = .int .i64 k ∧ Hid (∀ j, (h : j < l.length) → j < k → l[j] = 0) ∧ wr = w) (fun i _ => l.length - (intOf i).toNat)
  case atStart => exact ⟨0, Nat.zero_le _, rfl, fun _ _ h => by omega, rfl⟩
  case round =>
    obtain ⟨k, hk, rfl, ht, rfl⟩ := hrel
    by_cases hl : k < l.length
    · have hc := HR.out k hl
      have HH : Hid (l[k] ≠ 0 → orI l = l[k]) := fun hn => orI_hit l k hl ht.out hn
      by_cases hz : l[k] = 0
      · rw [hz] at hc
        have HT : Hid (∀ j, (h : j < l.length) → j < k + 1 → l[j] = 0) := fun j hj hjk => by
          by_cases e : j = k
          · subst e; exact hz
          · exact ht.out j hj (by omega)
        clear hz HH
        go_wp2
        go_roundw
        case rel => exact ⟨k + 1, by omega, by go_num, HT, trivial⟩
        case measure => simp [intOf]; omega
      · have HE : Hid (orI l = l[k]) := HH.out hz
        clear HH
        generalize l[k] = x at *
        have hnx : (x != 0) = true := by simp [hz]
        clear hz
        go_wp2
        go_ret
        exact ⟨ret_int HE.out.symm, rfl⟩
    · have HE : Hid (orI l = 0) := by
        have := orI_skip l k hk ht.out
        rw [List.drop_of_length_le (by omega)] at this
        exact this
      go_wp2
      go_ret
      exact ⟨ret_int HE.out.symm, rfl⟩
end Go.Proofs.YtahdlejgjcjeoaaGreatDoor

namespace Go.Proofs.YtahdlejgjcjeoaaGreatDoor
open Go.RowKit

theorem row_new (W : World) (l : List Int) (T : TypeId) (B : Nat) (hB : B = W.heap.size) : ∀ k, (h : k < l.length) → (W.alloc (.cells (l.map (Value.int .i64)).toArray T)).drew.cell? ⟨B, k, none⟩ = some (.int .i64 l[k]) := by
  intro k hk
  subst hB
  have hb : (W.alloc (.cells (l.map (Value.int .i64)).toArray T)).drew.heap[W.heap.size]? = some (.cells (l.map (Value.int .i64)).toArray T) := heap_alloc_new W _
  rw [cell_of_row _ _ _ _ _ _ hb]
  simp [hk]

theorem three_alloc (w : World) (a b c : Obj) : (((w.alloc a).alloc b).alloc c).drew = Go.Sort.grow (w.drewN 1) #[a, b, c] := by
  rw [Go.Sort.alloc_eq_grow, Go.Sort.alloc_eq_grow, Go.Sort.alloc_eq_grow, Go.Sort.grow_grow, Go.Sort.grow_grow]; rfl

theorem gcmp_or (g h : Gr) : gcmp g h = orI [ci g.n h.n, ci g.who h.who, ordS g.elem h.elem] := by
  simp only [gcmp, orI]
  split <;> (try split) <;> (try split) <;> simp_all

set_option maxRecDepth 100000 in
set_option maxHeartbeats 1000000 in
theorem compareGrades_any (g h : Gr) (w : World) :
    Calls Tryz.prog 192 #[g.val, h.val] w fun e w' => e = .returned (.int .i64 (gcmp g h)) ∧ Below w.heap.size w w' := by
  have HG : Hid (gcmp g h = orI [ci g.n h.n, ci g.who h.who, ordS g.elem h.elem]) := gcmp_or g h
  unfold Gr.val
  go_enter Tryz.func192, Tryz.ntmps192
  go_wp2
  go_region_held3 (fun w' => w'.cell? ⟨w.heap.size, 0, none⟩ = some (.int .i64 g.n) ∧ w'.cell? ⟨w.heap.size, 1, none⟩ = some (.int .i64 g.who) ∧ w'.cell? ⟨w.heap.size, 2, none⟩ = some (.string g.elem) ∧ w'.cell? ⟨w.heap.size + 1, 0, none⟩ = some (.int .i64 h.n) ∧ w'.cell? ⟨w.heap.size + 1, 1, none⟩ = some (.int .i64 h.who) ∧ w'.cell? ⟨w.heap.size + 1, 2, none⟩ = some (.string h.elem)) (go_keep) (first | (go_at_call 163; refine (compare_int _ _ _).mono ?_; rintro e w1 ⟨rfl, rfl⟩) | (go_at_call 164; refine (compare_string _ _ _).mono ?_; rintro e w1 ⟨rfl, rfl⟩) | (go_at_call 162; refine (or_any _ 3 [ci g.n h.n, ci g.who h.who, ordS g.elem h.elem] _ (by exact row_new _ [ci g.n h.n, ci g.who h.who, ordS g.elem h.elem] _ _ (by simp)) (by simp) (by simp)).mono ?_; rintro e w1 ⟨rfl, rfl⟩))
  go_wp2
  go_ret
  refine ⟨ret_int HG.out.symm, ?_⟩
  repeat (first | exact Below.refl _ _ | refine below_drewN ?_ _ | refine Below.drew ?_ | refine below_alloc ?_ _)

def acmp (a b : At) : Int := orI [ci a.ty b.ty, ordS a.key b.key, ci a.side b.side, ci a.who b.who, ordS a.elem b.elem]

open Go.Sort in
set_option maxRecDepth 100000 in
set_option maxHeartbeats 1000000 in
theorem compareAtoms_any (g h : At) (w : World) :
    Calls Tryz.prog 105 #[g.val, h.val] w fun e w' => e = .returned (.int .i64 (acmp g h)) ∧ ∃ q os, w' = grow (w.drewN q) os := by
  unfold At.val acmp
  go_enter Tryz.func105, Tryz.ntmps105
  go_wp2
  go_region_held3 (fun w' => w'.cell? ⟨w.heap.size, 0, none⟩ = some (.int .i64 g.ty) ∧ w'.cell? ⟨w.heap.size, 1, none⟩ = some (.string g.key) ∧ w'.cell? ⟨w.heap.size, 2, none⟩ = some (.int .i64 g.side) ∧ w'.cell? ⟨w.heap.size, 3, none⟩ = some (.int .i64 g.who) ∧ w'.cell? ⟨w.heap.size, 4, none⟩ = some (.string g.elem) ∧ w'.cell? ⟨w.heap.size + 1, 0, none⟩ = some (.int .i64 h.ty) ∧ w'.cell? ⟨w.heap.size + 1, 1, none⟩ = some (.string h.key) ∧ w'.cell? ⟨w.heap.size + 1, 2, none⟩ = some (.int .i64 h.side) ∧ w'.cell? ⟨w.heap.size + 1, 3, none⟩ = some (.int .i64 h.who) ∧ w'.cell? ⟨w.heap.size + 1, 4, none⟩ = some (.string h.elem)) (go_keep) (first | (go_at_call 163; refine (compare_int _ _ _).mono ?_; rintro e w1 ⟨rfl, rfl⟩) | (go_at_call 164; refine (compare_string _ _ _).mono ?_; rintro e w1 ⟨rfl, rfl⟩) | (go_at_call 162; refine (or_any _ 5 [ci g.ty h.ty, ordS g.key h.key, ci g.side h.side, ci g.who h.who, ordS g.elem h.elem] _ (by exact row_new _ [ci g.ty h.ty, ordS g.key h.key, ci g.side h.side, ci g.who h.who, ordS g.elem h.elem] _ _ (by simp)) (by simp) (by simp)).mono ?_; rintro e w1 ⟨rfl, rfl⟩))
  go_wp2
  go_ret
  exact ⟨rfl, 1, _, three_alloc w _ _ _⟩
end Go.Proofs.YtahdlejgjcjeoaaGreatDoor

namespace Go.Proofs.YtahdlejgjcjeoaaGreatDoor
open Go.RowKit Go.Sort

theorem acmp_eq (a b : At) : acmp a b = scmp ⟨a.ty, a.key, a.side, a.who, a.elem⟩ ⟨b.ty, b.key, b.side, b.who, b.elem⟩ := by
  simp only [acmp, scmp, orI]
  split <;> (try split) <;> (try split) <;> (try split) <;> (try split) <;> simp_all
theorem acmp_tp : TP acmp := by
  have : acmp = fun a b : At => scmp ((fun a : At => (⟨a.ty, a.key, a.side, a.who, a.elem⟩ : Sl)) a) ((fun a : At => (⟨a.ty, a.key, a.side, a.who, a.elem⟩ : Sl)) b) := by funext a b; exact acmp_eq a b
  rw [this]; exact scmp_tp.comap _
theorem acmp_swo : SWO (ltOf acmp) where
  irrefl x := by simp [ltOf, acmp_tp.refl]
  trans x y z h1 h2 := by
    simp only [ltOf, decide_eq_true_eq] at *
    exact acmp_tp.lt_le h1 (by omega)
  ntrans x y z h1 h2 := by
    simp only [ltOf, decide_eq_false_iff_not] at *
    have e1 := acmp_tp.anti x y
    have e2 := acmp_tp.anti y z
    have e3 := acmp_tp.anti x z
    have := acmp_tp.trans z y x (by omega) (by omega)
    omega
/-- Where the slots part the program's order is the document's. -/
theorem acmp_plc (a b : At) (h : plc a b ≠ 0) : acmp a b = plc a b := by
  rw [acmp_eq, plc_eq] at *
  by_cases ht : a.ty = b.ty
  · by_cases h5 : a.ty = 5
    · have h5b : b.ty = 5 := by omega
      have e0 : ∀ x, ci x x = 0 := fun x => (ci_zero x x).2 rfl
      have z0 : ∀ x, ordS x x = 0 := fun x => (ordS_zero x x).2 rfl
      simp only [slot, h5, h5b, if_true, scmp, e0, z0] at h ⊢
      simp only [ne_eq, not_true_eq_false, if_false] at h ⊢
      split at h
      · rename_i hk; rw [if_pos hk, if_pos hk]
      · exact absurd rfl h
    · have h5b : ¬ b.ty = 5 := by omega
      simp only [slot, h5, h5b, if_false]
  · have hc : ci a.ty b.ty ≠ 0 := by rw [Ne, ci_zero]; exact ht
    simp only [scmp, slot_ty]
    rw [if_pos hc, if_pos hc]

abbrev inhAt : Inhabited At := ⟨zAt⟩

theorem flatK_eq (C : List At) : @flatK At inhAt enc 6 C.toArray = (flat C).toArray := by
  letI := inhAt
  apply Array.ext
  · simp [flat_length]
  · intro t h1 h2
    have ht : t < C.length * 6 := by simpa using h1
    have hk : t / 6 < C.length := by omega
    have hg := flat_get C (t / 6) (t % 6) hk (Nat.mod_lt _ (by decide))
    rw [show t / 6 * 6 + t % 6 = t by omega] at hg
    have e1 : (flatK enc 6 C.toArray)[t]! = (enc C.toArray[t / 6]!)[t % 6]! := get_flatK enc 6 C.toArray t (by simpa using ht)
    have e2 : C.toArray[t / 6]! = C[t / 6] := by simp [hk]
    rw [e2] at e1
    have e3 : (flatK enc 6 C.toArray)[t]! = (flatK enc 6 C.toArray)[t] := getElem!_pos _ t h1
    rw [← e3, e1]
    have hl : t % 6 < (enc C[t / 6]).length := by show t % 6 < 6; omega
    rw [List.getElem?_eq_getElem hl, List.getElem?_eq_some_iff] at hg
    obtain ⟨hh, hg⟩ := hg
    rw [getElem!_pos (enc C[t / 6]) (t % 6) hl, ← hg]
    simp

theorem holdsK_of_block {w : World} {g : Nat} {cur : Array Value} {e : TypeId} {C : List At} (hb : w.heap[g]? = some (.cells cur e (0, 0))) (ht : cur.toList.take (C.length * 6) = flat C) : @HoldsK At inhAt enc 6 w g 0 C.toArray := by
  letI := inhAt
  unfold HoldsK
  rw [flatK_eq]
  intro j hj
  have hj' : j < (flat C).length := by simpa using hj
  refine ⟨?_, by simp [World.frozen?, hb]⟩
  have hl := flat_length C
  have h1 : (cur.toList.take (C.length * 6))[j]? = (flat C)[j]? := by rw [ht]
  rw [List.getElem?_take_of_lt (by omega)] at h1
  simp only [World.cell?, hb, Nat.zero_add]
  simp only [Option.isSome_none, Bool.false_eq_true, if_false]
  rw [← Array.getElem?_toList, h1]
  simp [hj']

theorem heap_sortedK {w : World} {g n : Nat} {os : Array Obj} {cur : Array Value} {e : TypeId} (F : Array Value) (hb : w.heap[g]? = some (.cells cur e (0, 0))) :
    (grow (putRow id (Sort.ahead w n) g 0 F) os).heap[g]? = some (.cells (putCells id 0 F cur) e (0, 0)) := by
  have hlt := (Array.getElem?_eq_some_iff.1 hb).1
  rw [heap_grow_old _ _ (by simpa using hlt)]
  simp [putRow, mapBlock, Sort.ahead, Array.getElem?_modify, hb, onCells]
theorem grownBy_sortedK {w : World} {g n : Nat} {os : Array Obj} (F : Array Value) : w.grownBy (grow (putRow id (Sort.ahead w n) g 0 F) os) (some g) := by
  refine ⟨rfl, rfl, rfl, by simp, fun k hk hne => ?_⟩
  rw [heap_grow_old _ _ (by simpa using hk)]
  have : g ≠ k := fun e => hne (by rw [e])
  simp [putRow, mapBlock, Sort.ahead, Array.getElem?_modify, this]
theorem take_putCellsK (cur : Array Value) (F : List Value) (h : F.length ≤ cur.size) : (putCells id 0 F.toArray cur).toList.take F.length = F := by
  apply List.ext_getElem?
  intro j
  by_cases hj : j < F.length
  · rw [List.getElem?_take_of_lt hj, Array.getElem?_toList]
    simp [putCells, hj, show j < cur.size by omega]
  · rw [List.getElem?_take_eq_none (by omega), List.getElem?_eq_none (by omega)]

theorem cmpLays (blk off size : Nat) (w : World) : @CmpLays At inhAt Tryz.prog 105 #[] enc 6 acmp blk off size w :=
  fun _ _ _ _ x y => compareAtoms_any x y _

/-- SortFunc, on a row of the call's own: a permutation, sorted by the program's order; nothing else has turned. -/
theorem sort_any (base g cap : Nat) (C : List At) (w : World) (hown : w.ownsRow base 77 6 (.slice (some ⟨g, 0, none⟩) C.length cap) C.length (flat C)) (hlen : C.length < 4611686018427387904) :
    Calls Tryz.prog 104 #[.slice (some ⟨g, 0, none⟩) C.length cap, .func (.func 105) #[] #[]] w fun e w' =>
      e = .returned (.tuple #[]) ∧ ∃ C' : List At, C'.Perm C ∧ C'.Pairwise (fun x y => 0 ≤ acmp y x) ∧ w'.ownsRow base 77 6 (.slice (some ⟨g, 0, none⟩) C.length cap) C.length (flat C') ∧ w.grownBy w' (some g) := by
  letI := inhAt
  rcases hown.2 with ⟨h0, _⟩ | ⟨g', cap', cur, hv, hbase, hb, h1, h2, h3, h4⟩
  · cases h0
  cases hv
  have eg : ∀ args w, (callFunc 105 args).run Tryz.prog w = .ok (.enter 105 args) w := enters_of Tryz.func105 (by kernel_rfl) rfl
  have hH := holdsK_of_block hb h4
  have hcon := AnyQ.slices_SortFunc sortAtoms 6 Tryz.isAgg77 Tryz.sizeOf77 enc (fun _ => rfl) enc_oneCell acmp acmp_swo 105 #[] g 0 cap C.toArray w eg (cmpLays g 0 C.toArray.size w) hH (Array.getElem?_eq_some_iff.1 hb).1 (by simpa using hlen)
  rw [show C.toArray.size = C.length from rfl] at hcon
  refine Calls.mono (show Calls Tryz.prog 104 _ _ _ from hcon) ?_
  rintro e w' ⟨rfl, d', n, os, hp, hs, rfl⟩
  obtain ⟨hsize, _, hperm⟩ := hp
  have hperm' : d'.toList.Perm C := by
    have e1 : (d'.extract 0 C.length).toList = d'.toList := by rw [← show d'.size = C.length from hsize]; simp
    have e2 : (C.toArray.extract 0 C.length).toList = C := by simp
    rw [e1, e2] at hperm
    exact hperm
  have hlen' : d'.toList.length = C.length := hperm'.length_eq
  refine ⟨rfl, d'.toList, hperm', ?_, ?_, ?_⟩
  · rw [List.pairwise_iff_getElem]
    intro i j hi hj hij
    have := hs i j (Nat.zero_le _) hij (by omega)
    simp only [ltOf, decide_eq_false_iff_not] at this
    have e1 : d'[j]! = d'.toList[j] := by rw [getElem!_pos d' j (by simpa using hj)]; simp
    have e2 : d'[i]! = d'.toList[i] := by rw [getElem!_pos d' i (by simpa using hi)]; simp
    rw [e1, e2] at this
    omega
  · have hF : flatK enc 6 d' = (flat d'.toList).toArray := by have := flatK_eq d'.toList; simpa using this
    have hfl := flat_length d'.toList
    unfold sortWorldK putRowK
    rw [hF]
    refine ⟨by rw [hfl, hlen'], .inr ⟨g, cap, _, rfl, hbase, heap_sortedK _ hb, h1, h2, by simp [putCells, h3], ?_⟩⟩
    have := take_putCellsK cur (flat d'.toList) (by rw [hfl, hlen', h3]; exact Nat.mul_le_mul_right _ h1)
    rw [hfl, hlen'] at this
    exact this
  · exact grownBy_sortedK _
end Go.Proofs.YtahdlejgjcjeoaaGreatDoor

namespace Go.Proofs.YtahdlejgjcjeoaaGreatDoor
open Go.RowKit

set_option maxHeartbeats 2000000 in
theorem mayBe_any (a : At) (w : World) (h : RulesAt w) (ha : short a) :
    Calls Tryz.prog 212 #[a.val] w fun e w' => e = .returned (.bool (mayB a)) ∧ Below w.heap.size w w' := by
  obtain ⟨ty, key, side, who, elem, n⟩ := a
  simp only [short] at ha
  obtain ⟨hk, he⟩ := ha
  obtain ⟨h0, r1, r2, r3, r4, r5⟩ := h
  unfold At.val
  simp only
  by_cases ht : 1 ≤ ty ∧ ty ≤ 5
  · have hwt : wi ty 1 5 = true := (wi_iff _ _ _).2 ht
    rcases kinds5 ht.1 ht.2 with rfl | rfl | rfl | rfl | rfl
    · obtain ⟨c0, c1, c2, c3, c4, c5⟩ := r1
      clear r2 r3 r4 r5
      go_enter Tryz.func212, Tryz.ntmps212
      go_wp2_with (first | (go_at_call 140; refine (isType_any _ _).mono ?_; rintro e w' ⟨rfl, rfl⟩) | (go_at_call 180; refine (within_any _ _ _ _).mono ?_; rintro e w' ⟨rfl, rfl⟩))
      all_goals go_ret
      all_goals go_light
      all_goals refine ⟨ret_bool ?_, by repeat (first | exact Below.refl _ _ | refine below_drewN ?_ _ | refine Below.setCell ?_ (by simp) _ | refine Below.alloc ?_ (by simp) _)⟩
      all_goals clear c0 c1 c2 c3 c4 c5
      all_goals rw [Bool.eq_iff_iff]
      all_goals simp only [mayB, decide_eq_true_eq, Bool.false_eq_true, wi_iff, false_iff] at *
      all_goals first | omega | (simp_all; done) | (simp_all; omega) | (simp_all; refine ⟨fun hq => ⟨by omega, by omega, by omega, hq⟩, fun hq => hq.2.2.2⟩)
    · obtain ⟨c0, c1, c2, c3, c4, c5⟩ := r2
      clear r1 r3 r4 r5
      go_enter Tryz.func212, Tryz.ntmps212
      go_wp2_with (first | (go_at_call 140; refine (isType_any _ _).mono ?_; rintro e w' ⟨rfl, rfl⟩) | (go_at_call 180; refine (within_any _ _ _ _).mono ?_; rintro e w' ⟨rfl, rfl⟩))
      all_goals go_ret
      all_goals go_light
      all_goals refine ⟨ret_bool ?_, by repeat (first | exact Below.refl _ _ | refine below_drewN ?_ _ | refine Below.setCell ?_ (by simp) _ | refine Below.alloc ?_ (by simp) _)⟩
      all_goals clear c0 c1 c2 c3 c4 c5
      all_goals rw [Bool.eq_iff_iff]
      all_goals simp only [mayB, decide_eq_true_eq, Bool.false_eq_true, wi_iff, false_iff] at *
      all_goals first | omega | (simp_all; done) | (simp_all; omega) | (simp_all; refine ⟨fun hq => ⟨by omega, by omega, by omega, hq⟩, fun hq => hq.2.2.2⟩)
    · obtain ⟨c0, c1, c2, c3, c4, c5⟩ := r3
      clear r1 r2 r4 r5
      go_enter Tryz.func212, Tryz.ntmps212
      go_wp2_with (first | (go_at_call 140; refine (isType_any _ _).mono ?_; rintro e w' ⟨rfl, rfl⟩) | (go_at_call 180; refine (within_any _ _ _ _).mono ?_; rintro e w' ⟨rfl, rfl⟩))
      all_goals go_ret
      all_goals go_light
      all_goals refine ⟨ret_bool ?_, by repeat (first | exact Below.refl _ _ | refine below_drewN ?_ _ | refine Below.setCell ?_ (by simp) _ | refine Below.alloc ?_ (by simp) _)⟩
      all_goals clear c0 c1 c2 c3 c4 c5
      all_goals rw [Bool.eq_iff_iff]
      all_goals simp only [mayB, decide_eq_true_eq, Bool.false_eq_true, wi_iff, false_iff] at *
      all_goals first | omega | (simp_all; done) | (simp_all; omega) | (simp_all; refine ⟨fun hq => ⟨by omega, by omega, by omega, hq⟩, fun hq => hq.2.2.2⟩)
    · obtain ⟨c0, c1, c2, c3, c4, c5⟩ := r4
      clear r1 r2 r3 r5
      go_enter Tryz.func212, Tryz.ntmps212
      go_wp2_with (first | (go_at_call 140; refine (isType_any _ _).mono ?_; rintro e w' ⟨rfl, rfl⟩) | (go_at_call 180; refine (within_any _ _ _ _).mono ?_; rintro e w' ⟨rfl, rfl⟩))
      all_goals go_ret
      all_goals go_light
      all_goals refine ⟨ret_bool ?_, by repeat (first | exact Below.refl _ _ | refine below_drewN ?_ _ | refine Below.setCell ?_ (by simp) _ | refine Below.alloc ?_ (by simp) _)⟩
      all_goals clear c0 c1 c2 c3 c4 c5
      all_goals rw [Bool.eq_iff_iff]
      all_goals simp only [mayB, decide_eq_true_eq, Bool.false_eq_true, wi_iff, false_iff] at *
      all_goals first | omega | (simp_all; done) | (simp_all; omega) | (simp_all; refine ⟨fun hq => ⟨by omega, by omega, by omega, hq⟩, fun hq => hq.2.2.2⟩)
    · obtain ⟨c0, c1, c2, c3, c4, c5⟩ := r5
      clear r1 r2 r3 r4
      go_enter Tryz.func212, Tryz.ntmps212
      go_wp2_with (first | (go_at_call 140; refine (isType_any _ _).mono ?_; rintro e w' ⟨rfl, rfl⟩) | (go_at_call 180; refine (within_any _ _ _ _).mono ?_; rintro e w' ⟨rfl, rfl⟩))
      all_goals go_ret
      all_goals go_light
      all_goals refine ⟨ret_bool ?_, by repeat (first | exact Below.refl _ _ | refine below_drewN ?_ _ | refine Below.setCell ?_ (by simp) _ | refine Below.alloc ?_ (by simp) _)⟩
      all_goals clear c0 c1 c2 c3 c4 c5
      all_goals rw [Bool.eq_iff_iff]
      all_goals simp only [mayB, decide_eq_true_eq, Bool.false_eq_true, wi_iff, false_iff] at *
      all_goals first | omega | (simp_all; done) | (simp_all; omega) | (simp_all; refine ⟨fun hq => ⟨by omega, by omega, by omega, hq⟩, fun hq => hq.2.2.2⟩)
  · have hwt : wi ty 1 5 = false := (wi_false _ _ _).2 ht
    clear r1 r2 r3 r4 r5
    go_enter Tryz.func212, Tryz.ntmps212
    go_wp2_with (first | (go_at_call 140; refine (isType_any _ _).mono ?_; rintro e w' ⟨rfl, rfl⟩) | (go_at_call 180; refine (within_any _ _ _ _).mono ?_; rintro e w' ⟨rfl, rfl⟩))
    go_ret
    go_light
    refine ⟨ret_bool ?_, by repeat (first | exact Below.refl _ _ | refine below_drewN ?_ _ | refine Below.setCell ?_ (by simp) _ | refine Below.alloc ?_ (by simp) _)⟩
    rw [Bool.eq_iff_iff]
    simp only [mayB, decide_eq_true_eq, Bool.false_eq_true, false_iff] at *
    omega

set_option maxHeartbeats 1000000 in
theorem allMayBe_any (v : Value) (l : List At) (w : World) (hr : RulesAt w) (hv : SliceOf w v l) (hs : ∀ a ∈ l, short a) (hlen : l.length ≤ 281474976710656) :
    Calls Tryz.prog 179 #[v] w fun e w' => e = .returned (.bool (l.all mayB)) ∧ Below w.heap.size w w' := by
  obtain ⟨ad, cap, rfl, hcap, H⟩ := hv
  have HR : Hid (0 < l.length → ∃ b off, ad = some ⟨b, off, none⟩ ∧ b < w.heap.size ∧ RowAt w b off l) := H
  clear H
  have HS : Hid (∀ a ∈ l, short a) := hs
  clear hs
  have HT : Hid (RulesAt w) := hr
  clear hr
  go_enter Tryz.func179, Tryz.ntmps179
  go_wp2
  go_loopw [7] (fun i wr => ∃ k : Nat, k ≤ l.length ∧ i = .int .i64 k ∧ Hid ((l.take k).all mayB = true) ∧ Below w.heap.size w wr) (fun i _ => l.length - (intOf i).toNat)
  case atStart => exact ⟨0, Nat.zero_le _, rfl, by simp [Hid], Below.refl _ _⟩
  case round =>
    obtain ⟨k, hk, rfl, ht, hbw⟩ := hrel
    by_cases hl : k < l.length
    · obtain ⟨b, off, rfl, hb, hrow⟩ := HR.out (by omega)
      obtain ⟨c0, c1, c2, c3, c4, c5⟩ := (hrow.below hbw hb) k hl
      clear hrow HR
      have hsk := HS.out (l[k]) (List.getElem_mem hl)
      have hsz := hbw.size
      have HTr : Hid (RulesAt wr) := HT.out.below hbw HT.out.1
      generalize hak : l[k] = a at *
      have HA : Hid (l[k] = a) := hak
      clear hak
      go_wp2_with fail
      refine (mayBe_any a _ ?hrl hsk).mono ?_
      case hrl => exact HTr.out.below ((Below.refl _ wr).alloc (Nat.le_refl _) _) HTr.out.1
      rintro e w1 ⟨rfl, hb1⟩
      have hbw1 : Below w.heap.size w w1 := (hbw.alloc hsz _).trans (hb1.mono (by simp; omega))
      clear hb1
      cases hm : mayB a
      · go_wp2
        go_ret
        refine ⟨ret_bool ?_, hbw1⟩
        symm
        rw [List.all_eq_false]
        exact ⟨a, HA.out ▸ List.getElem_mem hl, by simp [hm]⟩
      · go_wp2
        go_roundw
        case rel => exact ⟨k + 1, by omega, by go_num, (by rw [Hid, all_snoc _ _ _ hl, HA.out, hm, ht.out]; rfl), hbw1⟩
        case measure => simp [intOf]; omega
    · go_wp2
      go_ret
      refine ⟨ret_bool ?_, hbw⟩
      rw [← ht.out, List.take_of_length_le (by omega)]

end Go.Proofs.YtahdlejgjcjeoaaGreatDoor
