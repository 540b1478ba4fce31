/- The plain side of a cluster: what the document says of replicas and the network, with no program. -/
import Derived.Test.YtahdlejgjcjeoabGreatDoorRows
import Derived.Test.YtahdlejgjcjeoabGreatDoorS01
import Derived.OpenShut
import Derived.RowKit
import Derived.LaidLaws
import Derived.Test.YtahdlejgjcjeoabGreatDoorProg
import Derived.Deep.RegionHeld3
import Derived.Deep.Light
import Derived.Lib.AppendStr
import Derived.Lib.SlBytesRow
import Derived.Deep.AppendLies
import Derived.Laws.BytesArg
namespace Go.Proofs.YtahdlejgjcjeoabGreatDoor
open Go.RowKit Go.ChangeShapes Go.WideShapes

/-- A struct of six cells. -/
theorem open_six {H : Type} {en : TypeId × Value → H} {P : Program} {w : World} {base : Nat} {sp : Nat → Bool} {held : Bool} {fuel : Nat} {t : TypeId} {cs : List Value} {x : DataW H × List MemPlace} {f0 f1 f2 f3 f4 f5 : Field}
    (ht : P.underlying t = some (.struct #[f0, f1, f2, f3, f4, f5])) (hC : P.cellsOf t = 6)
    (o0 : f0.offset = 0) (o1 : f1.offset = 1) (o2 : f2.offset = 2) (o3 : f3.offset = 3) (o4 : f4.offset = 4) (o5 : f5.offset = 5)
    (c0 : P.cellsOf f0.type = 1) (c1 : P.cellsOf f1.type = 1) (c2 : P.cellsOf f2.type = 1) (c3 : P.cellsOf f3.type = 1) (c4 : P.cellsOf f4.type = 1) (c5 : P.cellsOf f5.type = 1)
    (h : DataW.trod en P w base sp held fuel t cs = some x) :
    ∃ v0 v1 v2 v3 v4 v5 x0 x1 x2 x3 x4 x5 n, cs = [v0, v1, v2, v3, v4, v5] ∧ x = (.agg [x0.1, x1.1, x2.1, x3.1, x4.1, x5.1], x0.2 ++ (x1.2 ++ (x2.2 ++ (x3.2 ++ (x4.2 ++ x5.2))))) ∧
      DataW.trod en P w base sp held n f0.type [v0] = some x0 ∧ DataW.trod en P w base sp held n f1.type [v1] = some x1 ∧ DataW.trod en P w base sp held n f2.type [v2] = some x2 ∧
      DataW.trod en P w base sp held n f3.type [v3] = some x3 ∧ DataW.trod en P w base sp held n f4.type [v4] = some x4 ∧ DataW.trod en P w base sp held n f5.type [v5] = some x5 := by
  obtain ⟨xs, n, -, rfl, hl, hxl, hf⟩ := DataW.trod_struct ht h
  rw [hC] at hl
  have h0 := hf 0 f0 rfl
  have h1 := hf 1 f1 rfl
  have h2 := hf 2 f2 rfl
  have h3 := hf 3 f3 rfl
  have h4 := hf 4 f4 rfl
  have h5 := hf 5 f5 rfl
  match cs, hl, xs, hxl with
  | [v0, v1, v2, v3, v4, v5], _, [x0, x1, x2, x3, x4, x5], _ =>
    rw [o0, c0] at h0
    rw [o1, c1] at h1
    rw [o2, c2] at h2
    rw [o3, c3] at h3
    rw [o4, c4] at h4
    rw [o5, c5] at h5
    exact ⟨v0, v1, v2, v3, v4, v5, x0, x1, x2, x3, x4, x5, n, rfl, by simp, h0, h1, h2, h3, h4, h5⟩

theorem cellsI : Tryz.prog.cellsOf 3 = 1 := by kernel_rfl
theorem cellsS : Tryz.prog.cellsOf 9 = 1 := by kernel_rfl
theorem cellsB : Tryz.prog.cellsOf 4 = 1 := by kernel_rfl
theorem cellsR : Tryz.prog.cellsOf 262 = 6 := by kernel_rfl

theorem wf_range {n : Int} (h : (Lit.int .i64 n).wf = true) : -9223372036854775808 ≤ n ∧ n ≤ 9223372036854775807 := by
  simp only [Lit.wf, Bool.and_eq_true, decide_eq_true_eq] at h
  have e1 : IntKind.i64.min = -9223372036854775808 := by rfl
  have e2 : IntKind.i64.max = 9223372036854775807 := by rfl
  rw [e1, e2] at h
  exact h

/-- What each place has, a list has. -/
theorem list_of_each {α : Type} {Q : Nat → α → Prop} : ∀ n, (∀ i, i < n → ∃ a, Q i a) → ∃ l : List α, l.length = n ∧ ∀ i (h : i < l.length), Q i l[i]
  | 0, _ => ⟨[], rfl, fun i h => by simp at h⟩
  | n + 1, h => by
    obtain ⟨l, hl, hq⟩ := list_of_each n (fun i hi => h i (by omega))
    obtain ⟨a, ha⟩ := h n (by omega)
    refine ⟨l ++ [a], by simp [hl], fun i hi => ?_⟩
    by_cases hin : i < l.length
    · rw [List.getElem_append_left hin]
      exact hq i hin
    · have : i = l.length := by simp at hi; omega
      subst this
      simp only [List.getElem_append_right (Nat.le_refl _), Nat.sub_self, List.getElem_cons_zero]
      rw [hl]
      exact ha

theorem bulk_part {H : Type} {d : DataW H} : ∀ {l : List (DataW H)}, d ∈ l → Rows.uptoBulk d ≤ Rows.uptoBulkAll l
  | x :: r, h => by
    simp only [Rows.uptoBulkAll]
    rcases List.mem_cons.1 h with e | e
    · subst e; omega
    · have := bulk_part e; omega

theorem gRules : Tryz.prog.globalNamed "ripple/state.rules" = some 1 := by kernel_rfl
theorem gRulesType : (Tryz.prog.globals[1]?).map (·.type) = some 263 := by kernel_rfl

/-- One row of the table. -/
theorem open_rule {W : World} {base : Nat} {sp : Nat → Bool} {held : Bool} {fuel : Nat} {cs : List Value} {p : List MemPlace} {a b c d e : Int} {r : Bool}
    (h : DataW.trod (fun _ => ()) Tryz.prog W base sp held fuel 262 cs = some (.agg [.lit (.int .i64 a), .lit (.int .i64 b), .lit (.int .i64 c), .lit (.int .i64 d), .lit (.int .i64 e), .lit (.bool r)], p)) :
    cs = [.int .i64 a, .int .i64 b, .int .i64 c, .int .i64 d, .int .i64 e, .bool r] := by
  obtain ⟨v0, v1, v2, v3, v4, v5, x0, x1, x2, x3, x4, x5, n, rfl, hx, h0, h1, h2, h3, h4, h5⟩ := open_six Tryz.underlying262 cellsR rfl rfl rfl rfl rfl rfl cellsI cellsI cellsI cellsI cellsI cellsB h
  obtain ⟨n0, e0, rfl, -⟩ := DataW.trod_int Tryz.underlying3 h0
  obtain ⟨n1, e1, rfl, -⟩ := DataW.trod_int Tryz.underlying3 h1
  obtain ⟨n2, e2, rfl, -⟩ := DataW.trod_int Tryz.underlying3 h2
  obtain ⟨n3, e3, rfl, -⟩ := DataW.trod_int Tryz.underlying3 h3
  obtain ⟨n4, e4, rfl, -⟩ := DataW.trod_int Tryz.underlying3 h4
  obtain ⟨n5, e5, rfl⟩ := DataW.trod_bool Tryz.underlying4 h5
  simp at hx e0 e1 e2 e3 e4 e5
  obtain ⟨⟨rfl, rfl, rfl, rfl, rfl, rfl⟩, -⟩ := hx
  subst e0 e1 e2 e3 e4 e5
  rfl

theorem take_eq {cs : List Value} {o : Nat} {v0 v1 v2 v3 v4 v5 : Value} (h : (cs.drop o).take 6 = [v0, v1, v2, v3, v4, v5]) :
    cs[o]? = some v0 ∧ cs[o + 1]? = some v1 ∧ cs[o + 2]? = some v2 ∧ cs[o + 3]? = some v3 ∧ cs[o + 4]? = some v4 ∧ cs[o + 5]? = some v5 := by
  have at6 : ∀ j, j < 6 → cs[o + j]? = [v0, v1, v2, v3, v4, v5][j]? := by
    intro j hj
    rw [← h, List.getElem?_take, if_pos hj, List.getElem?_drop]
  exact ⟨at6 0 (by decide), at6 1 (by decide), at6 2 (by decide), at6 3 (by decide), at6 4 (by decide), at6 5 (by decide)⟩

/-- THE TABLE, out of what the row lists. -/
theorem rules_of_laid {W : World} (h : laidMetH Tryz.prog [("ripple/state.rules", Rows.laid_ripple_state_rules)] W) : RulesAt W := by
  have h' : laidMet Tryz.prog [("ripple/state.rules", Rows.laid_ripple_state_rules)] W := h
  obtain ⟨ps, ⟨g, t, cs, fuel, p, q, hg, ht, hvar, hd, -, -⟩, -⟩ := h'
  obtain rfl := Option.some.inj (gRules.symm.trans hg)
  obtain rfl := Option.some.inj (gRulesType.symm.trans ht)
  obtain ⟨xs, m, -, hx, hl, hxl, hf⟩ := DataW.trod_array Tryz.underlying263 hd
  rw [cellsR] at hf
  have hcell : ∀ i, W.cell? ⟨1, i, none⟩ = cs.toList[i]? := fun i => by rw [World.var?_cell gRules hvar i]; simp
  match xs, hxl with
  | [x0, x1, x2, x3, x4], _ =>
    obtain ⟨y0, p0⟩ := x0
    obtain ⟨y1, p1⟩ := x1
    obtain ⟨y2, p2⟩ := x2
    obtain ⟨y3, p3⟩ := x3
    obtain ⟨y4, p4⟩ := x4
    simp only [Rows.laid_ripple_state_rules, Prod.mk.injEq, List.map_cons, List.map_nil, DataW.agg.injEq, List.cons.injEq, and_true] at hx
    obtain ⟨⟨rfl, rfl, rfl, rfl, rfl⟩, -⟩ := hx
    have r0 := take_eq (open_rule (hf 0 (by decide)))
    have r1 := take_eq (open_rule (hf 1 (by decide)))
    have r2 := take_eq (open_rule (hf 2 (by decide)))
    have r3 := take_eq (open_rule (hf 3 (by decide)))
    have r4 := take_eq (open_rule (hf 4 (by decide)))
    simp only [← hcell] at r0 r1 r2 r3 r4
    refine ⟨?_, r0, r1, r2, r3, r4⟩
    have c0 := r0.1
    have : W.heap[1]? ≠ none := by
      intro hn
      unfold World.cell? at c0
      simp [hn] at c0
    have := mt Array.getElem?_eq_none this
    omega

end Go.Proofs.YtahdlejgjcjeoabGreatDoor

namespace Go.Proofs.YtahdlejgjcjeoabGreatDoor
open Go.RowKit

def leftTo (l : List At) (k : Nat) : List At := ((List.range k).filter (fun i => cntTo l i l.length)).map (nth l)
theorem cnt_iff (l : List At) (i : Nat) : cntTo l i l.length = true ↔ ∀ j, j < l.length → plc (nth l j) (nth l i) = 0 → grd (nth l j) (nth l i) ≤ 0 ∧ (grd (nth l j) (nth l i) = 0 → ¬ j < i) := by
  unfold cntTo
  rw [List.all_eq_true]
  constructor
  · intro h j hj hp
    have := h j (List.mem_range.2 hj)
    simp [bad, hp] at this
    exact ⟨this.1, fun e hlt => by have := this.2; omega⟩
  · intro h j hj
    rw [List.mem_range] at hj
    by_cases hp : plc (nth l j) (nth l i) = 0
    · obtain ⟨h1, h2⟩ := h j hj hp
      simp [bad, hp]
      exact ⟨h1, by omega⟩
    · simp [bad, hp]

theorem mem_nth {l : List At} {x : At} (h : x ∈ l) : ∃ k, k < l.length ∧ nth l k = x := by
  obtain ⟨k, hk, rfl⟩ := List.mem_iff_getElem.1 h
  exact ⟨k, hk, nth_eq l k hk⟩

theorem left_mem {l : List At} {x : At} : x ∈ leftTo l l.length ↔ ∃ i, i < l.length ∧ cntTo l i l.length = true ∧ nth l i = x := by
  unfold leftTo
  simp only [List.mem_map, List.mem_filter, List.mem_range]
  constructor
  · rintro ⟨i, ⟨h1, h2⟩, h3⟩; exact ⟨i, h1, h2, h3⟩
  · rintro ⟨i, h1, h2, h3⟩; exact ⟨i, ⟨h1, h2⟩, h3⟩

theorem left_great {l : List At} : ∀ x ∈ leftTo l l.length, x ∈ l ∧ ∀ y ∈ l, plc y x = 0 → grd y x ≤ 0 := by
  intro x hx
  obtain ⟨i, hi, hc, rfl⟩ := left_mem.1 hx
  refine ⟨nth_mem l i hi, fun y hy hp => ?_⟩
  obtain ⟨j, hj, rfl⟩ := mem_nth hy
  exact ((cnt_iff l i).1 hc j hj hp).1

theorem grd_trans {a b c : At} (h1 : a.ty = b.ty) (h2 : b.ty = c.ty) (x : grd a b ≤ 0) (y : grd b c ≤ 0) : grd a c ≤ 0 := by
  rw [grd_eq _ _ h1] at x
  rw [grd_eq _ _ h2] at y
  rw [grd_eq _ _ (h1.trans h2)]
  exact gcmp_tp.trans _ _ _ x y

/-- Among the first k of a slot there is a first greatest, or there is none of it. -/
theorem best_upto (l : List At) (y : At) : ∀ k, (∀ j, j < k → plc (nth l j) y ≠ 0) ∨ ∃ i, i < k ∧ plc (nth l i) y = 0 ∧ ∀ j, j < k → plc (nth l j) y = 0 → grd (nth l j) (nth l i) ≤ 0 ∧ (grd (nth l j) (nth l i) = 0 → ¬ j < i) := by
  intro k
  induction k with
  | zero => exact .inl fun j hj => by omega
  | succ k ih =>
    by_cases hk : plc (nth l k) y = 0
    · rcases ih with ih | ⟨i, hi, hp, hb⟩
      · refine .inr ⟨k, by omega, hk, fun j hj hpj => ?_⟩
        by_cases e : j = k
        · subst e
          have hg : grd (nth l j) (nth l j) = 0 := by have := grd_anti (a := nth l j) (b := nth l j) rfl; omega
          exact ⟨by omega, fun _ => by omega⟩
        · exact absurd hpj (ih j (by omega))
      · have tk := plc_ty hk
        have ti := plc_ty hp
        by_cases hg : grd (nth l k) (nth l i) ≤ 0
        · refine .inr ⟨i, by omega, hp, fun j hj hpj => ?_⟩
          by_cases e : j = k
          · subst e; exact ⟨hg, fun _ => by omega⟩
          · exact hb j (by omega) hpj
        · refine .inr ⟨k, by omega, hk, fun j hj hpj => ?_⟩
          have hga := grd_anti (a := nth l k) (b := nth l i) (tk.trans ti.symm)
          by_cases e : j = k
          · subst e
            have hg : grd (nth l j) (nth l j) = 0 := by have := grd_anti (a := nth l j) (b := nth l j) rfl; omega
            exact ⟨by omega, fun _ => by omega⟩
          · have h1 := (hb j (by omega) hpj).1
            have tj := plc_ty hpj
            have h2 : grd (nth l j) (nth l k) ≤ 0 := grd_trans (tj.trans ti.symm) (ti.trans tk.symm) h1 (by omega)
            refine ⟨h2, fun e0 => ?_⟩
            exfalso
            have h3 : grd (nth l k) (nth l j) ≤ 0 := by rw [grd_anti (tj.trans tk.symm)]; omega
            have h4 := grd_trans (tk.trans tj.symm) (tj.trans ti.symm) h3 h1
            omega
    · rcases ih with ih | ⟨i, hi, hp, hb⟩
      · refine .inl fun j hj => ?_
        by_cases e : j = k
        · subst e; exact hk
        · exact ih j (by omega)
      · refine .inr ⟨i, by omega, hp, fun j hj hpj => ?_⟩
        by_cases e : j = k
        · subst e; exact absurd hpj hk
        · exact hb j (by omega) hpj

theorem plc_symm {a b : At} (h : plc a b = 0) : plc b a = 0 := by rw [plc_tp.anti a b, h]; rfl
theorem plc_trans0 {a b c : At} (h : plc a b = 0) (k : plc b c = 0) : plc a c = 0 := by
  rw [plc_eq, scmp_zero] at *; rw [h, k]

theorem left_all {l : List At} : ∀ y ∈ l, ∃ x ∈ leftTo l l.length, plc y x = 0 := by
  intro y hy
  obtain ⟨k, hk, hky⟩ := mem_nth hy
  rcases best_upto l y l.length with h | ⟨i, hi, hp, hb⟩
  · exact absurd (by rw [hky]; exact plc_tp.refl y) (h k hk)
  · refine ⟨nth l i, left_mem.2 ⟨i, hi, (cnt_iff l i).2 fun j hj hpj => hb j hj (plc_trans0 hpj hp), rfl⟩, plc_symm hp⟩

theorem left_apart {l : List At} : (leftTo l l.length).Pairwise (fun x y => plc x y ≠ 0) := by
  unfold leftTo
  rw [List.pairwise_map]
  refine List.Pairwise.imp_of_mem ?_ ((List.pairwise_lt_range).filter _)
  intro i j hi hj hlt hp
  rw [List.mem_filter, List.mem_range] at hi hj
  have h1 := (cnt_iff l i).1 hi.2 j hj.1 (plc_symm hp)
  have h2 := (cnt_iff l j).1 hj.2 i hi.1 hp
  have := grd_anti (plc_ty hp)
  have := h2.2 (by omega)
  omega

theorem length_le_of_sub {α : Type} : ∀ {l r : List α}, l.Pairwise (· ≠ ·) → (∀ x ∈ l, x ∈ r) → l.length ≤ r.length
  | [], r, _, _ => Nat.zero_le _
  | x :: l, r, hl, h => by
    rw [List.pairwise_cons] at hl
    obtain ⟨r1, r2, rfl⟩ := List.append_of_mem (h x (by simp))
    have := length_le_of_sub (r := r1 ++ r2) hl.2 fun y hy => by
      have h1 := h y (by simp [hy])
      have h2 := hl.1 y hy
      simp only [List.mem_append, List.mem_cons] at h1 ⊢
      rcases h1 with h1 | h1 | h1
      · exact .inl h1
      · exact absurd h1.symm h2
      · exact .inr h1
    simp only [List.length_append, List.length_cons] at this ⊢
    omega

theorem sorted_ne {L : List At} (h : L.Pairwise (fun x y => plc x y < 0)) : L.Pairwise (· ≠ ·) :=
  h.imp fun {x y} hxy e => by rw [e, plc_tp.refl] at hxy; omega

end Go.Proofs.YtahdlejgjcjeoabGreatDoor

namespace Go.Proofs.YtahdlejgjcjeoabGreatDoor
open Go.RowKit

/-- Nothing new to y. -/
def old (x y : At) : Bool := plc x y == 0 && decide (grd x y ≤ 0)
def frTo (x : At) (m : List At) (k : Nat) : Bool := (List.range k).all fun j => !old x (nth m j)
def newsTo (L m : List At) (k : Nat) : List At := (L.take k).filter fun x => frTo x m m.length
/-- x is of what l has and m has not. -/
def NewIn (l m : List At) (x : At) : Prop := x ∈ l ∧ (∀ y ∈ l, plc y x = 0 → grd y x ≤ 0) ∧ ∀ y ∈ m, plc x y = 0 → 0 < grd x y
structure IsNews (l m out : List At) : Prop where
  sorted : out.Pairwise (fun x y => plc x y < 0)
  mem : ∀ x, x ∈ out ↔ NewIn l m x

theorem IsNews.unique {l m a b : List At} (ha : IsNews l m a) (hb : IsNews l m b) : a = b :=
  sorted_ext plc_tp ha.sorted hb.sorted fun x => by rw [ha.mem, hb.mem]
theorem told_len {l out : List At} (h : IsTold l out) : out.length ≤ l.length := length_le_of_sub (sorted_ne h.sorted) (fun x hx => (h.great x hx).1)

theorem frTo_iff (x : At) (m : List At) : frTo x m m.length = true ↔ ∀ y ∈ m, plc x y = 0 → 0 < grd x y := by
  unfold frTo
  rw [List.all_eq_true]
  constructor
  · intro h y hy hp
    obtain ⟨k, hk, rfl⟩ := mem_nth hy
    have := h k (List.mem_range.2 hk)
    simp [old, hp] at this
    omega
  · intro h j hj
    rw [List.mem_range] at hj
    have := h (nth m j) (nth_mem m j hj)
    by_cases hp : plc x (nth m j) = 0
    · have := this hp
      simp [old, hp]
      omega
    · simp [old, hp]

theorem same_of2 {x y : At} (hx : mayB x = true) (hy : mayB y = true) (hp : plc x y = 0) (h1 : grd x y ≤ 0) (h2 : grd y x ≤ 0) : x = y := by
  rw [grd_eq _ _ (plc_ty hp)] at h1
  rw [grd_eq _ _ (plc_ty hp).symm] at h2
  have h3 := gcmp_tp.anti (grade x) (grade y)
  have h4 := (gcmp_zero (grade x) (grade y)).1 (by omega)
  rw [← unite_eq x hx, ← unite_eq y hy, (show slot x = slot y by rw [plc_eq, scmp_zero] at hp; exact hp), h4]

theorem news_of_told {l m L : List At} (hl : ∀ x ∈ l, mayB x = true) (h : IsTold l L) : IsNews l m (newsTo L m L.length) where
  sorted := by
    unfold newsTo
    rw [List.take_length]
    exact h.sorted.filter _
  mem x := by
    unfold newsTo
    rw [List.take_length, List.mem_filter, frTo_iff]
    constructor
    · rintro ⟨h1, h2⟩
      exact ⟨(h.great x h1).1, (h.great x h1).2, h2⟩
    · rintro ⟨h1, h2, h3⟩
      refine ⟨?_, h3⟩
      obtain ⟨y, hy, hp⟩ := h.all x h1
      obtain ⟨g1, g2⟩ := h.great y hy
      have : x = y := same_of2 (hl x h1) (hl y g1) hp (g2 x h1 hp) (h2 y g1 (plc_symm hp))
      rw [this]
      exact hy

end Go.Proofs.YtahdlejgjcjeoabGreatDoor

namespace Go.Proofs.YtahdlejgjcjeoabGreatDoor
open Go.RowKit

end Go.Proofs.YtahdlejgjcjeoabGreatDoor

namespace Go.Proofs.YtahdlejgjcjeoabGreatDoor
open Go.RowKit

theorem infoAtom : (Tryz.prog.info? 76).map (fun i => (i.zero, i.size, i.bytes)) = some (some (.agg #[.int .i64 0, .string ⟨#[]⟩, .int .i64 0, .int .i64 0, .string ⟨#[]⟩, .int .i64 0]), 6, 64) := by kernel_rfl

end Go.Proofs.YtahdlejgjcjeoabGreatDoor

namespace Go.Proofs.YtahdlejgjcjeoabGreatDoor
open Go.RowKit

/-- A number as so many bytes, the greatest first. -/
def be (n : Nat) : Nat → List UInt8
  | 0 => []
  | w + 1 => be (n / 256) w ++ [UInt8.ofNat n]
theorem be_length (n w : Nat) : (be n w).length = w := by
  induction w generalizing n with
  | zero => rfl
  | succ w ih => simp [be, ih]
theorem be_get (n w i : Nat) (h : i < w) : (be n w)[i]? = some (UInt8.ofNat (n / 256 ^ (w - 1 - i))) := by
  induction w generalizing n with
  | zero => omega
  | succ w ih =>
    unfold be
    by_cases hi : i < w
    · rw [List.getElem?_append_left (by rw [be_length]; exact hi), ih _ hi, Nat.div_div_eq_div_mul]
      have : w + 1 - 1 - i = (w - 1 - i) + 1 := by omega
      rw [this, Nat.pow_succ, Nat.mul_comm]
    · have : i = w := by omega
      subst this
      rw [List.getElem?_append_right (by rw [be_length]; exact Nat.le_refl _), be_length]
      simp
theorem be_take_succ (n w i : Nat) (h : i < w) : (be n w).take (i + 1) = (be n w).take i ++ [UInt8.ofNat (n / 256 ^ (w - 1 - i))] := by
  have hl : i < (be n w).length := by rw [be_length]; exact h
  rw [List.take_succ_eq_append_getElem hl]
  have := be_get n w i h
  rw [List.getElem?_eq_getElem hl] at this
  rw [Option.some.inj this]

def bcells (l : List UInt8) : List Value := l.map fun b => .int .u8 (b.toNat : Int)
theorem bcells_append (l r : List UInt8) : bcells (l ++ r) = bcells l ++ bcells r := by simp [bcells]
theorem bcells_length (l : List UInt8) : (bcells l).length = l.length := by simp [bcells]

/-- v holds the bytes xs, in memory from B on. -/
def Buf (B : Nat) (w : World) (v : Value) (xs : List UInt8) : Prop := w.ownsRow B 5 1 v xs.length (bcells xs) ∧ B ≤ w.heap.size

/-- But rows of bytes nothing has turned. -/
def OnlyB (w w' : World) : Prop := w.heap.size ≤ w'.heap.size ∧ ∀ i, i < w.heap.size → (∀ c fz, w.heap[i]? ≠ some (.cells c 5 fz)) → w'.heap[i]? = w.heap[i]?
theorem OnlyB.refl (w : World) : OnlyB w w := ⟨Nat.le_refl _, fun _ _ _ => rfl⟩
theorem OnlyB.trans {a b c : World} (h : OnlyB a b) (k : OnlyB b c) : OnlyB a c :=
  ⟨Nat.le_trans h.1 k.1, fun i hi hn => by
    have e := h.2 i hi hn
    rw [k.2 i (Nat.lt_of_lt_of_le hi h.1) (fun c fz => by rw [e]; exact hn c fz), e]⟩
theorem OnlyB.below {a b : World} (h : Below a.heap.size a b) : OnlyB a b := ⟨h.size, fun i hi _ => h.block i hi⟩
theorem OnlyB.alloc {a b : World} (h : OnlyB a b) (o : Obj) : OnlyB a (b.alloc o) := h.trans (.below (below_alloc (Below.refl _ _) o))
theorem OnlyB.grown {a w w' : World} {B n : Nat} {v : Value} {xs : List Value} (h : OnlyB a w) (ho : w.ownsRow B 5 1 v n xs) (hg : w.grownBy w' v.ownBlock) : OnlyB a w' :=
  h.trans ⟨hg.size, fun i hi hn => hg.block i hi (fun e => by
    rcases ho.2 with ⟨h0, _⟩ | ⟨g, cap, cur, hv, _, hh, _⟩
    · rw [h0] at e; cases e
    · rw [hv] at e
      cases e
      exact hn _ _ hh)⟩
theorem OnlyB.heap {w w' : World} (h : OnlyB w w') {b : Nat} {c : Array Value} {e : TypeId} {fz : Nat × Nat} (hb : w.heap[b]? = some (.cells c e fz)) (he : e ≠ 5) : w'.heap[b]? = some (.cells c e fz) := by
  rw [h.2 b (Array.getElem?_eq_some_iff.1 hb).1 (fun c' fz' k => by rw [hb] at k; cases k; exact he rfl), hb]
theorem six_cells {w : World} {b : Nat} {x0 x1 x2 x3 x4 x5 : Value} {e : TypeId} {fz : Nat × Nat} (h : w.heap[b]? = some (.cells #[x0, x1, x2, x3, x4, x5] e fz)) :
    w.cell? ⟨b, 0, none⟩ = some x0 ∧ w.cell? ⟨b, 1, none⟩ = some x1 ∧ w.cell? ⟨b, 2, none⟩ = some x2 ∧ w.cell? ⟨b, 3, none⟩ = some x3 ∧ w.cell? ⟨b, 4, none⟩ = some x4 ∧ w.cell? ⟨b, 5, none⟩ = some x5 := by
  simp [World.cell?, h]

theorem byte_eq (n k : Nat) : ((n : Int) / 2 ^ (8 * k) % 256) = ((UInt8.ofNat (n / 256 ^ k)).toNat : Int) := by
  have : (2 : Int) ^ (8 * k) = ((256 ^ k : Nat) : Int) := by rw [Int.pow_mul]; simp
  rw [UInt8.toNat_ofNat', this]
  simp
theorem news_one (w : World) (c : Value) (e : TypeId) : ∀ j u, [c][j]? = some u → (w.alloc (.cells #[c] e)).cell? ((⟨w.heap.size, 0, none⟩ : Addr).add j) = some u := by
  intro j u hj
  match j, hj with
  | 0, hj => simp at hj; subst hj; simp [Addr.add]
  | (j + 1), hj => simp at hj
theorem one_cell {c : Int} : ∀ u ∈ [Value.int .u8 c], u.oneCell' = true := by
  intro u hu
  simp at hu
  subst hu
  rfl

theorem infoByte : (Tryz.prog.info? 5).map (fun i => (i.zero, i.size, i.bytes)) = some (some (.int .u8 0), 1, 1) := by kernel_rfl

set_option maxRecDepth 100000 in
set_option maxHeartbeats 1000000 in
theorem appendNumber_any (B : Nat) (v : Value) (xs : List UInt8) (n wd : Nat) (w : World) (hb : Buf B w v xs) (_hn : n < 9223372036854775808) (hw : wd ≤ 8) (hx : xs.length ≤ 1099511627776) :
    Calls Tryz.prog 167 #[v, .int .i64 n, .int .i64 wd] w fun e w' => ∃ v', e = .returned v' ∧ Hid (Buf B w' v' (xs ++ be n wd)) ∧ Below B w w' ∧ OnlyB w w' := by
  have HB : Hid (Buf B w v xs) := hb
  clear hb
  obtain ⟨i0, hi, hz0, hz1, hz2⟩ := info_parts infoByte
  go_enter Tryz.func167, Tryz.ntmps167
  go_wp2
  go_loopw [0, 9] (fun v' j wr => ∃ i : Nat, i ≤ wd ∧ j = .int .i64 i ∧ Hid (Buf B wr v' (xs ++ (be n wd).take i)) ∧ Below B w wr ∧ Hid (OnlyB w wr)) (fun _ j _ => wd - (intOf j).toNat)
  case atStart => exact ⟨0, Nat.zero_le _, rfl, by simpa [Hid] using HB.out, Below.refl _ _, OnlyB.refl _⟩
  case round =>
    obtain ⟨i, hiw, rfl, hbuf, hbw, hob⟩ := hrel
    by_cases hl : i < wd
    · have hts := be_take_succ n wd i hl
      obtain ⟨k, hk⟩ : ∃ k, wd = i + 1 + k := ⟨wd - (i + 1), by omega⟩
      have hk2 : wd - 1 - i = k := by omega
      rw [hk2] at hts
      have hk3 : (wd : Int) - 1 - (i : Int) = (k : Int) := by omega
      have hk8 : k ≤ 8 := by omega
      clear hk2 hk
      have hlen : (xs ++ (be n wd).take i).length = xs.length + i := by rw [List.length_append, List.length_take, be_length]; omega
      have hown := hbuf.out.1
      rw [hlen] at hown
      generalize hold : xs ++ (be n wd).take i = ys at *
      have HYS : Hid (xs ++ (be n wd).take i = ys) := hold
      have HTS : Hid ((be n wd).take (i + 1) = (be n wd).take i ++ [UInt8.ofNat (n / 256 ^ k)]) := hts
      clear hold hts
      have hbl := hbuf.out.2
      have HBY : Hid (((n : Int) / 2 ^ (8 * k) % 256) = ((UInt8.ofNat (n / 256 ^ k)).toNat : Int)) := byte_eq n k
      go_wp2_with (at_builtin; refine wpList_append_own _ rfl _ _ 124 rfl B 5 i0 _ 1 1 Tryz.underlying124 hi hz0 hz1 hz2 rfl (by decide) _ (xs.length + i) _ rfl (hown.alloc _) ⟨wr.heap.size, 0, none⟩ 1 1 [.int .u8 ((n : Int) / 2 ^ (8 * k) % 256)] rfl rfl (news_one wr _ _) one_cell (by unfold maxLen; omega) (by omega) (by simp; omega) ?_; intro v2 w2 hown2 hg2 _)
      go_roundw
      case rel =>
        refine ⟨i + 1, by omega, by go_num, ⟨?_, Nat.le_trans (by simp; omega) hg2.size⟩, (hbw.alloc hbl _).grown hg2 (by simp; omega) (owns_base hown), (hob.out.alloc _).grown (hown.alloc _) hg2⟩
        rw [HTS.out, ← List.append_assoc, HYS.out, bcells_append, List.length_append, hlen]
        rw [HBY.out] at hown2
        exact hown2
      case measure => simp [intOf]; omega
    · have hiw' : i = wd := by omega
      subst hiw'
      have hfin := hbuf.out
      rw [List.take_of_length_le (by rw [be_length]; exact Nat.le_refl _)] at hfin
      have HF : Hid (Buf B wr _ (xs ++ be n i)) := hfin
      clear hfin hbuf
      go_wp2
      go_ret
      exact ⟨_, rfl, HF, hbw, hob.out⟩
theorem appendNumber_int (B : Nat) (v : Value) (xs : List UInt8) (n : Int) (wd : Nat) (w : World) (hb : Buf B w v xs) (h0 : 0 ≤ n) (_hn : n < 9223372036854775808) (hw : wd ≤ 8) (hx : xs.length ≤ 1099511627776) :
    Calls Tryz.prog 167 #[v, .int .i64 n, .int .i64 wd] w fun e w' => ∃ v', e = .returned v' ∧ Hid (Buf B w' v' (xs ++ be n.toNat wd)) ∧ Below B w w' ∧ OnlyB w w' := by
  have := appendNumber_any B v xs n.toNat wd w hb (by omega) hw hx
  rwa [show ((n.toNat : Nat) : Int) = n by omega] at this

set_option maxRecDepth 100000 in
set_option maxHeartbeats 1000000 in
theorem appendText_any (B : Nat) (v : Value) (xs : List UInt8) (s : ByteArray) (w : World) (hb : Buf B w v xs) (hs : s.size ≤ 1099511627776) (hx : xs.length ≤ 1099511627776) :
    Calls Tryz.prog 218 #[v, .string s] w fun e w' => ∃ v', e = .returned v' ∧ Hid (Buf B w' v' (xs ++ (be s.size 1 ++ s.data.toList))) ∧ Below B w w' ∧ OnlyB w w' := by
  have hc := appendNumber_int B v xs (s.size : Int) 1 w hb (by omega) (by omega) (by omega) hx
  rw [show ((s.size : Int)).toNat = s.size by omega] at hc
  obtain ⟨i0, hi, hz0, hz1, hz2⟩ := info_parts infoByte
  have hc' : Calls Tryz.prog 167 #[v, .int .i64 (s.size : Int), .int .i64 1] w fun e w' => ∃ v', e = .returned v' ∧ Hid (Buf B w' v' (xs ++ be s.size 1)) ∧ Below B w w' ∧ OnlyB w w' := hc
  clear hc hb
  go_enter Tryz.func218, Tryz.ntmps218
  go_wp2_with fail
  refine hc'.mono ?_
  rintro e w1 ⟨v1, rfl, hb1, hbw1, hob1⟩
  have hown := hb1.out.1
  have hbl := hb1.out.2
  have hlen : (xs ++ be s.size 1).length = xs.length + 1 := by rw [List.length_append, be_length]
  rw [hlen] at hown
  have HX : Hid (xs ++ (be s.size 1 ++ s.data.toList) = (xs ++ be s.size 1) ++ s.data.toList) := by rw [Hid, List.append_assoc]
  clear hb1 hc'
  generalize xs ++ be s.size 1 = ys at *
  go_wp2_with (at_builtin; refine Go.Lib.wpList_append_own_string _ rfl _ _ 124 9 rfl B 5 i0 Tryz.underlying124 Tryz.underlying9 hi hz0 hz1 hz2 _ (xs.length + 1) _ rfl hown s rfl (by unfold maxLen; omega) (by omega) hbl ?_; intro v2 w2 hown2 hg2 _)
  go_ret
  refine ⟨v2, rfl, ⟨?_, Nat.le_trans hbl hg2.size⟩, hbw1.grown hg2 hbl (owns_base hown), hob1.grown hown hg2⟩
  rw [HX.out, bcells_append, List.length_append, hlen]
  exact hown2

/-- An atom as bytes. -/
def encA (a : At) : List UInt8 := be a.ty.toNat 1 ++ ((be a.key.size 1 ++ a.key.data.toList) ++ (be a.side.toNat 1 ++ (be a.who.toNat 1 ++ ((be a.elem.size 1 ++ a.elem.data.toList) ++ be a.n.toNat 4))))
def encL (l : List At) : List UInt8 := l.flatMap encA
theorem encL_snoc (l : List At) (a : At) : encL (l ++ [a]) = encL l ++ encA a := by simp [encL]

/-- Numbers that are none below zero, texts that are short. -/
def fit2 (a : At) : Prop := 0 ≤ a.ty ∧ a.ty ≤ 4294967296 ∧ 0 ≤ a.side ∧ a.side ≤ 4294967296 ∧ 0 ≤ a.who ∧ a.who ≤ 4294967296 ∧ 0 ≤ a.n ∧ a.n ≤ 4294967296 ∧ a.key.size ≤ 4 ∧ a.elem.size ≤ 8
theorem fit2_of_may {a : At} (h : mayB a = true) : fit2 a := by
  simp only [mayB, decide_eq_true_eq] at h
  unfold fit2
  omega
theorem encA_length (a : At) (h : fit2 a) : (encA a).length ≤ 21 ∧ 9 ≤ (encA a).length := by
  obtain ⟨_, _, _, _, _, _, _, _, h1, h2⟩ := h
  have e1 : a.key.data.toList.length = a.key.size := by simp
  have e2 : a.elem.data.toList.length = a.elem.size := by simp
  unfold encA
  simp only [List.length_append, be_length, e1, e2]
  omega

set_option maxRecDepth 100000 in
set_option maxHeartbeats 1000000 in
theorem appendAtom_any (B : Nat) (v : Value) (xs : List UInt8) (a : At) (w : World) (hb : Buf B w v xs) (hB : B ≤ w.heap.size) (hf : fit2 a) (hx : xs.length ≤ 549755813888) :
    Calls Tryz.prog 198 #[v, a.val] w fun e w' => ∃ v', e = .returned v' ∧ Hid (Buf B w' v' (xs ++ encA a)) ∧ Below B w w' ∧ OnlyB w w' := by
  obtain ⟨ty, key, side, who, elem, n⟩ := a
  obtain ⟨a1, a2, a3, a4, a5, a6, a7, a8, a9, a10⟩ := hf
  simp only at a1 a2 a3 a4 a5 a6 a7 a8 a9 a10
  have HN : Hid (∀ (W : World) (u : Value) (ys : List UInt8) (k : Int) (wd : Nat), Buf B W u ys → 0 ≤ k → k ≤ 4294967296 → wd ≤ 8 → ys.length ≤ 1099511627776 → Calls Tryz.prog 167 #[u, .int .i64 k, .int .i64 wd] W fun e w' => ∃ v', e = .returned v' ∧ Hid (Buf B w' v' (ys ++ be k.toNat wd)) ∧ Below B W w' ∧ OnlyB W w') := fun W u ys k wd h h0 h1 h2 h3 => appendNumber_int B u ys k wd W h h0 (by omega) h2 h3
  have HB : Hid (Buf B (w.alloc (.cells #[.int .i64 ty, .string key, .int .i64 side, .int .i64 who, .string elem, .int .i64 n] 76)) v xs) := ⟨hb.1.alloc _, by have := hb.2; simp; omega⟩
  have hbw0 := (Below.refl B w).alloc hB (.cells #[.int .i64 ty, .string key, .int .i64 side, .int .i64 who, .string elem, .int .i64 n] 76)
  have hob0 := (OnlyB.refl w).alloc (.cells #[.int .i64 ty, .string key, .int .i64 side, .int .i64 who, .string elem, .int .i64 n] 76)
  have hh0 : (w.alloc (.cells #[.int .i64 ty, .string key, .int .i64 side, .int .i64 who, .string elem, .int .i64 n] 76)).heap[w.heap.size]? = some (.cells #[.int .i64 ty, .string key, .int .i64 side, .int .i64 who, .string elem, .int .i64 n] 76 (0, 0)) := (MapKept.heap_alloc w _).1
  clear hb
  unfold At.val
  simp only
  go_enter Tryz.func198, Tryz.ntmps198
  go_wp2_with fail
  generalize w.alloc (.cells #[.int .i64 ty, .string key, .int .i64 side, .int .i64 who, .string elem, .int .i64 n] 76) = w0 at *
  refine (HN.out w0 v xs ty 1 HB.out a1 a2 (by omega) (by omega)).mono ?_
  rintro e w1 ⟨v1, rfl, hb1, hbw1, hob1⟩
  have hh1 := hob1.heap hh0 (by decide)
  have hbW1 := hbw0.trans hbw1
  have hoW1 := hob0.trans hob1
  obtain ⟨c0, c1, c2, c3, c4, c5⟩ := six_cells hh1
  clear hbw1 hob1 hbw0 hob0 hh0 HB
  go_wp2_with fail
  refine (appendText_any B v1 _ key w1 hb1.out (by omega) (by rw [List.length_append, be_length]; omega)).mono ?_
  rintro e w2 ⟨v2, rfl, hb2, hbw2, hob2⟩
  have hh2 := hob2.heap hh1 (by decide)
  have hbW2 := hbW1.trans hbw2
  have hoW2 := hoW1.trans hob2
  obtain ⟨d0, d1, d2, d3, d4, d5⟩ := six_cells hh2
  clear hbw2 hob2 hbW1 hoW1 hb1 hh1 c0 c1 c2 c3 c4 c5
  go_wp2_with fail
  refine (HN.out w2 v2 _ side 1 hb2.out a3 a4 (by omega) ?_).mono ?_
  · simp only [List.length_append, be_length]
    have : key.data.toList.length = key.size := by simp
    omega
  rintro e w3 ⟨v3, rfl, hb3, hbw3, hob3⟩
  have hh3 := hob3.heap hh2 (by decide)
  have hbW3 := hbW2.trans hbw3
  have hoW3 := hoW2.trans hob3
  obtain ⟨c0, c1, c2, c3, c4, c5⟩ := six_cells hh3
  clear hbw3 hob3 hbW2 hoW2 hb2 hh2 d0 d1 d2 d3 d4 d5
  go_wp2_with fail
  refine (HN.out w3 v3 _ who 1 hb3.out a5 a6 (by omega) ?_).mono ?_
  · simp only [List.length_append, be_length]
    have : key.data.toList.length = key.size := by simp
    omega
  rintro e w4 ⟨v4, rfl, hb4, hbw4, hob4⟩
  have hh4 := hob4.heap hh3 (by decide)
  have hbW4 := hbW3.trans hbw4
  have hoW4 := hoW3.trans hob4
  obtain ⟨d0, d1, d2, d3, d4, d5⟩ := six_cells hh4
  clear hbw4 hob4 hbW3 hoW3 hb3 hh3 c0 c1 c2 c3 c4 c5
  go_wp2_with fail
  refine (appendText_any B v4 _ elem w4 hb4.out (by omega) ?_).mono ?_
  · simp only [List.length_append, be_length]
    have : key.data.toList.length = key.size := by simp
    omega
  rintro e w5 ⟨v5, rfl, hb5, hbw5, hob5⟩
  have hh5 := hob5.heap hh4 (by decide)
  have hbW5 := hbW4.trans hbw5
  have hoW5 := hoW4.trans hob5
  obtain ⟨c0, c1, c2, c3, c4, c5⟩ := six_cells hh5
  clear hbw5 hob5 hbW4 hoW4 hb4 hh4 d0 d1 d2 d3 d4 d5
  go_wp2_with fail
  refine (HN.out w5 v5 _ n 4 hb5.out a7 a8 (by omega) ?_).mono ?_
  · simp only [List.length_append, be_length]
    have : key.data.toList.length = key.size := by simp
    have : elem.data.toList.length = elem.size := by simp
    omega
  rintro e w6 ⟨v6, rfl, hb6, hbw6, hob6⟩
  have hbW6 := hbW5.trans hbw6
  have hoW6 := hoW5.trans hob6
  have HB6 : Hid (Buf B w6 v6 (xs ++ encA ⟨ty, key, side, who, elem, n⟩)) := by
    have := hb6.out
    unfold encA
    simp only [List.append_assoc] at this ⊢
    exact this
  clear hbw6 hob6 hb5 hb6 hh5 c0 c1 c2 c3 c4 c5
  go_wp2
  go_ret
  exact ⟨v6, rfl, HB6, hbW6, hoW6⟩
end Go.Proofs.YtahdlejgjcjeoabGreatDoor

namespace Go.Proofs.YtahdlejgjcjeoabGreatDoor
open Go.RowKit

/-- Bytes as a text. -/
def bstr (l : List UInt8) : ByteArray := ⟨l.toArray⟩
theorem bstr_data (l : List UInt8) : (bstr l).data.toList = l := rfl
theorem bstr_nums (l : List UInt8) : strOfNums (l.map fun b => (b.toNat : Int)) = bstr l := by
  unfold strOfNums bstr
  congr 2
  rw [List.map_map]
  conv => rhs; rw [← List.map_id l]
  apply List.map_congr_left
  intro b _
  simp
theorem bstr_size (l : List UInt8) : (bstr l).size = l.length := by simp [bstr, ByteArray.size]
theorem bstr_self (s : ByteArray) : bstr s.data.toList = s := rfl

end Go.Proofs.YtahdlejgjcjeoabGreatDoor

namespace Go.Proofs.YtahdlejgjcjeoabGreatDoor

/-- A state, told: the greatest of each slot, sorted. -/
def tell (l : List At) : List At := (leftTo l l.length).mergeSort fun a b => decide (plc a b ≤ 0)
theorem plc_trans_le {a b c : At} (h : plc a b ≤ 0) (k : plc b c ≤ 0) : plc a c ≤ 0 := plc_tp.trans a b c h k
theorem plc_total (a b : At) : plc a b ≤ 0 ∨ plc b a ≤ 0 := by
  have := plc_tp.anti a b
  omega
theorem tell_told (l : List At) : IsTold l (tell l) := by
  have hm : ∀ x, x ∈ tell l ↔ x ∈ leftTo l l.length := fun x => List.mem_mergeSort
  have hp : (tell l).Pairwise (fun a b => plc a b ≤ 0) := by
    have := List.pairwise_mergeSort (le := fun a b : At => decide (plc a b ≤ 0)) (fun a b c h k => by simpa using plc_trans_le (by simpa using h) (by simpa using k)) (fun a b => by simpa using plc_total a b) (leftTo l l.length)
    exact this.imp fun h => by simpa using h
  have ha : (tell l).Pairwise (fun a b => plc a b ≠ 0) :=
    (List.mergeSort_perm (leftTo l l.length) _).symm.pairwise left_apart (fun {x y} h e => h (plc_symm e))
  refine ⟨(hp.and ha).imp fun h => by omega, fun x hx => left_great x ((hm x).1 hx), fun y hy => ?_⟩
  obtain ⟨x, hx, h⟩ := left_all y hy
  exact ⟨x, (hm x).2 hx, h⟩

/-- What l has and m has not. -/
def fresh (l m : List At) : List At := (tell l).filter fun x => frTo x m m.length

/-- P15. -/
def adA (l : List UInt8) : Nat × Nat := l.foldl (fun p c => ((p.1 + c.toNat) % 65521, ((p.1 + c.toNat) % 65521 + p.2) % 65521)) (1, 0)
def adler (l : List UInt8) : Nat := (adA l).2 * 65536 + (adA l).1

structure Ent where
  num : Nat
  org : Nat
  d : List At
structure Rec where
  kind : Nat
  num : Nat
  d : List At
structure Rep where
  down : Bool
  atoms : List At
  num : Nat
  base : Nat
  buf : List Ent
  acked : List Nat
  log : List Rec
  torn : List UInt8
  frames : Nat
  weight : Nat
structure Frm where
  kind : Nat
  src : Nat
  dst : Nat
  upto : Nat
  d : List At
structure Clu where
  room : Nat
  bp : Bool
  rr : Bool
  near : Nat → Nat → Bool
  reps : List Rep
  net : List Frm
structure OpV where
  ty : Int
  key : ByteArray
  side : Int
  elem : ByteArray
  n : Int

/-- The bytes of a record (P11). -/
def encS (l : List At) : List UInt8 := be (tell l).length 8 ++ encL (tell l)
def recHead (r : Rec) : List UInt8 := be r.kind 1 ++ (be r.num 8 ++ (be (encS r.d).length 8 ++ encS r.d))
def recBytes (r : Rec) : List UInt8 := recHead r ++ be (adler (recHead r)) 4
def logBytes (p : Rep) : List UInt8 := (p.log.map recBytes).flatten ++ p.torn

def Clu.rep (c : Clu) (r : Nat) : Rep := c.reps.getD r ⟨true, [], 0, 0, [], [], [], [], 0, 0⟩
def Clu.setRep (c : Clu) (r : Nat) (p : Rep) : Clu := { c with reps := c.reps.set r p }
def Clu.there (c : Clu) (r : Int) : Bool := decide (0 ≤ r ∧ r < c.reps.length)
/-- The error of work at a replica. -/
def Clu.works (c : Clu) (r : Int) : Int := if c.there r = false then 5 else if (c.rep r.toNat).down then 8 else 0

/-- Entries up to a number are given up. -/
def Rep.drop (p : Rep) (n : Nat) : Rep := { p with buf := p.buf.filter (fun e => decide (n < e.num)), base := max p.base n }
/-- P9: a delta is taken in. -/
def Rep.take1 (p : Rep) (d : List At) (org : Nat) : Rep :=
  { p with num := p.num + 1, log := p.log ++ [⟨1, p.num + 1, d⟩], atoms := p.atoms ++ d, buf := p.buf ++ [⟨p.num + 1, org, d⟩] }
def Rep.take (room : Nat) (p : Rep) (d : List At) (org : Nat) : Rep :=
  if room < p.buf.length + 1 then (p.take1 d org).drop ((p.buf.head?.map (·.num)).getD (p.num + 1)) else p.take1 d org

/-- P10. -/
def fineOp (o : OpV) : Bool := decide (
  1 ≤ o.ty ∧ o.ty ≤ 5 ∧ 1 ≤ o.key.size ∧ o.key.size ≤ 4 ∧ o.elem.size ≤ 8 ∧
  ((o.ty = 1 ∧ o.side = 0 ∧ o.elem.size = 0 ∧ 1 ≤ o.n ∧ o.n ≤ 1000) ∨
   (o.ty = 2 ∧ o.side = 0 ∧ o.elem.size = 0 ∧ o.n ≠ 0 ∧ -1000 ≤ o.n ∧ o.n ≤ 1000) ∨
   (o.ty = 3 ∧ o.side = 0 ∧ o.n = 0) ∨ (o.ty = 4 ∧ (o.side = 0 ∨ o.side = 1) ∧ o.n = 0) ∨ (o.ty = 5 ∧ o.side = 0 ∧ o.n = 0)))
/-- The N of the slot of an atom (0: there is none). -/
def hadN (l : List At) (a : At) : Int := l.foldl (fun n x => if plc x a = 0 ∧ n < x.n then x.n else n) 0
def opAtom (l : List At) (r : Nat) (o : OpV) : At :=
  if o.ty = 1 then ⟨1, o.key, 0, r, o.elem, hadN l ⟨1, o.key, 0, r, o.elem, 0⟩ + o.n⟩
  else if o.ty = 2 then (if o.n < 0 then ⟨2, o.key, 1, r, o.elem, hadN l ⟨2, o.key, 1, r, o.elem, 0⟩ + -o.n⟩ else ⟨2, o.key, o.side, r, o.elem, hadN l ⟨2, o.key, o.side, r, o.elem, 0⟩ + o.n⟩)
  else if o.ty = 5 then ⟨5, o.key, o.side, r, o.elem, hadN l ⟨5, o.key, o.side, r, o.elem, 0⟩ + 1⟩
  else ⟨o.ty, o.key, o.side, 0, o.elem, 0⟩
/-- The error of an operation. -/
def Clu.opErr (c : Clu) (r : Int) (o : OpV) : Int :=
  if c.works r ≠ 0 then c.works r else if fineOp o = false then 6 else if 2147483647 < (opAtom (c.rep r.toNat).atoms r.toNat o).n then 2 else 0

def Clu.update (c : Clu) (r : Int) (o : OpV) : Clu :=
  if c.opErr r o = 0 then c.setRep r.toNat ((c.rep r.toNat).take c.room [opAtom (c.rep r.toNat).atoms r.toNat o] r.toNat) else c

/-- P11. -/
def Rep.fall (p : Rep) : Rep := { p with down := true, atoms := [], num := 0, base := 0, buf := [], acked := List.replicate p.acked.length 0 }
def Rep.tear (p : Rep) (d : List At) (keep : Int) : Rep :=
  if keep < (recBytes ⟨1, p.num + 1, d⟩).length then { p with torn := (recBytes ⟨1, p.num + 1, d⟩).take keep.toNat } else { p with log := p.log ++ [⟨1, p.num + 1, d⟩] }
def Clu.tornOp (c : Clu) (r : Int) (o : OpV) (keep : Int) : Clu :=
  if c.opErr r o = 0 then c.setRep r.toNat ((c.rep r.toNat).tear [opAtom (c.rep r.toNat).atoms r.toNat o] keep).fall else c
def Clu.crash (c : Clu) (r : Int) : Clu := if c.works r = 0 then c.setRep r.toNat (c.rep r.toNat).fall else c
def lastNum (l : List Rec) : Nat := (l.getLast?.map (·.num)).getD 0
def Rep.rise (p : Rep) : Rep := { p with down := false, atoms := p.atoms ++ (p.log.map (·.d)).flatten, num := lastNum p.log, base := lastNum p.log, torn := [] }
def Clu.startErr (c : Clu) (r : Int) : Int := if c.there r = false then 5 else if (c.rep r.toNat).down then 0 else 9
def Clu.start (c : Clu) (r : Int) : Clu := if c.startErr r = 0 then c.setRep r.toNat (c.rep r.toNat).rise else c
def Rep.compact (p : Rep) : Rep := { p with log := [⟨2, p.num, tell p.atoms⟩] }
def Clu.compact (c : Clu) (r : Int) : Clu := if c.works r = 0 then c.setRep r.toNat (c.rep r.toNat).compact else c

/-- P12, P13. -/
def Clu.put (c : Clu) (f : Frm) : Clu := if c.net.length < 200 then { c with net := c.net ++ [f] } else c
def Clu.sendErr (c : Clu) (r q : Int) : Int :=
  if c.there r = false ∨ c.there q = false then 5 else if c.near r.toNat q.toNat = false then 7 else if (c.rep r.toNat).down then 8 else 0
def Rep.toSend (bp : Bool) (p : Rep) (q : Nat) : List Ent := p.buf.filter fun e => decide (p.acked.getD q 0 < e.num) && !(bp && decide (e.org = q))
def Rep.frame (bp : Bool) (p : Rep) (r q : Nat) : Frm :=
  if p.acked.getD q 0 < p.base then ⟨2, r, q, p.num, tell p.atoms⟩ else ⟨1, r, q, p.num, tell (((p.toSend bp q).map (·.d)).flatten)⟩
def Clu.sent (c : Clu) (r q : Nat) : Clu :=
  (c.setRep r { c.rep r with frames := (c.rep r).frames + 1, weight := (c.rep r).weight + ((c.rep r).frame c.bp r q).d.length }).put ((c.rep r).frame c.bp r q)
def Clu.send (c : Clu) (r q : Int) : Clu := if c.sendErr r q = 0 then c.sent r.toNat q.toNat else c
def Clu.has (c : Clu) (k : Int) : Bool := decide (0 ≤ k ∧ k < c.net.length)
def Clu.netErr (c : Clu) (k : Int) : Int := if c.has k then 0 else 10
def Clu.frm (c : Clu) (k : Nat) : Frm := c.net.getD k ⟨0, 0, 0, 0, []⟩
def Clu.out (c : Clu) (k : Nat) : Clu := { c with net := c.net.eraseIdx k }
/-- The least that all neighbours of p have. -/
def leastAcked (near : Nat → Bool) (acked : List Nat) (m : Nat) : Nat := (List.range acked.length).foldl (fun m q => if near q && decide (acked.getD q 0 < m) then acked.getD q 0 else m) m
def Rep.ack (near : Nat → Bool) (p : Rep) (q upto : Nat) : Rep :=
  let a := p.acked.set q (max (p.acked.getD q 0) upto)
  { p with acked := a }.drop (leastAcked near a (a.getD q 0))
def Rep.arrive (room : Nat) (rr : Bool) (p : Rep) (d : List At) (org : Nat) : Rep :=
  if fresh d p.atoms = [] then p else p.take room (if rr then fresh d p.atoms else d) org
def Clu.arrived (c : Clu) (f : Frm) : Clu :=
  if (c.rep f.dst).down then c
  else if f.kind = 3 then c.setRep f.dst ((c.rep f.dst).ack (c.near f.dst) f.src f.upto)
  else (c.setRep f.dst ((c.rep f.dst).arrive c.room c.rr f.d f.src)).put ⟨3, f.dst, f.src, f.upto, []⟩
def Clu.deliver (c : Clu) (k : Int) : Clu := if c.has k then (c.out k.toNat).arrived (c.frm k.toNat) else c
def Clu.dropF (c : Clu) (k : Int) : Clu := if c.has k then c.out k.toNat else c
def Clu.copyF (c : Clu) (k : Int) : Clu := if c.has k then c.put (c.frm k.toNat) else c

end Go.Proofs.YtahdlejgjcjeoabGreatDoor
