/- What one list has and another has not, plain. -/
import Derived.Test.YtahdlejgjcjeoaaGreatDoorP03
import Derived.Test.YtahdlejgjcjeoaaGreatDoorP01
namespace Go.Proofs.YtahdlejgjcjeoaaGreatDoor
open Go.RowKit

def leftTo (l : List At) (k : Nat) : List At := ((List.range k).filter (fun i => cntTo l i l.length)).map (nth l)
theorem leftTo_succ (l : List At) (k : Nat) : leftTo l (k + 1) = if cntTo l k l.length then leftTo l k ++ [nth l k] else leftTo l k := by
  unfold leftTo
  rw [List.range_succ, List.filter_append, List.map_append]
  by_cases h : cntTo l k l.length <;> simp [h]
theorem leftTo_length (l : List At) (k : Nat) : (leftTo l k).length ≤ k := by
  unfold leftTo
  rw [List.length_map]
  have := List.length_filter_le (fun i => cntTo l i l.length) (List.range k)
  simpa using this

theorem cnt_iff (l : List At) (i : Nat) : cntTo l i l.length = true ↔ ∀ j, j < l.length → plc (nth l j) (nth l i) = 0 → grd (nth l j) (nth l i) ≤ 0 ∧ (grd (nth l j) (nth l i) = 0 → ¬ j < i) := by
  unfold cntTo
  rw [List.all_eq_true]
  constructor
  · intro h j hj hp
    have := h j (List.mem_range.2 hj)
    simp [bad, hp] at this
    exact ⟨this.1, fun e hlt => by have := this.2; omega⟩
  · intro h j hj
    rw [List.mem_range] at hj
    by_cases hp : plc (nth l j) (nth l i) = 0
    · obtain ⟨h1, h2⟩ := h j hj hp
      simp [bad, hp]
      exact ⟨h1, by omega⟩
    · simp [bad, hp]

theorem mem_nth {l : List At} {x : At} (h : x ∈ l) : ∃ k, k < l.length ∧ nth l k = x := by
  obtain ⟨k, hk, rfl⟩ := List.mem_iff_getElem.1 h
  exact ⟨k, hk, nth_eq l k hk⟩

theorem left_mem {l : List At} {x : At} : x ∈ leftTo l l.length ↔ ∃ i, i < l.length ∧ cntTo l i l.length = true ∧ nth l i = x := by
  unfold leftTo
  simp only [List.mem_map, List.mem_filter, List.mem_range]
  constructor
  · rintro ⟨i, ⟨h1, h2⟩, h3⟩; exact ⟨i, h1, h2, h3⟩
  · rintro ⟨i, h1, h2, h3⟩; exact ⟨i, ⟨h1, h2⟩, h3⟩

theorem left_great {l : List At} : ∀ x ∈ leftTo l l.length, x ∈ l ∧ ∀ y ∈ l, plc y x = 0 → grd y x ≤ 0 := by
  intro x hx
  obtain ⟨i, hi, hc, rfl⟩ := left_mem.1 hx
  refine ⟨nth_mem l i hi, fun y hy hp => ?_⟩
  obtain ⟨j, hj, rfl⟩ := mem_nth hy
  exact ((cnt_iff l i).1 hc j hj hp).1

theorem grd_trans {a b c : At} (h1 : a.ty = b.ty) (h2 : b.ty = c.ty) (x : grd a b ≤ 0) (y : grd b c ≤ 0) : grd a c ≤ 0 := by
  rw [grd_eq _ _ h1] at x
  rw [grd_eq _ _ h2] at y
  rw [grd_eq _ _ (h1.trans h2)]
  exact gcmp_tp.trans _ _ _ x y

/-- Among the first k of a slot there is a first greatest, or there is none of it. -/
theorem best_upto (l : List At) (y : At) : ∀ k, (∀ j, j < k → plc (nth l j) y ≠ 0) ∨ ∃ i, i < k ∧ plc (nth l i) y = 0 ∧ ∀ j, j < k → plc (nth l j) y = 0 → grd (nth l j) (nth l i) ≤ 0 ∧ (grd (nth l j) (nth l i) = 0 → ¬ j < i) := by
  intro k
  induction k with
  | zero => exact .inl fun j hj => by omega
  | succ k ih =>
    by_cases hk : plc (nth l k) y = 0
    · rcases ih with ih | ⟨i, hi, hp, hb⟩
      · refine .inr ⟨k, by omega, hk, fun j hj hpj => ?_⟩
        by_cases e : j = k
        · subst e
          have hg : grd (nth l j) (nth l j) = 0 := by have := grd_anti (a := nth l j) (b := nth l j) rfl; omega
          exact ⟨by omega, fun _ => by omega⟩
        · exact absurd hpj (ih j (by omega))
      · have tk := plc_ty hk
        have ti := plc_ty hp
        by_cases hg : grd (nth l k) (nth l i) ≤ 0
        · refine .inr ⟨i, by omega, hp, fun j hj hpj => ?_⟩
          by_cases e : j = k
          · subst e; exact ⟨hg, fun _ => by omega⟩
          · exact hb j (by omega) hpj
        · refine .inr ⟨k, by omega, hk, fun j hj hpj => ?_⟩
          have hga := grd_anti (a := nth l k) (b := nth l i) (tk.trans ti.symm)
          by_cases e : j = k
          · subst e
            have hg : grd (nth l j) (nth l j) = 0 := by have := grd_anti (a := nth l j) (b := nth l j) rfl; omega
            exact ⟨by omega, fun _ => by omega⟩
          · have h1 := (hb j (by omega) hpj).1
            have tj := plc_ty hpj
            have h2 : grd (nth l j) (nth l k) ≤ 0 := grd_trans (tj.trans ti.symm) (ti.trans tk.symm) h1 (by omega)
            refine ⟨h2, fun e0 => ?_⟩
            exfalso
            have h3 : grd (nth l k) (nth l j) ≤ 0 := by rw [grd_anti (tj.trans tk.symm)]; omega
            have h4 := grd_trans (tk.trans tj.symm) (tj.trans ti.symm) h3 h1
            omega
    · rcases ih with ih | ⟨i, hi, hp, hb⟩
      · refine .inl fun j hj => ?_
        by_cases e : j = k
        · subst e; exact hk
        · exact ih j (by omega)
      · refine .inr ⟨i, by omega, hp, fun j hj hpj => ?_⟩
        by_cases e : j = k
        · subst e; exact absurd hpj hk
        · exact hb j (by omega) hpj

theorem plc_symm {a b : At} (h : plc a b = 0) : plc b a = 0 := by rw [plc_tp.anti a b, h]; rfl
theorem plc_trans0 {a b c : At} (h : plc a b = 0) (k : plc b c = 0) : plc a c = 0 := by
  rw [plc_eq, scmp_zero] at *; rw [h, k]

theorem left_all {l : List At} : ∀ y ∈ l, ∃ x ∈ leftTo l l.length, plc y x = 0 := by
  intro y hy
  obtain ⟨k, hk, hky⟩ := mem_nth hy
  rcases best_upto l y l.length with h | ⟨i, hi, hp, hb⟩
  · exact absurd (by rw [hky]; exact plc_tp.refl y) (h k hk)
  · refine ⟨nth l i, left_mem.2 ⟨i, hi, (cnt_iff l i).2 fun j hj hpj => hb j hj (plc_trans0 hpj hp), rfl⟩, plc_symm hp⟩

theorem left_apart {l : List At} : (leftTo l l.length).Pairwise (fun x y => plc x y ≠ 0) := by
  unfold leftTo
  rw [List.pairwise_map]
  refine List.Pairwise.imp_of_mem ?_ ((List.pairwise_lt_range).filter _)
  intro i j hi hj hlt hp
  rw [List.mem_filter, List.mem_range] at hi hj
  have h1 := (cnt_iff l i).1 hi.2 j hj.1 (plc_symm hp)
  have h2 := (cnt_iff l j).1 hj.2 i hi.1 hp
  have := grd_anti (plc_ty hp)
  have := h2.2 (by omega)
  omega

theorem length_le_of_sub {α : Type} : ∀ {l r : List α}, l.Pairwise (· ≠ ·) → (∀ x ∈ l, x ∈ r) → l.length ≤ r.length
  | [], r, _, _ => Nat.zero_le _
  | x :: l, r, hl, h => by
    rw [List.pairwise_cons] at hl
    obtain ⟨r1, r2, rfl⟩ := List.append_of_mem (h x (by simp))
    have := length_le_of_sub (r := r1 ++ r2) hl.2 fun y hy => by
      have h1 := h y (by simp [hy])
      have h2 := hl.1 y hy
      simp only [List.mem_append, List.mem_cons] at h1 ⊢
      rcases h1 with h1 | h1 | h1
      · exact .inl h1
      · exact absurd h1.symm h2
      · exact .inr h1
    simp only [List.length_append, List.length_cons] at this ⊢
    omega

/-- Behind the last that was told. -/
def bh (O : List At) (x : At) : Prop := ∀ y, O.getLast? = some y → 0 < plc x y

/-- What has been told so far. -/
structure Sel (L O : List At) : Prop where
  sorted : O.Pairwise (fun x y => plc x y < 0)
  sub : ∀ x ∈ O, x ∈ L
  rest : ∀ x ∈ L, x ∈ O ∨ bh O x

theorem Sel.start (L : List At) : Sel L [] := ⟨.nil, by simp, fun x _ => .inr (by simp [bh])⟩

/-- The least that lies behind, among the first i. -/
def Best (L O : List At) (i : Nat) (b : Int) : Prop :=
  (b = -1 ∧ ∀ j, j < i → ¬ bh O (nth L j)) ∨ ∃ m : Nat, b = m ∧ m < i ∧ bh O (nth L m) ∧ ∀ j, j < i → bh O (nth L j) → 0 ≤ plc (nth L j) (nth L m)

theorem Best.start (L O : List At) : Best L O 0 (-1) := .inl ⟨rfl, fun j hj => by omega⟩
theorem Best.skip {L O : List At} {i : Nat} {b : Int} (h : Best L O i b) (hn : ¬ bh O (nth L i)) : Best L O (i + 1) b := by
  rcases h with ⟨rfl, h⟩ | ⟨m, rfl, hm, hb, h⟩
  · refine .inl ⟨rfl, fun j hj => ?_⟩
    by_cases e : j = i
    · subst e; exact hn
    · exact h j (by omega)
  · refine .inr ⟨m, rfl, by omega, hb, fun j hj hbj => ?_⟩
    by_cases e : j = i
    · subst e; exact absurd hbj hn
    · exact h j (by omega) hbj
theorem Best.keep {L O : List At} {i m : Nat} (h : Best L O i m) (hn : 0 ≤ plc (nth L i) (nth L m)) : Best L O (i + 1) m := by
  rcases h with ⟨h0, h⟩ | ⟨m', e, hm, hb, h⟩
  · omega
  · obtain rfl : m = m' := by omega
    refine .inr ⟨m, rfl, by omega, hb, fun j hj hbj => ?_⟩
    by_cases e : j = i
    · subst e; exact hn
    · exact h j (by omega) hbj
theorem Best.take {L O : List At} {i m : Nat} (h : Best L O i m) (hbi : bh O (nth L i)) (hn : plc (nth L i) (nth L m) < 0) : Best L O (i + 1) i := by
  rcases h with ⟨h0, h⟩ | ⟨m', e, hm, hb, h⟩
  · omega
  · obtain rfl : m = m' := by omega
    refine .inr ⟨i, rfl, by omega, hbi, fun j hj hbj => ?_⟩
    by_cases e : j = i
    · subst e; rw [plc_tp.refl]; omega
    · have h1 := h j (by omega) hbj
      have h2 := plc_tp.anti (nth L m) (nth L j)
      have h3 := plc_tp.lt_le hn (y := nth L m) (z := nth L j) (by omega)
      have h4 := plc_tp.anti (nth L i) (nth L j)
      omega
theorem Best.first {L O : List At} {i : Nat} (h : Best L O i (-1)) (hbi : bh O (nth L i)) : Best L O (i + 1) i := by
  rcases h with ⟨_, h⟩ | ⟨m, e, _⟩
  · refine .inr ⟨i, rfl, by omega, hbi, fun j hj hbj => ?_⟩
    by_cases e : j = i
    · subst e; rw [plc_tp.refl]; omega
    · exact absurd hbj (h j (by omega))
  · omega

theorem apart_ne {L : List At} (h : L.Pairwise (fun x y => plc x y ≠ 0)) : L.Pairwise (· ≠ ·) :=
  h.imp fun {x y} hxy e => hxy (by rw [e]; exact plc_tp.refl y)
theorem sorted_ne {L : List At} (h : L.Pairwise (fun x y => plc x y < 0)) : L.Pairwise (· ≠ ·) :=
  h.imp fun {x y} hxy e => by rw [e, plc_tp.refl] at hxy; omega

/-- While fewer are told than there are, there is one behind: a best is found. -/
theorem Best.found {L O : List At} {b : Int} (hL : L.Pairwise (fun x y => plc x y ≠ 0)) (hs : Sel L O) (hlt : O.length < L.length) (h : Best L O L.length b) : ∃ m : Nat, b = m ∧ m < L.length ∧ bh O (nth L m) ∧ ∀ j, j < L.length → bh O (nth L j) → 0 ≤ plc (nth L j) (nth L m) := by
  rcases h with ⟨rfl, h⟩ | h
  · exfalso
    have : L.length ≤ O.length := length_le_of_sub (apart_ne hL) fun x hx => by
      rcases hs.rest x hx with hr | hr
      · exact hr
      · obtain ⟨k, hk, rfl⟩ := mem_nth hx
        exact absurd hr (h k hk)
    omega
  · exact h

theorem last_mem_le {O : List At} (h : O.Pairwise (fun x y => plc x y < 0)) {x z : At} (hz : O.getLast? = some z) (hx : x ∈ O) : plc x z ≤ 0 := by
  obtain ⟨l, rfl⟩ : ∃ l, O = l ++ [z] := by
    have := List.getLast?_eq_some_iff.1 hz
    obtain ⟨l, hl⟩ := this
    exact ⟨l, hl⟩
  rw [List.pairwise_append] at h
  simp only [List.mem_append, List.mem_singleton] at hx
  rcases hx with hx | rfl
  · have := h.2.2 x hx z (by simp); omega
  · rw [plc_tp.refl]; omega

theorem Sel.step {L O : List At} (hL : L.Pairwise (fun x y => plc x y ≠ 0)) (hs : Sel L O) {m : Nat} (hm : m < L.length) (hb : bh O (nth L m)) (hmin : ∀ j, j < L.length → bh O (nth L j) → 0 ≤ plc (nth L j) (nth L m)) : Sel L (O ++ [nth L m]) where
  sorted := by
    rw [List.pairwise_append]
    refine ⟨hs.sorted, List.pairwise_singleton _ _, fun x hx y hy => ?_⟩
    rw [List.mem_singleton] at hy
    subst hy
    cases hl : O.getLast? with
    | none => rw [List.getLast?_eq_none_iff] at hl; subst hl; simp at hx
    | some z =>
      have h1 := last_mem_le hs.sorted hl hx
      have h2 := hb z hl
      have h3 := plc_tp.anti (nth L m) z
      exact plc_tp.le_lt h1 (by omega)
  sub x hx := by
    simp only [List.mem_append, List.mem_singleton] at hx
    rcases hx with hx | rfl
    · exact hs.sub x hx
    · exact nth_mem L m hm
  rest x hx := by
    rcases hs.rest x hx with hr | hr
    · exact .inl (by simp [hr])
    · obtain ⟨j, hj, rfl⟩ := mem_nth hx
      have h1 := hmin j hj hr
      by_cases e : nth L j = nth L m
      · exact .inl (by simp [e])
      · refine .inr fun z hz => ?_
        rw [List.getLast?_concat] at hz
        obtain rfl : nth L m = z := by simpa using hz
        have hne : plc (nth L j) (nth L m) ≠ 0 := by
          have hjm : j ≠ m := fun e' => e (by rw [e'])
          rw [nth_eq L j hj, nth_eq L m hm]
          rcases Nat.lt_or_gt_of_ne hjm with h | h
          · exact List.pairwise_iff_getElem.1 hL j m hj hm h
          · intro e0; exact List.pairwise_iff_getElem.1 hL m j hm hj h (plc_symm e0)
        omega

theorem Sel.done {l O : List At} (hs : Sel (leftTo l l.length) O) (hlen : (leftTo l l.length).length ≤ O.length) : IsTold l O where
  sorted := hs.sorted
  great x hx := left_great x (hs.sub x hx)
  all y hy := by
    obtain ⟨x, hx, hp⟩ := left_all y hy
    rcases hs.rest x hx with hr | hr
    · exact ⟨x, hr, hp⟩
    · by_cases hxO : x ∈ O
      · exact ⟨x, hxO, hp⟩
      · exfalso
        have : (x :: O).length ≤ (leftTo l l.length).length := length_le_of_sub (by
            rw [List.pairwise_cons]
            exact ⟨fun y hy e => hxO (e ▸ hy), sorted_ne hs.sorted⟩) fun y hy => by
          rcases List.mem_cons.1 hy with rfl | hy
          · exact hx
          · exact hs.sub y hy
        simp at this
        omega

def bhB (O : List At) (x : At) : Bool := match O.getLast? with | none => true | some y => decide (0 < plc x y)
theorem bhB_iff (O : List At) (x : At) : bhB O x = true ↔ bh O x := by
  unfold bhB bh
  cases h : O.getLast? <;> simp
theorem bhB_nil (x : At) : bhB [] x = true := rfl
theorem bhB_last (O : List At) (p : Nat) (h : O.length = p + 1) (x : At) : bhB O x = decide (0 < plc x (nth O p)) := by
  have : O.getLast? = some (nth O p) := by
    rw [List.getLast?_eq_getElem?, h, nth_eq O p (by omega)]; simp [h]
  unfold bhB; rw [this]

end Go.Proofs.YtahdlejgjcjeoaaGreatDoor

namespace Go.Proofs.YtahdlejgjcjeoaaGreatDoor
open Go.RowKit

/-- Nothing new to y. -/
def old (x y : At) : Bool := plc x y == 0 && decide (grd x y ≤ 0)
def frTo (x : At) (m : List At) (k : Nat) : Bool := (List.range k).all fun j => !old x (nth m j)
theorem frTo_succ (x : At) (m : List At) (k : Nat) : frTo x m (k + 1) = (frTo x m k && !old x (nth m k)) := by
  unfold frTo
  rw [List.range_succ, List.all_append]
  simp
def newsTo (L m : List At) (k : Nat) : List At := (L.take k).filter fun x => frTo x m m.length
theorem newsTo_succ (L m : List At) (k : Nat) (h : k < L.length) : newsTo L m (k + 1) = if frTo (nth L k) m m.length then newsTo L m k ++ [nth L k] else newsTo L m k := by
  unfold newsTo
  rw [List.take_succ_eq_append_getElem h, List.filter_append, nth_eq L k h]
  by_cases hf : frTo L[k] m m.length <;> simp [hf]
theorem newsTo_length (L m : List At) (k : Nat) (h : k ≤ L.length) : (newsTo L m k).length ≤ k := by
  unfold newsTo
  have := List.length_filter_le (fun x => frTo x m m.length) (L.take k)
  rw [List.length_take] at this
  omega

/-- x is of what l has and m has not. -/
def NewIn (l m : List At) (x : At) : Prop := x ∈ l ∧ (∀ y ∈ l, plc y x = 0 → grd y x ≤ 0) ∧ ∀ y ∈ m, plc x y = 0 → 0 < grd x y
structure IsNews (l m out : List At) : Prop where
  sorted : out.Pairwise (fun x y => plc x y < 0)
  mem : ∀ x, x ∈ out ↔ NewIn l m x

theorem IsNews.unique {l m a b : List At} (ha : IsNews l m a) (hb : IsNews l m b) : a = b :=
  sorted_ext plc_tp ha.sorted hb.sorted fun x => by rw [ha.mem, hb.mem]
theorem IsNews.length {l m a : List At} (h : IsNews l m a) : a.length ≤ l.length :=
  length_le_of_sub (sorted_ne h.sorted) (fun x hx => ((h.mem x).1 hx).1)

theorem told_len {l out : List At} (h : IsTold l out) : out.length ≤ l.length := length_le_of_sub (sorted_ne h.sorted) (fun x hx => (h.great x hx).1)

theorem frTo_iff (x : At) (m : List At) : frTo x m m.length = true ↔ ∀ y ∈ m, plc x y = 0 → 0 < grd x y := by
  unfold frTo
  rw [List.all_eq_true]
  constructor
  · intro h y hy hp
    obtain ⟨k, hk, rfl⟩ := mem_nth hy
    have := h k (List.mem_range.2 hk)
    simp [old, hp] at this
    omega
  · intro h j hj
    rw [List.mem_range] at hj
    have := h (nth m j) (nth_mem m j hj)
    by_cases hp : plc x (nth m j) = 0
    · have := this hp
      simp [old, hp]
      omega
    · simp [old, hp]

theorem same_of2 {x y : At} (hx : mayB x = true) (hy : mayB y = true) (hp : plc x y = 0) (h1 : grd x y ≤ 0) (h2 : grd y x ≤ 0) : x = y := by
  rw [grd_eq _ _ (plc_ty hp)] at h1
  rw [grd_eq _ _ (plc_ty hp).symm] at h2
  have h3 := gcmp_tp.anti (grade x) (grade y)
  have h4 := (gcmp_zero (grade x) (grade y)).1 (by omega)
  rw [← unite_eq x hx, ← unite_eq y hy, (show slot x = slot y by rw [plc_eq, scmp_zero] at hp; exact hp), h4]

theorem news_of_told {l m L : List At} (hl : ∀ x ∈ l, mayB x = true) (h : IsTold l L) : IsNews l m (newsTo L m L.length) where
  sorted := by
    unfold newsTo
    rw [List.take_length]
    exact h.sorted.filter _
  mem x := by
    unfold newsTo
    rw [List.take_length, List.mem_filter, frTo_iff]
    constructor
    · rintro ⟨h1, h2⟩
      exact ⟨(h.great x h1).1, (h.great x h1).2, h2⟩
    · rintro ⟨h1, h2, h3⟩
      refine ⟨?_, h3⟩
      obtain ⟨y, hy, hp⟩ := h.all x h1
      obtain ⟨g1, g2⟩ := h.great y hy
      have : x = y := same_of2 (hl x h1) (hl y g1) hp (g2 x h1 hp) (h2 y g1 (plc_symm hp))
      rw [this]
      exact hy

end Go.Proofs.YtahdlejgjcjeoaaGreatDoor
