/- What one list has and another has not, plain. -/
import Derived.Test.YtahdlejgjcjeoaaDoorSel
namespace Go.Proofs.YtahdlejgjcjeoaaDoor
open Go.RowKit

/-- Nothing new to y. -/
def old (x y : At) : Bool := plc x y == 0 && decide (grd x y ≤ 0)
def frTo (x : At) (m : List At) (k : Nat) : Bool := (List.range k).all fun j => !old x (nth m j)
theorem frTo_succ (x : At) (m : List At) (k : Nat) : frTo x m (k + 1) = (frTo x m k && !old x (nth m k)) := by
  unfold frTo
  rw [List.range_succ, List.all_append]
  simp
def newsTo (L m : List At) (k : Nat) : List At := (L.take k).filter fun x => frTo x m m.length
theorem newsTo_succ (L m : List At) (k : Nat) (h : k < L.length) : newsTo L m (k + 1) = if frTo (nth L k) m m.length then newsTo L m k ++ [nth L k] else newsTo L m k := by
  unfold newsTo
  rw [List.take_succ_eq_append_getElem h, List.filter_append, nth_eq L k h]
  by_cases hf : frTo L[k] m m.length <;> simp [hf]
theorem newsTo_length (L m : List At) (k : Nat) (h : k ≤ L.length) : (newsTo L m k).length ≤ k := by
  unfold newsTo
  have := List.length_filter_le (fun x => frTo x m m.length) (L.take k)
  rw [List.length_take] at this
  omega

/-- x is of what l has and m has not. -/
def NewIn (l m : List At) (x : At) : Prop := x ∈ l ∧ (∀ y ∈ l, plc y x = 0 → grd y x ≤ 0) ∧ ∀ y ∈ m, plc x y = 0 → 0 < grd x y
structure IsNews (l m out : List At) : Prop where
  sorted : out.Pairwise (fun x y => plc x y < 0)
  mem : ∀ x, x ∈ out ↔ NewIn l m x

theorem IsNews.unique {l m a b : List At} (ha : IsNews l m a) (hb : IsNews l m b) : a = b :=
  sorted_ext plc_tp ha.sorted hb.sorted fun x => by rw [ha.mem, hb.mem]
theorem IsNews.length {l m a : List At} (h : IsNews l m a) : a.length ≤ l.length :=
  length_le_of_sub (sorted_ne h.sorted) (fun x hx => ((h.mem x).1 hx).1)

theorem told_len {l out : List At} (h : IsTold l out) : out.length ≤ l.length := length_le_of_sub (sorted_ne h.sorted) (fun x hx => (h.great x hx).1)

theorem frTo_iff (x : At) (m : List At) : frTo x m m.length = true ↔ ∀ y ∈ m, plc x y = 0 → 0 < grd x y := by
  unfold frTo
  rw [List.all_eq_true]
  constructor
  · intro h y hy hp
    obtain ⟨k, hk, rfl⟩ := mem_nth hy
    have := h k (List.mem_range.2 hk)
    simp [old, hp] at this
    omega
  · intro h j hj
    rw [List.mem_range] at hj
    have := h (nth m j) (nth_mem m j hj)
    by_cases hp : plc x (nth m j) = 0
    · have := this hp
      simp [old, hp]
      omega
    · simp [old, hp]

theorem same_of2 {x y : At} (hx : mayB x = true) (hy : mayB y = true) (hp : plc x y = 0) (h1 : grd x y ≤ 0) (h2 : grd y x ≤ 0) : x = y := by
  rw [grd_eq _ _ (plc_ty hp)] at h1
  rw [grd_eq _ _ (plc_ty hp).symm] at h2
  have h3 := gcmp_tp.anti (grade x) (grade y)
  have h4 := (gcmp_zero (grade x) (grade y)).1 (by omega)
  rw [← unite_eq x hx, ← unite_eq y hy, (show slot x = slot y by rw [plc_eq, scmp_zero] at hp; exact hp), h4]

theorem news_of_told {l m L : List At} (hl : ∀ x ∈ l, mayB x = true) (h : IsTold l L) : IsNews l m (newsTo L m L.length) where
  sorted := by
    unfold newsTo
    rw [List.take_length]
    exact h.sorted.filter _
  mem x := by
    unfold newsTo
    rw [List.take_length, List.mem_filter, frTo_iff]
    constructor
    · rintro ⟨h1, h2⟩
      exact ⟨(h.great x h1).1, (h.great x h1).2, h2⟩
    · rintro ⟨h1, h2, h3⟩
      refine ⟨?_, h3⟩
      obtain ⟨y, hy, hp⟩ := h.all x h1
      obtain ⟨g1, g2⟩ := h.great y hy
      have : x = y := same_of2 (hl x h1) (hl y g1) hp (g2 x h1 hp) (h2 y g1 (plc_symm hp))
      rw [this]
      exact hy

end Go.Proofs.YtahdlejgjcjeoaaDoor
