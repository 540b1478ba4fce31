/- What is new, as plain lists. No program. -/
import Derived.Test.YtfddkkkkehbecaaDoorSel
import Derived.Test.YtfddkkkkehbecaaDoorTellM
namespace Go.Proofs.YtfddkkkkehbecaaDoor
open Go.RowKit

/-- Nothing new to y. -/
def old (x y : At) : Bool := plc x y == 0 && decide (grd x y ≤ 0)
def frTo (x : At) (m : List At) (k : Nat) : Bool := (List.range k).all fun j => !old x (nth m j)
theorem frTo_succ (x : At) (m : List At) (k : Nat) : frTo x m (k + 1) = (frTo x m k && !old x (nth m k)) := by
  unfold frTo
  rw [List.range_succ, List.all_append]
  simp
def newsTo (L m : List At) (k : Nat) : List At := (L.take k).filter fun x => frTo x m m.length
theorem newsTo_succ (L m : List At) (k : Nat) (h : k < L.length) : newsTo L m (k + 1) = if frTo (nth L k) m m.length then newsTo L m k ++ [nth L k] else newsTo L m k := by
  unfold newsTo
  rw [List.take_succ_eq_append_getElem h, List.filter_append, nth_eq L k h]
  by_cases hf : frTo L[k] m m.length <;> simp [hf]
theorem newsTo_length (L m : List At) (k : Nat) (h : k ≤ L.length) : (newsTo L m k).length ≤ k := by
  unfold newsTo
  have := List.length_filter_le (fun x => frTo x m m.length) (L.take k)
  rw [List.length_take] at this
  omega

/-- x is of what l has and m has not. -/
def NewIn (l m : List At) (x : At) : Prop := x ∈ l ∧ (∀ y ∈ l, plc y x = 0 → grd y x ≤ 0) ∧ ∀ y ∈ m, plc x y = 0 → 0 < grd x y
structure IsNews (l m out : List At) : Prop where
  sorted : out.Pairwise (fun x y => plc x y < 0)
  mem : ∀ x, x ∈ out ↔ NewIn l m x

theorem IsNews.unique {l m a b : List At} (ha : IsNews l m a) (hb : IsNews l m b) : a = b :=
  sorted_ext plc_tp ha.sorted hb.sorted fun x => by rw [ha.mem, hb.mem]
theorem IsNews.length {l m a : List At} (h : IsNews l m a) : a.length ≤ l.length :=
  length_le_of_sub (sorted_ne h.sorted) (fun x hx => ((h.mem x).1 hx).1)

theorem told_len {l out : List At} (h : IsTold l out) : out.length ≤ l.length := length_le_of_sub (sorted_ne h.sorted) (fun x hx => (h.great x hx).1)

theorem frTo_iff (x : At) (m : List At) : frTo x m m.length = true ↔ ∀ y ∈ m, plc x y = 0 → 0 < grd x y := by
  unfold frTo
  rw [List.all_eq_true]
  constructor
  · intro h y hy hp
    obtain ⟨k, hk, rfl⟩ := mem_nth hy
    have := h k (List.mem_range.2 hk)
    simp [old, hp] at this
    omega
  · intro h j hj
    rw [List.mem_range] at hj
    have := h (nth m j) (nth_mem m j hj)
    by_cases hp : plc x (nth m j) = 0
    · have := this hp
      simp [old, hp]
      omega
    · simp [old, hp]

theorem same_of2 {x y : At} (hx : mayB x = true) (hy : mayB y = true) (hp : plc x y = 0) (h1 : grd x y ≤ 0) (h2 : grd y x ≤ 0) : x = y := by
  rw [grd_eq _ _ (plc_ty hp)] at h1
  rw [grd_eq _ _ (plc_ty hp).symm] at h2
  have h3 := gcmp_tp.anti (grade x) (grade y)
  have h4 := (gcmp_zero (grade x) (grade y)).1 (by omega)
  rw [← unite_eq x hx, ← unite_eq y hy, plc_slot hp, h4]

theorem news_of_told {l m L : List At} (hl : ∀ x ∈ l, mayB x = true) (h : IsTold l L) : IsNews l m (newsTo L m L.length) where
  sorted := by
    unfold newsTo
    rw [List.take_length]
    exact h.sorted.filter _
  mem x := by
    unfold newsTo
    rw [List.take_length, List.mem_filter, frTo_iff]
    constructor
    · rintro ⟨h1, h2⟩
      exact ⟨(h.great x h1).1, (h.great x h1).2, h2⟩
    · rintro ⟨h1, h2, h3⟩
      refine ⟨?_, h3⟩
      obtain ⟨y, hy, hp⟩ := h.all x h1
      obtain ⟨g1, g2⟩ := h.great y hy
      have : x = y := same_of2 (hl x h1) (hl y g1) hp (g2 x h1 hp) (h2 y g1 (plc_symm hp))
      rw [this]
      exact hy

/-- A state without what another has as well. -/
def thinM (M O : Sl → Option Gr) (s : Sl) : Option Gr :=
  match M s, O s with
  | some g, some h => if gcmp g h ≤ 0 then none else some g
  | some g, none => some g
  | none, _ => none
theorem thinM_some {M O : Sl → Option Gr} {s : Sl} {g : Gr} (h : thinM M O s = some g) : M s = some g ∧ ∀ k, O s = some k → 0 < gcmp g k := by
  unfold thinM at h
  split at h
  · rename_i g' k' hM hO
    split at h
    · cases h
    · rename_i hn
      cases h
      exact ⟨hM, fun k hk => by rw [hO] at hk; cases hk; omega⟩
  · rename_i g' hM hO
    cases h
    exact ⟨hM, fun k hk => by rw [hO] at hk; cases hk⟩
  · cases h
theorem thinM_mk {M O : Sl → Option Gr} {s : Sl} {g : Gr} (h : M s = some g) (k : ∀ k, O s = some k → 0 < gcmp g k) : thinM M O s = some g := by
  unfold thinM
  rw [h]
  cases hO : O s with
  | none => rfl
  | some k' => 
    have := k k' hO
    simp only
    rw [if_neg (by omega)]

theorem thin_may {M O : Sl → Option Gr} (h : MayMap M) : MayMap (thinM M O) := fun s g hs => h s g (thinM_some hs).1

theorem Holds2.news {M O : Sl → Option Gr} {l m out : List At} (h : Holds2 M l) (k : Holds2 O m) (hl : ∀ a ∈ l, mayB a = true) (ht : TellOf (thinM M O) out) : IsNews l m out where
  sorted := ht.sorted
  mem x := by
    rw [ht.mem]
    constructor
    · rintro ⟨hmx, hx⟩
      obtain ⟨hMx, hOx⟩ := thinM_some hx
      obtain ⟨a, ha, h1, h2⟩ := h.only _ _ hMx
      have hax : a = x := by rw [← unite_eq a (hl a ha), ← unite_eq x hmx, h1, h2]
      refine ⟨hax ▸ ha, fun y hy hp => ?_, fun y hy hp => ?_⟩
      · obtain ⟨g, hg, hle⟩ := h.top y hy
        rw [plc_slot hp, hMx] at hg
        rw [grd_eq y x (plc_ty hp), Option.some.inj hg]
        exact hle
      · obtain ⟨g, hg, hle⟩ := k.top y hy
        rw [← plc_slot hp] at hg
        have h3 := hOx g hg
        rw [grd_eq x y (plc_ty hp)]
        have h4 := gcmp_tp.anti (grade x) g
        have h5 := gcmp_tp.le_lt hle (z := grade x) (by omega)
        have h6 := gcmp_tp.anti (grade y) (grade x)
        omega
    · rintro ⟨h1, h2, h3⟩
      refine ⟨hl x h1, thinM_mk ?_ ?_⟩
      · obtain ⟨g, hg, hle⟩ := h.top x h1
        obtain ⟨b, hb, e1, rfl⟩ := h.only _ _ hg
        have hp : plc b x = 0 := by rw [plc_eq, scmp_zero, e1]
        have h4 := h2 b hb hp
        rw [grd_eq b x (plc_ty hp)] at h4
        have h5 := gcmp_tp.anti (grade x) (grade b)
        rw [hg, (gcmp_zero (grade x) (grade b)).1 (by omega)]
      · intro g hg
        obtain ⟨y, hy, e1, rfl⟩ := k.only _ _ hg
        have hp : plc x y = 0 := by rw [plc_eq, scmp_zero, e1]
        have := h3 y hy hp
        rwa [grd_eq x y (plc_ty hp)] at this

end Go.Proofs.YtfddkkkkehbecaaDoor
