/- What is new, as plain lists. No program. -/
import Derived.Test.YtahdlejgjcjeoaaDoorNewsP
import Derived.Test.YtahdlejgjcjeoaaDoorTellM
namespace Go.Proofs.YtahdlejgjcjeoaaDoor
open Go.RowKit

/-- A state without what another has as well. -/
def thinM (M O : Sl → Option Gr) (s : Sl) : Option Gr :=
  match M s, O s with
  | some g, some h => if gcmp g h ≤ 0 then none else some g
  | some g, none => some g
  | none, _ => none
theorem thinM_some {M O : Sl → Option Gr} {s : Sl} {g : Gr} (h : thinM M O s = some g) : M s = some g ∧ ∀ k, O s = some k → 0 < gcmp g k := by
  unfold thinM at h
  split at h
  · rename_i g' k' hM hO
    split at h
    · cases h
    · rename_i hn
      cases h
      exact ⟨hM, fun k hk => by rw [hO] at hk; cases hk; omega⟩
  · rename_i g' hM hO
    cases h
    exact ⟨hM, fun k hk => by rw [hO] at hk; cases hk⟩
  · cases h
theorem thinM_mk {M O : Sl → Option Gr} {s : Sl} {g : Gr} (h : M s = some g) (k : ∀ k, O s = some k → 0 < gcmp g k) : thinM M O s = some g := by
  unfold thinM
  rw [h]
  cases hO : O s with
  | none => rfl
  | some k' => 
    have := k k' hO
    simp only
    rw [if_neg (by omega)]

theorem thin_may {M O : Sl → Option Gr} (h : MayMap M) : MayMap (thinM M O) := fun s g hs => h s g (thinM_some hs).1

theorem Holds2.news {M O : Sl → Option Gr} {l m out : List At} (h : Holds2 M l) (k : Holds2 O m) (hl : ∀ a ∈ l, mayB a = true) (ht : TellOf (thinM M O) out) : IsNews l m out where
  sorted := ht.sorted
  mem x := by
    rw [ht.mem]
    constructor
    · rintro ⟨hmx, hx⟩
      obtain ⟨hMx, hOx⟩ := thinM_some hx
      obtain ⟨a, ha, h1, h2⟩ := h.only _ _ hMx
      have hax : a = x := by rw [← unite_eq a (hl a ha), ← unite_eq x hmx, h1, h2]
      refine ⟨hax ▸ ha, fun y hy hp => ?_, fun y hy hp => ?_⟩
      · obtain ⟨g, hg, hle⟩ := h.top y hy
        rw [plc_slot hp, hMx] at hg
        rw [grd_eq y x (plc_ty hp), Option.some.inj hg]
        exact hle
      · obtain ⟨g, hg, hle⟩ := k.top y hy
        rw [← plc_slot hp] at hg
        have h3 := hOx g hg
        rw [grd_eq x y (plc_ty hp)]
        have h4 := gcmp_tp.anti (grade x) g
        have h5 := gcmp_tp.le_lt hle (z := grade x) (by omega)
        have h6 := gcmp_tp.anti (grade y) (grade x)
        omega
    · rintro ⟨h1, h2, h3⟩
      refine ⟨hl x h1, thinM_mk ?_ ?_⟩
      · obtain ⟨g, hg, hle⟩ := h.top x h1
        obtain ⟨b, hb, e1, rfl⟩ := h.only _ _ hg
        have hp : plc b x = 0 := by rw [plc_eq, scmp_zero, e1]
        have h4 := h2 b hb hp
        rw [grd_eq b x (plc_ty hp)] at h4
        have h5 := gcmp_tp.anti (grade x) (grade b)
        rw [hg, (gcmp_zero (grade x) (grade b)).1 (by omega)]
      · intro g hg
        obtain ⟨y, hy, e1, rfl⟩ := k.only _ _ hg
        have hp : plc x y = 0 := by rw [plc_eq, scmp_zero, e1]
        have := h3 y hy hp
        rwa [grd_eq x y (plc_ty hp)] at this

end Go.Proofs.YtahdlejgjcjeoaaDoor
