/- What the program's map holds, told, is the document's state. No walk. -/
import Derived.Test.YtahdlejgjcjeoaaDoorStTell
namespace Go.Proofs.YtahdlejgjcjeoaaDoor
open Go.RowKit

structure Holds2 (M : Sl → Option Gr) (l : List At) : Prop where
  only : ∀ s g, M s = some g → ∃ a ∈ l, slot a = s ∧ grade a = g
  top : ∀ a ∈ l, ∃ g, M (slot a) = some g ∧ gcmp (grade a) g ≤ 0

theorem holds_none : Holds2 (fun _ => none) [] := ⟨fun s g h => (by cases h), fun a h => (by cases h)⟩
theorem Holds2.add {M : Sl → Option Gr} {l : List At} (h : Holds2 M l) (a : At) : Holds2 (addA M a) (l ++ [a]) where
  only s g hs := by
    unfold addA upd at hs
    split at hs
    · rename_i he
      obtain rfl := (scmp_zero _ _).1 he
      cases hs
      split
      · exact ⟨a, by simp, rfl, rfl⟩
      · rename_i g0 hM
        split
        · exact ⟨a, by simp, rfl, rfl⟩
        · obtain ⟨b, hb, h1, h2⟩ := h.only _ _ hM
          exact ⟨b, by simp [hb], h1, h2⟩
    · obtain ⟨b, hb, h1, h2⟩ := h.only _ _ hs
      exact ⟨b, by simp [hb], h1, h2⟩
  top b hb := by
    rw [List.mem_append, List.mem_singleton] at hb
    unfold addA upd
    by_cases he : slot b = slot a
    · rw [if_pos ((scmp_zero _ _).2 he)]
      refine ⟨_, rfl, ?_⟩
      rcases hb with hb | rfl
      · obtain ⟨g, hg, hle⟩ := h.top b hb
        rw [he] at hg
        rw [hg]
        dsimp only
        split
        · rename_i hlt; exact gcmp_tp.trans _ _ _ hle (by omega)
        · exact hle
      · split
        · rw [gcmp_tp.refl]; omega
        · rename_i g0 _
          split
          · rw [gcmp_tp.refl]; omega
          · have := gcmp_tp.anti (grade b) g0; omega
    · rw [if_neg (fun e => he ((scmp_zero _ _).1 e))]
      rcases hb with hb | rfl
      · exact h.top b hb
      · exact absurd rfl he
theorem addTo_append (M : Sl → Option Gr) (l r : List At) : addTo M (l ++ r) = addTo (addTo M l) r := by simp [addTo]
theorem Holds2.addTo {M : Sl → Option Gr} {l : List At} (h : Holds2 M l) : ∀ r : List At, Holds2 (addTo M r) (l ++ r) := by
  intro r
  induction r generalizing M l with
  | nil => simpa [Go.Proofs.YtahdlejgjcjeoaaDoor.addTo] using h
  | cons a r ih =>
    have := ih (h.add a)
    rw [List.append_assoc] at this
    exact this
theorem holds_list (l : List At) : Holds2 (addTo (fun _ => none) l) l := by simpa using holds_none.addTo l

theorem Holds2.mayMap {M : Sl → Option Gr} {l : List At} (h : Holds2 M l) (hl : ∀ a ∈ l, mayB a = true) : MayMap M := by
  intro s g hs
  obtain ⟨a, ha, h1, h2⟩ := h.only s g hs
  exact ⟨a, hl a ha, h1, h2⟩

theorem Holds2.told {M : Sl → Option Gr} {l out : List At} (h : Holds2 M l) (hl : ∀ a ∈ l, mayB a = true) (ht : TellOf M out) : IsTold l out where
  sorted := ht.sorted
  great x hx := by
    obtain ⟨hmx, hMx⟩ := (ht.mem x).1 hx
    obtain ⟨a, ha, h1, h2⟩ := h.only _ _ hMx
    have hax : a = x := by rw [← unite_eq a (hl a ha), ← unite_eq x hmx, h1, h2]
    refine ⟨hax ▸ ha, fun y hy hp => ?_⟩
    obtain ⟨g, hg, hle⟩ := h.top y hy
    rw [plc_slot hp, hMx] at hg
    rw [grd_eq y x (plc_ty hp), Option.some.inj hg]
    exact hle
  all y hy := by
    obtain ⟨g, hg, _⟩ := h.top y hy
    obtain ⟨a, ha, h1, h2⟩ := h.only _ _ hg
    refine ⟨a, (ht.mem a).2 ⟨hl a ha, by rw [h1, h2]; exact hg⟩, ?_⟩
    rw [plc_eq, scmp_zero, h1]

end Go.Proofs.YtahdlejgjcjeoaaDoor
