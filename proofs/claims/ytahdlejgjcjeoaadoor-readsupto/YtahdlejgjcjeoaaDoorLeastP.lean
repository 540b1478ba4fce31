/- Least, as plain lists. No program. -/
import Derived.Test.YtahdlejgjcjeoaaDoorNews
namespace Go.Proofs.YtahdlejgjcjeoaaDoor
open Go.RowKit

theorem grd_self (x : At) : grd x x = 0 := by
  have := grd_anti (a := x) (b := x) rfl
  omega

/-- What is new, joined with what was there, is all. -/
theorem news_joins {a b d W : List At} (ha : ∀ x ∈ a ++ b, mayB x = true) (hd : IsNews a b d) (hW : IsTold (a ++ b) W) : IsTold (d ++ b) W where
  sorted := hW.sorted
  great x hx := by
    obtain ⟨hm, hg⟩ := hW.great x hx
    have hsub : ∀ y ∈ d ++ b, y ∈ a ++ b := fun y hy => by
      rcases List.mem_append.1 hy with h | h
      · exact List.mem_append_left _ ((hd.mem y).1 h).1
      · exact List.mem_append_right _ h
    refine ⟨?_, fun y hy => hg y (hsub y hy)⟩
    rcases List.mem_append.1 hm with h | h
    · by_cases hn : ∀ y ∈ b, plc x y = 0 → 0 < grd x y
      · exact List.mem_append_left _ ((hd.mem x).2 ⟨h, fun y hy => hg y (List.mem_append_left _ hy), hn⟩)
      · simp only [Classical.not_forall] at hn
        obtain ⟨y, hy, hp, hgr⟩ := hn
        have hyx : plc y x = 0 := by rw [plc_tp.anti x y, hp]; rfl
        have h1 := hg y (List.mem_append_right _ hy) hyx
        have h2 := grd_anti (plc_ty hp)
        have he := same_of (ha x hm) (ha y (List.mem_append_right _ hy)) hp (by omega)
        rw [he]
        exact List.mem_append_right _ hy
    · exact List.mem_append_right _ h
  all y hy := hW.all y (by
    rcases List.mem_append.1 hy with h | h
    · exact List.mem_append_left _ ((hd.mem y).1 h).1
    · exact List.mem_append_right _ h)

/-- What is new is told. -/
theorem news_told {a b d W : List At} (ha : ∀ x ∈ a ++ b, mayB x = true) (hd : IsNews a b d) (hW : IsTold (a ++ b) W) {x : At} (hx : x ∈ d) : x ∈ W := by
  obtain ⟨hm, hg, hn⟩ := (hd.mem x).1 hx
  obtain ⟨z, hz, hp⟩ := hW.all x (List.mem_append_left _ hm)
  obtain ⟨hzm, hzg⟩ := hW.great z hz
  have h1 := hzg x (List.mem_append_left _ hm) hp
  rcases List.mem_append.1 hzm with h | h
  · have hzx : plc z x = 0 := by rw [plc_tp.anti x z, hp]; rfl
    have h2 := hg z h hzx
    have h3 := grd_anti (plc_ty hp)
    rw [same_of (ha x (List.mem_append_left _ hm)) (ha z hzm) hp (by omega)]
    exact hz
  · have := hn z h hp
    omega
theorem news_not {a b d : List At} (hd : IsNews a b d) {x : At} (hx : x ∈ d) : x ∉ b := fun h => by
  have := ((hd.mem x).1 hx).2.2 x h (plc_tp.refl x)
  rw [grd_self] at this
  omega
/-- Without one of its atoms it is not all. -/
theorem news_less {a b d W L : List At} (ha : ∀ x ∈ a ++ b, mayB x = true) (hd : IsNews a b d) (hW : IsTold (a ++ b) W) (i : Nat) (hi : i < d.length) (hL : IsTold (d.take i ++ d.drop (i + 1) ++ b) L) : L ≠ W := by
  rintro rfl
  have hx := List.getElem_mem hi
  have h1 := news_told ha hd hW hx
  have h2 := (hL.great _ h1).1
  have hs := hd.sorted
  rcases List.mem_append.1 h2 with h | h
  · have e : d = d.take i ++ d[i] :: d.drop (i + 1) := by simp
    rw [e, List.pairwise_append, List.pairwise_cons] at hs
    rcases List.mem_append.1 h with h | h
    · have := hs.2.2 _ h d[i] List.mem_cons_self
      rw [plc_tp.refl] at this
      omega
    · have := hs.2.1.1 _ h
      rw [plc_tp.refl] at this
      omega
  · exact news_not hd hx h
/-- It is in all else that does. -/
theorem news_under {a b c d W : List At} (ha : ∀ x ∈ a ++ b, mayB x = true) (hd : IsNews a b d) (hW : IsTold (a ++ b) W) (hC : IsTold (c ++ b) W) : ∀ x ∈ d, x ∈ c := fun x hx => by
  rcases List.mem_append.1 (hC.great x (news_told ha hd hW hx)).1 with h | h
  · exact h
  · exact absurd h (news_not hd hx)

/-- The laws' own slots and grades. -/
def sameSlotB (a b : At) : Bool := decide (a.ty = b.ty) && decide (a.key = b.key) && (decide (a.ty = 5) || (decide (a.side = b.side) && decide (a.who = b.who) && decide (a.elem = b.elem)))
def lowerB (a b : At) : Bool :=
  if a.n ≠ b.n ∨ a.ty ≠ 5 then decide (a.n < b.n)
  else if a.who ≠ b.who then decide (a.who < b.who)
  else decide (ordS a.elem b.elem < 0)
theorem sameSlotB_self (a : At) : sameSlotB a a = true := by simp [sameSlotB]
theorem ordS_self (s : ByteArray) : ordS s s = 0 := by
  have h := plc_tp.refl ⟨5, s, 0, 0, s, 0⟩
  have : plc ⟨5, s, 0, 0, s, 0⟩ ⟨5, s, 0, 0, s, 0⟩ = ordS s s := by simp [plc]
  rwa [this] at h
theorem lowerB_self (a : At) : lowerB a a = false := by
  unfold lowerB
  rw [ordS_self]
  simp
end Go.Proofs.YtahdlejgjcjeoaaDoor
