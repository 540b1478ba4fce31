/- A store of an atom into a row of the call's own. -/
import Derived.Test.YtahdlejgjcjeoaaDoorMem
import Derived.Shelf.SlSortFuncK.RowK2
namespace Go.Proofs.YtahdlejgjcjeoaaDoor
open Go.RowKit Go.Sort

theorem heap_setCell_at {w : World} {g o : Nat} {cur : Array Value} {t : TypeId} {fz : Nat × Nat} (hb : w.heap[g]? = some (.cells cur t fz)) (v : Value) : (w.setCell ⟨g, o, none⟩ v).heap[g]? = some (.cells (cur.setIfInBounds o v) t fz) := by
  rw [setCell_eq]
  simp [mapBlock, Array.getElem?_modify, hb, onCells]
theorem heap_setCells_at {g : Nat} {t : TypeId} {fz : Nat × Nat} : ∀ (vs : List Value) (o : Nat) (w : World) (cur : Array Value), w.heap[g]? = some (.cells cur t fz) → (w.setCells g o vs).heap[g]? = some (.cells (setMany cur o vs) t fz)
  | [], _, _, _, hb => hb
  | v :: r, o, w, cur, hb => by
    show ((w.setCell ⟨g, o, none⟩ v).setCells g (o + 1) r).heap[g]? = _
    rw [heap_setCells_at r (o + 1) _ _ (heap_setCell_at hb v)]
    rfl
theorem grown_setCells {g : Nat} : ∀ (vs : List Value) (o : Nat) (w : World), w.grownBy (w.setCells g o vs) (some g)
  | [], _, w => ⟨rfl, rfl, rfl, Nat.le_refl _, fun _ _ _ => rfl⟩
  | v :: r, o, w => by
    have h := grown_setCells (g := g) r (o + 1) (w.setCell ⟨g, o, none⟩ v)
    refine ⟨h.os, h.tape, h.output, Nat.le_trans (by simp [World.setCell]) h.size, fun k hk hne => ?_⟩
    have hk' : k < (w.setCell ⟨g, o, none⟩ v).heap.size := by simpa [World.setCell] using hk
    have := h.block k hk' hne
    have e : (w.setCell ⟨g, o, none⟩ v).heap[k]? = w.heap[k]? := Below.heap_setCell _ _ _ _ (fun e => hne (by rw [e]))
    exact this.trans e

theorem setMany_get? (cur E : Array Value) (vs : List Value) (o t : Nat) (hE : setMany cur o vs = E) (ht : t < cur.size) : E[t]? = if o ≤ t ∧ t < o + vs.length then vs[t - o]? else cur[t]? := by
  have e1 := get_setMany vs o cur t ht
  have hs : t < E.size := by rw [← hE, size_setMany]; exact ht
  rw [hE, getElem!_pos E t hs] at e1
  rw [Array.getElem?_eq_getElem hs, e1]
  split
  · rename_i hc
    have hl : t - o < vs.length := by omega
    rw [getElem!_pos vs (t - o) hl, List.getElem?_eq_getElem hl]
  · rw [getElem!_pos cur t ht, Array.getElem?_eq_getElem ht]

theorem take_setMany (cur E : Array Value) (L : List At) (i : Nat) (x : At) (_hi : i < L.length) (hsz : L.length * 6 ≤ cur.size) (h : cur.toList.take (L.length * 6) = flat L) (hE : setMany cur (i * 6) (enc x) = E) : E.toList.take (L.length * 6) = flat (L.set i x) := by
  have hget := fun t ht => setMany_get? cur E (enc x) (i * 6) t hE ht
  have hlx : (enc x).length = 6 := rfl
  rw [hlx] at hget
  clear hE
  have hfl := flat_length (L.set i x)
  have hll : (L.set i x).length = L.length := by simp
  apply List.ext_getElem?
  intro t
  by_cases ht : t < L.length * 6
  · rw [List.getElem?_take_of_lt ht, Array.getElem?_toList, hget t (by omega)]
    have hk : t / 6 < (L.set i x).length := by omega
    have hg := flat_get (L.set i x) (t / 6) (t % 6) hk (Nat.mod_lt _ (by decide))
    rw [show t / 6 * 6 + t % 6 = t by omega] at hg
    rw [hg]
    by_cases hc : i * 6 ≤ t ∧ t < i * 6 + 6
    · rw [if_pos hc]
      have hti : t / 6 = i := by omega
      have htm : t - i * 6 = t % 6 := by omega
      have hxx : (L.set i x)[t / 6] = x := by simp [hti]
      rw [htm, hxx]
    · rw [if_neg hc]
      have hti : i ≠ t / 6 := by omega
      have hk2 : t / 6 < L.length := by omega
      have hg2 := flat_get L (t / 6) (t % 6) hk2 (Nat.mod_lt _ (by decide))
      rw [show t / 6 * 6 + t % 6 = t by omega, ← h, List.getElem?_take_of_lt ht, Array.getElem?_toList] at hg2
      have hxx : (L.set i x)[t / 6] = L[t / 6] := by simp [hti]
      rw [hg2, hxx]
  · rw [List.getElem?_take_eq_none (by omega), List.getElem?_eq_none (by omega)]

theorem owns_store {w : World} {base g cap n : Nat} {e : TypeId} {L : List At} (h : w.ownsRow base e 6 (.slice (some ⟨g, 0, none⟩) n cap) n (flat L)) (hn : n = L.length) (i : Nat) (hi : i < L.length) (x : At) :
    (w.setCells g (i * 6) (enc x)).ownsRow base e 6 (.slice (some ⟨g, 0, none⟩) n cap) n (flat (L.set i x)) := by
  subst hn
  rcases h.2 with ⟨h0, _⟩ | ⟨g', cap', cur, hv, hg, hh, h1, h2, h3, h4⟩
  · cases h0
  cases hv
  refine ⟨by rw [flat_length]; simp, .inr ⟨g, cap, _, rfl, hg, heap_setCells_at _ _ _ _ hh, h1, h2, by simp [h3], ?_⟩⟩
  exact take_setMany cur _ L i x hi (by rw [h3]; exact Nat.mul_le_mul_right _ h1) h4 rfl

/-- What a store wants to know of the six cells. -/
theorem owns_cells {w : World} {base g cap n : Nat} {e : TypeId} {L : List At} (h : w.ownsRow base e 6 (.slice (some ⟨g, 0, none⟩) n cap) n (flat L)) (hn : n = L.length) (i : Nat) (hi : i < L.length) :
    cellsAt w g (i * 6) (nth L i) ∧ ∀ o, w.frozen? ⟨g, o, none⟩ = false := by
  subst hn
  rcases h.2 with ⟨h0, _⟩ | ⟨g', cap', cur, hv, hg, hh, h1, h2, h3, h4⟩
  · cases h0
  cases hv
  have := rowAt_of_block hh h4 i hi
  rw [Nat.zero_add] at this
  exact ⟨by rw [nth_eq L i hi]; exact this, fun o => by simp [World.frozen?, hh]⟩
end Go.Proofs.YtahdlejgjcjeoaaDoor
