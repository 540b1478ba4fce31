/- Rows of one's own: where they lie, what keeps them. -/
import Derived.Test.YtahdlejgjcjeoaaDoorBook3
namespace Go.Proofs.YtahdlejgjcjeoaaDoor
open Go.RowKit

theorem own_lt {w : World} {base : Nat} {e : TypeId} {s n : Nat} {v : Value} {xs : List Value} (h : w.ownsRow base e s v n xs) : ∀ q, v.ownBlock = some q → q < w.heap.size := by
  intro q hq
  rcases h.2 with ⟨rfl, _⟩ | ⟨g, cap, cur, rfl, _, hh, _⟩
  · simp [Value.ownBlock] at hq
  · obtain rfl := own_g hq
    exact (Array.getElem?_eq_some_iff.1 hh).1
theorem owns_fr {X : Nat → Prop} {w w' : World} {base : Nat} {e : TypeId} {s n : Nat} {v : Value} {xs : List Value} (h : w.ownsRow base e s v n xs) (hf : Fr X w w') (hx : ∀ q, v.ownBlock = some q → ¬ X q) : w'.ownsRow base e s v n xs := by
  obtain ⟨h0, h⟩ := h
  refine ⟨h0, ?_⟩
  rcases h with h | ⟨g, cap, cur, rfl, hgb, hh, k⟩
  · exact .inl h
  · exact .inr ⟨g, cap, cur, rfl, hgb, by rw [hf.block g (Array.getElem?_eq_some_iff.1 hh).1 (hx g rfl)]; exact hh, k⟩
theorem own_form {w : World} {base : Nat} {e : TypeId} {s n : Nat} {v : Value} {xs : List Value} (h : w.ownsRow base e s v n xs) : ∃ ad cap, v = .slice ad n cap := by
  rcases h.2 with ⟨rfl, rfl⟩ | ⟨g, cap, cur, rfl, _⟩
  · exact ⟨none, 0, rfl⟩
  · exact ⟨_, cap, rfl⟩
theorem news_pair (w : World) (v : Value) (k : Int) (e : TypeId) : ∀ j u, ([v, .int .i64 k] : List Value)[j]? = some u → (w.alloc (.cells #[v, .int .i64 k] e)).cell? ((⟨w.heap.size, 0, none⟩ : Addr).add j) = some u :=
  fun j u hu => World.news_of_block (heap_alloc_new w _) j u hu
theorem pair_oneCell {v : Value} {ad : Option Addr} {n cap : Nat} (hv : v = .slice ad n cap) (k : Int) : ∀ u ∈ ([v, .int .i64 k] : List Value), u.oneCell' = true := by
  intro u hu
  simp only [List.mem_cons, List.not_mem_nil, or_false] at hu
  rcases hu with rfl | rfl
  · rw [hv]; rfl
  · rfl

end Go.Proofs.YtahdlejgjcjeoaaDoor
