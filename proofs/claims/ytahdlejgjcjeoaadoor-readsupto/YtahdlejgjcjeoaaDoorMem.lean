/- Rows of atoms in memory. -/
import Derived.Test.YtahdlejgjcjeoaaDoorBase
namespace Go.Proofs.YtahdlejgjcjeoaaDoor
open Go.RowKit

def zAt : At := ⟨0, ByteArray.empty, 0, 0, ByteArray.empty, 0⟩
/-- The k-th atom of a list. -/
def nth (l : List At) (k : Nat) : At := l.getD k zAt
theorem nth_eq (l : List At) (k : Nat) (h : k < l.length) : nth l k = l[k] := by simp [nth, h]
theorem nth_mem (l : List At) (k : Nat) (h : k < l.length) : nth l k ∈ l := by rw [nth_eq l k h]; exact List.getElem_mem h
theorem RowAt.nth {w : World} {b off : Nat} {l : List At} (hr : RowAt w b off l) {k : Nat} (h : k < l.length) : cellsAt w b (off + k * 6) (nth l k) := by
  rw [nth_eq l k h]; exact hr k h

/-- A slice value that reads as a list of atoms (a nil one reads as none). -/
def SliceOf (w : World) (v : Value) (l : List At) : Prop :=
  ∃ ad cap, v = .slice ad l.length cap ∧ l.length ≤ cap ∧ (0 < l.length → ∃ b off, ad = some ⟨b, off, none⟩ ∧ b < w.heap.size ∧ RowAt w b off l)

/-- x speaks against y (of which x stands ahead: ahead). -/
def bad (x y : At) (ahead : Bool) : Bool := plc x y == 0 && (decide (0 < grd x y) || (grd x y == 0 && ahead))
def cntTo (l : List At) (i k : Nat) : Bool := (List.range k).all fun j => !bad (nth l j) (nth l i) (decide (j < i))
theorem cntTo_succ (l : List At) (i k : Nat) : cntTo l i (k + 1) = (cntTo l i k && !bad (nth l k) (nth l i) (decide (k < i))) := by
  simp [cntTo, List.range_succ]
theorem cntTo_stop (l : List At) (i k n : Nat) (h : k < n) (hb : bad (nth l k) (nth l i) (decide (k < i)) = true) : cntTo l i n = false := by
  unfold cntTo
  rw [List.all_eq_false]
  exact ⟨k, List.mem_range.2 h, by simp [hb]⟩

theorem bcell {W w1 : World} (hb : Below W.heap.size W w1) : (∀ b o, b < W.heap.size → w1.cell? ⟨b, o, none⟩ = W.cell? ⟨b, o, none⟩) ∧ (∀ b o, b < W.heap.size → w1.frozen? ⟨b, o, none⟩ = W.frozen? ⟨b, o, none⟩) :=
  ⟨fun b o h => hb.cell (p := ⟨b, o, none⟩) h, fun b o h => hb.frozen (p := ⟨b, o, none⟩) h⟩

theorem flat_get (l : List At) (k j : Nat) (h : k < l.length) (hj : j < 6) : (flat l)[k * 6 + j]? = (enc l[k])[j]? := by
  induction l generalizing k with
  | nil => simp at h
  | cons a l ih =>
    have hl : (enc a).length = 6 := rfl
    cases k with
    | zero => simp [flat, List.getElem?_append_left (by rw [hl]; omega : j < (enc a).length)]
    | succ k =>
      have := ih k (by simpa using h)
      simp only [flat, List.flatMap_cons, List.getElem_cons_succ]
      rw [List.getElem?_append_right (by rw [hl]; omega), hl, show (k + 1) * 6 + j - 6 = k * 6 + j by omega]
      exact this

theorem flat_length (l : List At) : (flat l).length = l.length * 6 := by
  induction l with
  | nil => rfl
  | cons a l ih => simp only [flat, List.flatMap_cons, List.length_append, List.length_cons]; rw [show (List.flatMap enc l) = flat l from rfl, ih, show (enc a).length = 6 from rfl]; omega

theorem flat_snoc (l : List At) (a : At) : flat (l ++ [a]) = flat l ++ enc a := by simp [flat]

theorem enc_oneCell (a : At) : ∀ u ∈ enc a, u.oneCell' = true := by
  intro u hu
  simp only [enc, List.mem_cons, List.not_mem_nil, or_false] at hu
  rcases hu with rfl | rfl | rfl | rfl | rfl | rfl <;> rfl

/-- A block whose first cells are a list's: a row. -/
theorem rowAt_of_block {w : World} {g : Nat} {cur : Array Value} {e : TypeId} {fz : Nat × Nat} {l : List At} (hb : w.heap[g]? = some (.cells cur e fz)) (h : cur.toList.take (l.length * 6) = flat l) : RowAt w g 0 l := by
  intro k hk
  have hc : ∀ j, j < 6 → w.cell? ⟨g, 0 + k * 6 + j, none⟩ = (enc l[k])[j]? := by
    intro j hj
    have h1 : w.cell? ⟨g, 0 + k * 6 + j, none⟩ = cur[0 + k * 6 + j]? := by simp [World.cell?, hb]
    rw [h1, ← flat_get l k j hk hj, ← h, List.getElem?_take, if_pos (by omega), Nat.zero_add]
    simp
  exact ⟨by have := hc 0 (by omega); simpa [enc] using this, by have := hc 1 (by omega); simpa [enc] using this, by have := hc 2 (by omega); simpa [enc] using this, by have := hc 3 (by omega); simpa [enc] using this, by have := hc 4 (by omega); simpa [enc] using this, by have := hc 5 (by omega); simpa [enc] using this⟩

theorem sliceOf_nil (w : World) : SliceOf w (.slice none 0 0) [] := ⟨none, 0, rfl, Nat.le_refl _, fun h => by simp at h⟩

theorem sliceOf_owns {w : World} {base : Nat} {e : TypeId} {v : Value} {l : List At} {n : Nat} (hn : n = l.length) (h : w.ownsRow base e 6 v n (flat l)) : SliceOf w v l := by
  subst hn
  obtain ⟨_, h⟩ := h
  rcases h with ⟨rfl, h0⟩ | ⟨g, cap, cur, rfl, hg, hb, h1, h2, h3, h4⟩
  · obtain rfl := List.length_eq_zero_iff.1 h0
    exact sliceOf_nil w
  · exact ⟨_, cap, rfl, h1, fun _ => ⟨g, 0, rfl, (Array.getElem?_eq_some_iff.1 hb).1, rowAt_of_block hb h4⟩⟩

theorem SliceOf.below {w w' : World} {v : Value} {l : List At} (h : SliceOf w v l) (hb : Below w.heap.size w w') : SliceOf w' v l := by
  obtain ⟨ad, cap, rfl, hcap, h⟩ := h
  refine ⟨ad, cap, rfl, hcap, fun h0 => ?_⟩
  obtain ⟨b, off, rfl, hlt, hrow⟩ := h h0
  exact ⟨b, off, rfl, Nat.lt_of_lt_of_le hlt hb.size, hrow.below hb hlt⟩

/-- The cells of an atom that was laid in a block of its own. -/
theorem news_at (w : World) (x : At) (e : TypeId) : ∀ j u, (enc x)[j]? = some u → (w.alloc (.cells #[.int .i64 x.ty, .string x.key, .int .i64 x.side, .int .i64 x.who, .string x.elem, .int .i64 x.n] e)).cell? ((⟨w.heap.size, 0, none⟩ : Addr).add j) = some u :=
  fun j u hu => World.news_of_block (heap_alloc_new w _) j u hu

theorem owns_base {w : World} {base : Nat} {e : TypeId} {s n : Nat} {v : Value} {xs : List Value} (h : w.ownsRow base e s v n xs) : ∀ q, v.ownBlock = some q → base ≤ q := by
  intro q hq
  obtain ⟨_, h⟩ := h
  rcases h with ⟨rfl, _⟩ | ⟨g, cap, cur, rfl, hg, _⟩
  · simp [Value.ownBlock] at hq
  · simp [Value.ownBlock] at hq; omega

theorem owns_below {w w' : World} {base : Nat} {e : TypeId} {s n : Nat} {v : Value} {xs : List Value} (h : w.ownsRow base e s v n xs) (hb : Below w.heap.size w w') : w'.ownsRow base e s v n xs := by
  obtain ⟨h0, h⟩ := h
  refine ⟨h0, ?_⟩
  rcases h with h | ⟨g, cap, cur, hv, hg, hh, r⟩
  · exact .inl h
  · exact .inr ⟨g, cap, cur, hv, hg, by rw [hb.block g (Array.getElem?_eq_some_iff.1 hh).1]; exact hh, r⟩

/-- A slice's length, for a loop's measure. -/
def lenOf : Value → Nat | .slice _ n _ => n | _ => 0

theorem owns_mono {w : World} {base base' : Nat} {e : TypeId} {s n : Nat} {v : Value} {xs : List Value} (h : w.ownsRow base e s v n xs) (hb : base' ≤ base) : w.ownsRow base' e s v n xs := by
  obtain ⟨h0, h⟩ := h
  refine ⟨h0, ?_⟩
  rcases h with h | ⟨g, cap, cur, hv, hg, hh, r⟩
  · exact .inl h
  · exact .inr ⟨g, cap, cur, hv, Nat.le_trans hb hg, hh, r⟩

theorem below_alloc {w w1 : World} (h : Below w.heap.size w w1) (o : Obj) : Below w.heap.size w (w1.alloc o) := h.alloc h.size o

end Go.Proofs.YtahdlejgjcjeoaaDoor
