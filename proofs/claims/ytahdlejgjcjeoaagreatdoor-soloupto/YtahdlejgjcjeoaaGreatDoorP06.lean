/- The document's cluster in memory. -/
import Derived.Test.YtahdlejgjcjeoaaGreatDoorP05
import Derived.Test.YtahdlejgjcjeoaaGreatDoorP04
namespace Go.Proofs.YtahdlejgjcjeoaaGreatDoor
open Go.RowKit

abbrev Col := Nat → Nat × Nat
/-- From block n on all is of one colour. -/
def paint (col : Col) (n : Nat) (κ : Nat × Nat) : Col := fun q => if q < n then col q else κ
theorem paint_old (col : Col) {n q : Nat} (κ : Nat × Nat) (h : q < n) : paint col n κ q = col q := if_pos h
theorem paint_new (col : Col) {n q : Nat} (κ : Nat × Nat) (h : n ≤ q) : paint col n κ q = κ := if_neg (by omega)

theorem Fr.mono {X Y : Nat → Prop} {w w' : World} (h : Fr X w w') (hXY : ∀ q, q < w.heap.size → X q → Y q) : Fr Y w w' :=
  ⟨h.os, h.tape, h.output, h.size, fun k hk hy => h.block k hk (fun hx => hy (hXY k hk hx))⟩

/-- Nothing old has turned but what has a colour of S; no old block has another colour than it had. -/
structure FrC (S : Nat × Nat → Prop) (col col' : Col) (w w' : World) : Prop where
  fr : Fr (fun q => S (col q)) w w'
  col : ∀ q, q < w.heap.size → col' q = col q

theorem FrC.refl (S : Nat × Nat → Prop) (col : Col) (w : World) : FrC S col col w w := ⟨Fr.refl _ _, fun _ _ => rfl⟩
theorem FrC.mono {S T : Nat × Nat → Prop} {c c1 : Col} {w w1 : World} (h : FrC S c c1 w w1) (hST : ∀ x, S x → T x) : FrC T c c1 w w1 :=
  ⟨h.fr.mono fun _ _ hx => hST _ hx, h.col⟩
theorem FrC.trans {S : Nat × Nat → Prop} {c c1 c2 : Col} {w w1 w2 : World} (h : FrC S c c1 w w1) (k : FrC S c1 c2 w1 w2) : FrC S c c2 w w2 :=
  ⟨h.fr.trans k.fr fun q hq hx => by rw [← h.col q hq]; exact hx, fun q hq => (k.col q (Nat.lt_of_lt_of_le hq h.fr.size)).trans (h.col q hq)⟩
theorem frC_below {S : Nat × Nat → Prop} {col : Col} {w w' : World} (hb : Below w.heap.size w w') (κ : Nat × Nat) : FrC S col (paint col w.heap.size κ) w w' :=
  ⟨(Fr.refl _ w).below hb, fun _ hq => paint_old col κ hq⟩
theorem frC_same {S : Nat × Nat → Prop} {col : Col} {w w' : World} (hb : Below w.heap.size w w') : FrC S col col w w' := ⟨(Fr.refl _ w).below hb, fun _ _ => rfl⟩
theorem FrC.size {S : Nat × Nat → Prop} {c c1 : Col} {w w1 : World} (h : FrC S c c1 w w1) : w.heap.size ≤ w1.heap.size := h.fr.size
theorem FrC.block {S : Nat × Nat → Prop} {c c1 : Col} {w w1 : World} (h : FrC S c c1 w w1) {q : Nat} {b : Obj} (hb : w.heap[q]? = some b) (hS : ¬ S (c q)) : w1.heap[q]? = some b :=
  (h.fr.block q (Array.getElem?_eq_some_iff.1 hb).1 hS).trans hb
theorem FrC.colB {S : Nat × Nat → Prop} {c c1 : Col} {w w1 : World} (h : FrC S c c1 w w1) {q : Nat} {b : Obj} (hb : w.heap[q]? = some b) : c1 q = c q := h.col q (Array.getElem?_eq_some_iff.1 hb).1
theorem FrC.below {S : Nat × Nat → Prop} {c c1 : Col} {w w1 w2 : World} (h : FrC S c c1 w w1) (hb : Below w1.heap.size w1 w2) (κ : Nat × Nat) : FrC S c (paint c1 w1.heap.size κ) w w2 := h.trans (frC_below hb κ)
/-- A list of atoms, in blocks of one colour. -/
def Held (w : World) (col : Col) (κ : Nat × Nat) (v : Value) (l : List At) : Prop :=
  ∃ ad cap, v = .slice ad l.length cap ∧ l.length ≤ cap ∧ (0 < l.length → ∃ b off, ad = some ⟨b, off, none⟩ ∧ b < w.heap.size ∧ col b = κ ∧ RowAt w b off l)
theorem Held.slice {w : World} {col : Col} {κ : Nat × Nat} {v : Value} {l : List At} (h : Held w col κ v l) : SliceOf w v l := by
  obtain ⟨ad, cap, rfl, hc, H⟩ := h
  refine ⟨ad, cap, rfl, hc, fun h0 => ?_⟩
  obtain ⟨b, off, rfl, hb, _, hr⟩ := H h0
  exact ⟨b, off, rfl, hb, hr⟩
theorem cellsAt_block {w w' : World} {b o : Nat} {a : At} (h : w'.heap[b]? = w.heap[b]?) (hr : cellsAt w b o a) : cellsAt w' b o a := by
  obtain ⟨c0, c1, c2, c3, c4, c5⟩ := hr
  refine ⟨?_, ?_, ?_, ?_, ?_, ?_⟩ <;> (rw [World.cell?_of_block (w := w) h]; assumption)
theorem Held.kept {w w' : World} {col col' : Col} {κ : Nat × Nat} {v : Value} {l : List At} {S : Nat × Nat → Prop} (h : Held w col κ v l) (hf : FrC S col col' w w') (hS : ¬ S κ) : Held w' col' κ v l := by
  obtain ⟨ad, cap, rfl, hc, H⟩ := h
  refine ⟨ad, cap, rfl, hc, fun h0 => ?_⟩
  obtain ⟨b, off, rfl, hb, hk, hr⟩ := H h0
  have he := hf.fr.block b hb (by rw [hk]; exact hS)
  exact ⟨b, off, rfl, Nat.lt_of_lt_of_le hb hf.size, (hf.col b hb).trans hk, fun k hl => cellsAt_block he (hr k hl)⟩
theorem held_nil (w : World) (col : Col) (κ : Nat × Nat) : Held w col κ (.slice none 0 0) [] := ⟨none, 0, rfl, Nat.le_refl _, fun h => by simp at h⟩
theorem held_owns {w : World} {col : Col} {κ : Nat × Nat} {base : Nat} {e : TypeId} {v : Value} {l : List At} {n : Nat} (hn : n = l.length) (h : w.ownsRow base e 6 v n (flat l)) (hc : ∀ q, v.ownBlock = some q → col q = κ) : Held w col κ v l := by
  subst hn
  obtain ⟨_, h⟩ := h
  rcases h with ⟨rfl, h0⟩ | ⟨g, cap, cur, rfl, hg, hb, h1, h2, h3, h4⟩
  · obtain rfl := List.length_eq_zero_iff.1 h0
    exact held_nil w col κ
  · exact ⟨_, cap, rfl, h1, fun _ => ⟨g, 0, rfl, (Array.getElem?_eq_some_iff.1 hb).1, hc g rfl, rowAt_of_block hb h4⟩⟩
/-- What a callee has made anew, painted. -/
theorem held_made {w w' : World} {col : Col} {κ : Nat × Nat} {e : TypeId} {v : Value} {l : List At} {n : Nat} (hn : n = l.length) (h : w'.ownsRow w.heap.size e 6 v n (flat l)) : Held w' (paint col w.heap.size κ) κ v l :=
  held_owns hn h fun q hq => paint_new col κ (owns_base h q hq)

/-- A row of one's own, in a block of one colour. -/
structure RowC (w : World) (col : Col) (κ : Nat × Nat) (e : TypeId) (s : Nat) (v : Value) (n : Nat) (xs : List Value) : Prop where
  own : w.ownsRow 0 e s v n xs
  col : ∀ q, v.ownBlock = some q → col q = κ
theorem RowC.kept {w w' : World} {col col' : Col} {κ : Nat × Nat} {e : TypeId} {s n : Nat} {v : Value} {xs : List Value} {S : Nat × Nat → Prop} (h : RowC w col κ e s v n xs) (hf : FrC S col col' w w') (hS : ¬ S κ) : RowC w' col' κ e s v n xs where
  own := owns_fr h.own hf.fr fun q hq => by rw [h.col q hq]; exact hS
  col q hq := (hf.col q (own_lt h.own q hq)).trans (h.col q hq)
theorem rowC_nil (w : World) (col : Col) (κ : Nat × Nat) (e : TypeId) (s : Nat) : RowC w col κ e s (.slice none 0 0) 0 [] := ⟨World.ownsRow_nil w 0 e s, fun q hq => by cases hq⟩
theorem rowC_made {w w' : World} {col : Col} {κ : Nat × Nat} {e : TypeId} {s n : Nat} {v : Value} {xs : List Value} (h : w'.ownsRow w.heap.size e s v n xs) : RowC w' (paint col w.heap.size κ) κ e s v n xs :=
  ⟨owns_mono h (Nat.zero_le _), fun q hq => paint_new col κ (owns_base h q hq)⟩
theorem RowC.lies {w w1 w2 : World} {col : Col} {κ : Nat × Nat} {e : TypeId} {s n m g cap H : Nat} {v : Value} {xs ys : List Value} (h : RowC w col κ e s v n xs) (h1 : Below w.heap.size w w1)
    (hown : w2.ownsRow 0 e s (.slice (some ⟨g, 0, none⟩) m cap) m ys) (hg : w1.grownBy w2 v.ownBlock) (hat : v.ownBlock = some g ∨ g = H) (hH : w.heap.size ≤ H) :
    RowC w2 (paint col w.heap.size κ) κ e s (.slice (some ⟨g, 0, none⟩) m cap) m ys ∧ FrC (fun x => x = κ) col (paint col w.heap.size κ) w w2 := by
  have hf : Fr (fun q => col q = κ) w w1 := (Fr.refl _ w).below h1
  refine ⟨⟨hown, fun q hq => ?_⟩, ⟨hf.step hg (fun q hq => .inr (h.col q hq)), fun q hq => paint_old col κ hq⟩⟩
  obtain rfl := own_g hq
  rcases hat with e | e
  · rw [paint_old col κ (own_lt h.own g e), h.col g e]
  · exact paint_new col κ (by omega)
/-- What a store or a look into a row wants to know. -/
theorem RowC.at {w : World} {col : Col} {κ : Nat × Nat} {e : TypeId} {s n : Nat} {v : Value} {xs : List Value} (h : RowC w col κ e s v n xs) (hn : 0 < n) : ∃ g cap, v = .slice (some ⟨g, 0, none⟩) n cap ∧ n ≤ cap ∧ cap ≤ maxLen ∧ g < w.heap.size ∧ col g = κ ∧ (∀ j u, xs[j]? = some u → w.cell? ⟨g, j, none⟩ = some u) ∧ ∀ j, w.frozen? ⟨g, j, none⟩ = false := by
  rcases h.own.2 with ⟨_, h0⟩ | ⟨g, cap, cur, rfl, hg, hb, h1, h2, h3, h4⟩
  · omega
  · refine ⟨g, cap, rfl, h1, h2, (Array.getElem?_eq_some_iff.1 hb).1, h.col g rfl, fun j u hu => ?_, fun j => by simp [World.frozen?, hb]⟩
    have hj : j < xs.length := (List.getElem?_eq_some_iff.1 hu).1
    rw [← h4, List.getElem?_take] at hu
    split at hu
    · rw [Array.getElem?_toList] at hu
      simp [World.cell?, hb, hu]
    · cases hu
theorem RowC.form {w : World} {col : Col} {κ : Nat × Nat} {e : TypeId} {s n : Nat} {v : Value} {xs : List Value} (h : RowC w col κ e s v n xs) : ∃ ad cap, v = .slice ad n cap ∧ n ≤ cap := by
  rcases h.own.2 with ⟨rfl, rfl⟩ | ⟨g, cap, cur, rfl, hg, hb, h1, h2, h3, h4⟩
  · exact ⟨_, _, rfl, Nat.le_refl _⟩
  · exact ⟨_, _, rfl, h1⟩
theorem RowC.store {w : World} {col : Col} {κ : Nat × Nat} {e : TypeId} {s n g cap : Nat} {xs : List Value} (h : RowC w col κ e s (.slice (some ⟨g, 0, none⟩) n cap) n xs) (j : Nat) (u : Value) :
    RowC (w.setCell ⟨g, j, none⟩ u) col κ e s (.slice (some ⟨g, 0, none⟩) n cap) n (xs.set j u) ∧ FrC (fun x => x = κ) col col w (w.setCell ⟨g, j, none⟩ u) := by
  refine ⟨⟨?_, h.col⟩, ⟨(Fr.refl _ w).step (grown_setCell w ⟨g, j, none⟩ u) (fun q hq => by cases hq; exact .inr (h.col g rfl)), fun _ _ => rfl⟩⟩
  rcases h.own.2 with ⟨h0, _⟩ | ⟨g', cap', cur, hv, hg, hh, h1, h2, h3, h4⟩
  · cases h0
  cases hv
  refine ⟨by rw [List.length_set]; exact h.own.1, .inr ⟨g, cap, _, rfl, hg, heap_setCell_at hh u, h1, h2, by simp [h3], ?_⟩⟩
  rw [Array.toList_setIfInBounds, ← h4, List.take_set]

/-- Lists of things of s cells each. -/
theorem flatMap_len {α : Type} (f : α → List Value) (s : Nat) (hf : ∀ a, (f a).length = s) (l : List α) : (l.flatMap f).length = l.length * s := by
  induction l with
  | nil => simp
  | cons a l ih => rw [List.flatMap_cons, List.length_append, ih, hf, List.length_cons]; rw [Nat.add_mul]; omega
theorem flatMap_get {α : Type} (f : α → List Value) (s : Nat) (hf : ∀ a, (f a).length = s) (l : List α) (k j : Nat) (h : k < l.length) (hj : j < s) : (l.flatMap f)[k * s + j]? = (f l[k])[j]? := by
  induction l generalizing k with
  | nil => simp at h
  | cons a l ih =>
    have hl := hf a
    cases k with
    | zero => simp [List.getElem?_append_left (by rw [hl]; omega : j < (f a).length)]
    | succ k =>
      have := ih k (by simpa using h)
      simp only [List.flatMap_cons, List.getElem_cons_succ]
      rw [List.getElem?_append_right (by rw [hl, Nat.add_mul]; omega), hl, show (k + 1) * s + j - s = k * s + j by rw [Nat.add_mul]; omega]
      exact this
theorem flatMap_set {α : Type} (f : α → List Value) (s : Nat) (hf : ∀ a, (f a).length = s) (l : List α) (k j : Nat) (u : Value) (a' : α) (h : k < l.length) (hj : j < s) (ha : (f l[k]).set j u = f a') : (l.flatMap f).set (k * s + j) u = (l.set k a').flatMap f := by
  induction l generalizing k with
  | nil => simp at h
  | cons a l ih =>
    have hl := hf a
    cases k with
    | zero =>
      simp only [List.flatMap_cons, List.set_cons_zero, List.getElem_cons_zero] at ha ⊢
      rw [List.set_append_left _ _ (by rw [hl]; omega), Nat.zero_mul, Nat.zero_add, ha]
    | succ k =>
      have := ih k (by simpa using h) (by simpa using ha)
      simp only [List.flatMap_cons, List.set_cons_succ]
      rw [List.set_append_right _ _ (by rw [hl, Nat.add_mul]; omega), hl, show (k + 1) * s + j - s = k * s + j by rw [Nat.add_mul]; omega, this]

/-- An element of a row of things. -/
theorem RowC.elem {α : Type} {f : α → List Value} {w : World} {col : Col} {κ : Nat × Nat} {e : TypeId} {s : Nat} {v : Value} {l : List α} (hf : ∀ a, (f a).length = s) (h : RowC w col κ e s v l.length (l.flatMap f)) :
    ∃ ad cap, v = .slice ad l.length cap ∧ l.length ≤ cap ∧ (0 < l.length → ∃ g, ad = some ⟨g, 0, none⟩ ∧ g < w.heap.size ∧ col g = κ ∧ (∀ j, w.frozen? ⟨g, j, none⟩ = false) ∧ ∀ k (hk : k < l.length) j u, (f l[k])[j]? = some u → w.cell? ⟨g, k * s + j, none⟩ = some u) := by
  by_cases h0 : 0 < l.length
  · obtain ⟨g, cap, hv, hc, hm, hg, hk, hcell, hfz⟩ := h.at h0
    refine ⟨_, cap, hv, hc, fun _ => ⟨g, rfl, hg, hk, hfz, fun k hk j u hu => hcell _ u ?_⟩⟩
    rw [flatMap_get f s hf l k j hk (by rw [← hf l[k]]; exact (List.getElem?_eq_some_iff.1 hu).1)]
    exact hu
  · obtain ⟨ad, cap, hv, hc⟩ := h.form
    exact ⟨ad, cap, hv, hc, fun h => absurd h h0⟩

/-- A block's cells. -/
theorem blk_cell {w : World} {g : Nat} {cur : Array Value} {e : TypeId} {fz : Nat × Nat} (h : w.heap[g]? = some (.cells cur e fz)) (k : Nat) : w.cell? ⟨g, k, none⟩ = cur[k]? := by simp [World.cell?, h]
theorem blk_thaw {w : World} {g : Nat} {cur : Array Value} {e : TypeId} (h : w.heap[g]? = some (.cells cur e (0, 0))) (k : Nat) : w.frozen? ⟨g, k, none⟩ = false := by simp [World.frozen?, h]
theorem blk_lt {w : World} {g : Nat} {b : Obj} (h : w.heap[g]? = some b) : g < w.heap.size := (Array.getElem?_eq_some_iff.1 h).1
theorem frC_setCell {S : Nat × Nat → Prop} {col : Col} {w : World} {g : Nat} (k : Nat) (u : Value) (h : S (col g)) : FrC S col col w (w.setCell ⟨g, k, none⟩ u) :=
  ⟨(Fr.refl _ w).step (grown_setCell w ⟨g, k, none⟩ u) (fun q hq => by cases hq; exact .inr h), fun _ _ => rfl⟩
theorem owns_put {w : World} {base q o : Nat} {e : TypeId} {s n : Nat} {v u : Value} {xs : List Value} (h : w.ownsRow base e s v n xs) (hq : q < base) : (w.setCell ⟨q, o, none⟩ u).ownsRow base e s v n xs :=
  owns_grown' h (grown_setCell w ⟨q, o, none⟩ u) fun k hk e => by
    have h1 := owns_base h k hk
    have h2 : k = q := Option.some.inj e
    omega
theorem grown_dry {w w' : World} {row : Option Nat} (h : w.drew.grownBy w' row) : w.grownBy w' row := ⟨h.os, h.tape, h.output, h.size, h.block⟩

end Go.Proofs.YtahdlejgjcjeoaaGreatDoor

namespace Go.Proofs.YtahdlejgjcjeoaaGreatDoor
open Go.RowKit

/-- An element of Taken, of Log, of Net, as they lie. -/
structure Tk where
  num : Nat
  org : Nat
  v : Value
  d : List At
  kept : Bool
def Tk.cells (t : Tk) : List Value := [.int .i64 t.num, .int .i64 t.org, t.v, .bool t.kept]
def Tk.ent (t : Tk) : Ent := ⟨t.num, t.org, t.d⟩
structure Rc where
  kind : Nat
  num : Nat
  v : Value
  d : List At
  torn : Bool
  bytes : ByteArray
def Rc.cells (r : Rc) : List Value := [.int .i64 r.kind, .int .i64 r.num, r.v, .bool r.torn, .string r.bytes]
def Rc.rec' (r : Rc) : Rec := ⟨r.kind, r.num, r.d⟩
structure Fm where
  f : Frm
  v : Value
def Fm.cells (m : Fm) : List Value := [.int .i64 m.f.kind, .int .i64 m.f.src, .int .i64 m.f.dst, .int .i64 m.f.upto, m.v]

structure RefD where
  ρ : Nat
  va : Value
  vt : Value
  vn : Value
  vk : Value
  vl : Value
  ts : List Tk
  rs : List Rc
def RefD.block (D : RefD) (p : Rep) : Array Value := #[.bool p.down, D.va, .int .i64 p.num, .int .i64 p.base, D.vt, D.vn, D.vk, D.vl, .int .i64 p.frames, .int .i64 p.weight]

/-- The records of a log: whole ones; at the end there may be a torn one, if the replica is down. -/
def LogIs (rs : List Rc) (p : Rep) : Prop :=
  ∃ A B, rs = A ++ B ∧ (∀ r ∈ A, r.torn = false) ∧ A.map Rc.rec' = p.log ∧ ((B = [] ∧ p.torn = []) ∨ ∃ r, B = [r] ∧ r.torn = true ∧ r.bytes = bstr p.torn ∧ p.down = true)

def ints (l : List Nat) : List Value := l.map fun n : Nat => .int .i64 (n : Int)

/-- A replica but for its own block. -/
structure RefRest (w : World) (col : Col) (o i : Nat) (near : List Bool) (D : RefD) (p : Rep) : Prop where
  atoms : Held w col (o, 1) D.va p.atoms
  taken : RowC w col (o, 20 + i) 156 4 D.vt D.ts.length (D.ts.flatMap Tk.cells)
  tkd : ∀ t ∈ D.ts, Held w col (o, 1) t.v t.d
  tsl : D.ts.length ≤ p.num
  buf : (D.ts.filter (·.kept)).map Tk.ent = p.buf
  near : RowC w col (o, 30 + i) 4 1 D.vn near.length (near.map Value.bool)
  acked : RowC w col (o, 40 + i) 3 1 D.vk p.acked.length (ints p.acked)
  log : RowC w col (o, 50 + i) 144 5 D.vl D.rs.length (D.rs.flatMap Rc.cells)
  rcd : ∀ r ∈ D.rs, Held w col (o, 1) r.v r.d
  logs : LogIs D.rs p
structure RefRep (w : World) (col : Col) (o i : Nat) (near : List Bool) (D : RefD) (p : Rep) : Prop extends RefRest w col o i near D p where
  blk : w.heap[D.ρ]? = some (.cells (D.block p) 133 (0, 0))
  cρ : col D.ρ = (o, 10 + i)

/-- The colours of one replica. -/
def ofRep (o i : Nat) : Nat × Nat → Prop := fun κ => κ.1 = o ∧ 10 ≤ κ.2 ∧ κ.2 % 10 = i
theorem RefRest.kept {w w' : World} {col col' : Col} {S : Nat × Nat → Prop} {o i : Nat} {near : List Bool} {D : RefD} {p : Rep} (h : RefRest w col o i near D p) (hf : FrC S col col' w w') (h1 : ¬ S (o, 1)) (hS : ∀ k, k = 2 ∨ k = 3 ∨ k = 4 ∨ k = 5 → ¬ S (o, k * 10 + i)) : RefRest w' col' o i near D p where
  atoms := h.atoms.kept hf h1
  taken := h.taken.kept hf (hS 2 (by omega))
  tkd t ht := (h.tkd t ht).kept hf h1
  tsl := h.tsl
  buf := h.buf
  near := h.near.kept hf (hS 3 (by omega))
  acked := h.acked.kept hf (hS 4 (by omega))
  log := h.log.kept hf (hS 5 (by omega))
  rcd r hr := (h.rcd r hr).kept hf h1
  logs := h.logs
theorem RefRep.kept {w w' : World} {col col' : Col} {S : Nat × Nat → Prop} {o i : Nat} {near : List Bool} {D : RefD} {p : Rep} (h : RefRep w col o i near D p) (hf : FrC S col col' w w') (h1 : ¬ S (o, 1)) (hS : ∀ k, k = 1 ∨ k = 2 ∨ k = 3 ∨ k = 4 ∨ k = 5 → ¬ S (o, k * 10 + i)) : RefRep w' col' o i near D p :=
  { h.toRefRest.kept hf h1 (fun k hk => hS k (by omega)) with
    blk := hf.block h.blk (by rw [h.cρ]; exact hS 1 (by omega))
    cρ := (hf.colB h.blk).trans h.cρ }
theorem RefRep.below {w w' : World} {col : Col} {o i : Nat} {near : List Bool} {D : RefD} {p : Rep} (h : RefRep w col o i near D p) (hb : Below w.heap.size w w') (κ : Nat × Nat) : RefRep w' (paint col w.heap.size κ) o i near D p :=
  h.kept (S := fun _ => False) (frC_below hb κ) id fun _ _ => id
/-- A cell of the replica's own block is written. -/
theorem RefRep.set {w : World} {col : Col} {o i k : Nat} {near : List Bool} {D D' : RefD} {p p' : Rep} {u : Value} (h : RefRep w col o i near D p) (hi : i < 6) (hb : (D.block p).setIfInBounds k u = D'.block p') (hρ : D'.ρ = D.ρ) (hr : RefRest w col o i near D' p') :
    RefRep (w.setCell ⟨D.ρ, k, none⟩ u) col o i near D' p' ∧ FrC (ofRep o i) col col w (w.setCell ⟨D.ρ, k, none⟩ u) := by
  have hS : ofRep o i (col D.ρ) := by rw [h.cρ]; exact ⟨rfl, by show 10 ≤ 10 + i; omega, by show (10 + i) % 10 = i; omega⟩
  have hf : FrC (fun x => x = (o, 10 + i)) col col w (w.setCell ⟨D.ρ, k, none⟩ u) := frC_setCell k u h.cρ
  refine ⟨{ hr.kept hf (fun e => by have := congrArg Prod.snd e; simp only at this; omega) (fun j hj e => by have := congrArg Prod.snd e; simp only at this; omega) with blk := ?_, cρ := by rw [hρ]; exact h.cρ }, frC_setCell k u hS⟩
  rw [hρ, ← hb]
  exact heap_setCell_at h.blk u

def nearRow (c : Clu) (i : Nat) : List Bool := (List.range c.reps.length).map (c.near i)

structure RefC where
  vR : Value
  vN : Value
  Ds : List RefD
  ns : List Fm

structure RefAt (w : World) (col : Col) (o x : Nat) (K : RefC) (c : Clu) : Prop where
  blk : w.heap[x]? = some (.cells #[.int .i64 c.reps.length, .slice none 0 0, .bool c.bp, .bool c.rr, .int .i64 c.room, K.vR, K.vN] 95 (0, 0))
  cx : col x = (o, 0)
  rows : RowC w col (o, 2) 129 1 K.vR K.Ds.length (K.Ds.map fun D => .pointer (some ⟨D.ρ, 0, none⟩))
  net : RowC w col (o, 3) 154 5 K.vN K.ns.length (K.ns.flatMap Fm.cells)
  netd : ∀ f ∈ K.ns, Held w col (o, 1) f.v f.f.d
  nets : K.ns.map Fm.f = c.net
  len : K.Ds.length = c.reps.length
  reps : ∀ i (h : i < K.Ds.length) (h' : i < c.reps.length), RefRep w col o i (nearRow c i) (K.Ds[i]) (c.reps[i])

theorem RefAt.kept {w w' : World} {col col' : Col} {S : Nat × Nat → Prop} {o x : Nat} {K : RefC} {c : Clu} (h : RefAt w col o x K c) (hf : FrC S col col' w w') (hS : ∀ k, ¬ S (o, k)) : RefAt w' col' o x K c where
  blk := hf.block h.blk (by rw [h.cx]; exact hS 0)
  cx := (hf.colB h.blk).trans h.cx
  rows := h.rows.kept hf (hS 2)
  net := h.net.kept hf (hS 3)
  netd f hm := (h.netd f hm).kept hf (hS 1)
  nets := h.nets
  len := h.len
  reps i hi hi' := (h.reps i hi hi').kept hf (hS 1) fun k _ => hS _
theorem RefAt.below {w w' : World} {col : Col} {o x : Nat} {K : RefC} {c : Clu} (h : RefAt w col o x K c) (hb : Below w.heap.size w w') (κ : Nat × Nat) : RefAt w' (paint col w.heap.size κ) o x K c :=
  h.kept (S := fun _ => False) (frC_below hb κ) fun _ => id
theorem RefAt.same {w w' : World} {col : Col} {o x : Nat} {K : RefC} {c : Clu} (h : RefAt w col o x K c) (hb : Below w.heap.size w w') : RefAt w' col o x K c :=
  h.kept (S := fun _ => False) (frC_same hb) fun _ => id

/-- One replica has turned. -/
theorem RefAt.setRep {w w' : World} {col col' : Col} {o x i : Nat} {K : RefC} {c : Clu} {D' : RefD} {p' : Rep} (h : RefAt w col o x K c) (h6 : c.reps.length ≤ 6) (hi : i < c.reps.length) (hf : FrC (ofRep o i) col col' w w') (hρ : ∀ h' : i < K.Ds.length, D'.ρ = (K.Ds[i]).ρ) (hp : RefRep w' col' o i (nearRow c i) D' p') :
    RefAt w' col' o x { K with Ds := K.Ds.set i D' } (c.setRep i p') where
  blk := by
    have := hf.block h.blk (by rw [h.cx]; unfold ofRep; simp)
    simpa [Clu.setRep] using this
  cx := (hf.colB h.blk).trans h.cx
  rows := by
    have hr := h.rows.kept hf (by unfold ofRep; simp)
    have he : (K.Ds.set i D').map (fun D => Value.pointer (some ⟨D.ρ, 0, none⟩)) = K.Ds.map (fun D => Value.pointer (some ⟨D.ρ, 0, none⟩)) := by
      apply List.ext_getElem?
      intro j
      simp only [List.getElem?_map, List.getElem?_set]
      split
      · rename_i e
        subst e
        split
        · rename_i hl
          rw [List.getElem?_eq_getElem hl]
          simp [hρ hl]
        · rename_i hl
          rw [List.getElem?_eq_none (by omega)]
      · rfl
    show RowC w' col' (o, 2) _ 1 K.vR (K.Ds.set i D').length ((K.Ds.set i D').map _)
    rw [he, List.length_set]
    exact hr
  net := h.net.kept hf (by unfold ofRep; simp)
  netd f hm := (h.netd f hm).kept hf (by unfold ofRep; simp)
  nets := h.nets
  len := by simpa [Clu.setRep] using h.len
  reps j hj hj' := by
    have hjc : j < c.reps.length := by simpa [Clu.setRep] using hj'
    have hjK : j < K.Ds.length := by simpa using hj
    have hn : nearRow (c.setRep i p') j = nearRow c j := by simp [nearRow, Clu.setRep]
    rw [hn]
    by_cases e : j = i
    · subst e
      simpa [Clu.setRep] using hp
    · have := (h.reps j hjK hjc).kept hf (by unfold ofRep; simp) (fun k _ => by unfold ofRep; simp only; omega)
      simpa [Clu.setRep, Ne.symm e] using this

/-- What a walk wants to know of a replica's block. -/
theorem RefRep.cells {w : World} {col : Col} {o i : Nat} {near : List Bool} {D : RefD} {p : Rep} (h : RefRep w col o i near D p) :
    w.cell? ⟨D.ρ, 0, none⟩ = some (.bool p.down) ∧ w.cell? ⟨D.ρ, 1, none⟩ = some D.va ∧ w.cell? ⟨D.ρ, 2, none⟩ = some (.int .i64 p.num) ∧ w.cell? ⟨D.ρ, 3, none⟩ = some (.int .i64 p.base) ∧ w.cell? ⟨D.ρ, 4, none⟩ = some D.vt ∧
    w.cell? ⟨D.ρ, 5, none⟩ = some D.vn ∧ w.cell? ⟨D.ρ, 6, none⟩ = some D.vk ∧ w.cell? ⟨D.ρ, 7, none⟩ = some D.vl ∧ w.cell? ⟨D.ρ, 8, none⟩ = some (.int .i64 p.frames) ∧ w.cell? ⟨D.ρ, 9, none⟩ = some (.int .i64 p.weight) ∧ ∀ k, w.frozen? ⟨D.ρ, k, none⟩ = false :=
  ⟨blk_cell h.blk 0, blk_cell h.blk 1, blk_cell h.blk 2, blk_cell h.blk 3, blk_cell h.blk 4, blk_cell h.blk 5, blk_cell h.blk 6, blk_cell h.blk 7, blk_cell h.blk 8, blk_cell h.blk 9, blk_thaw h.blk⟩
theorem RefAt.cells {w : World} {col : Col} {o x : Nat} {K : RefC} {c : Clu} (h : RefAt w col o x K c) :
    w.cell? ⟨x, 0, none⟩ = some (.int .i64 c.reps.length) ∧ w.cell? ⟨x, 1, none⟩ = some (.slice none 0 0) ∧ w.cell? ⟨x, 2, none⟩ = some (.bool c.bp) ∧ w.cell? ⟨x, 3, none⟩ = some (.bool c.rr) ∧ w.cell? ⟨x, 4, none⟩ = some (.int .i64 c.room) ∧ w.cell? ⟨x, 5, none⟩ = some K.vR ∧ w.cell? ⟨x, 6, none⟩ = some K.vN ∧ ∀ k, w.frozen? ⟨x, k, none⟩ = false :=
  ⟨blk_cell h.blk 0, blk_cell h.blk 1, blk_cell h.blk 2, blk_cell h.blk 3, blk_cell h.blk 4, blk_cell h.blk 5, blk_cell h.blk 6, blk_thaw h.blk⟩
/-- The pointer to a replica. -/
theorem RefAt.ptr {w : World} {col : Col} {o x i : Nat} {K : RefC} {c : Clu} (h : RefAt w col o x K c) (hi : i < c.reps.length) : ∃ g cap D, K.vR = .slice (some ⟨g, 0, none⟩) c.reps.length cap ∧ c.reps.length ≤ cap ∧ K.Ds[i]? = some D ∧ w.cell? ⟨g, i, none⟩ = some (.pointer (some ⟨D.ρ, 0, none⟩)) ∧ RefRep w col o i (nearRow c i) D (c.rep i) := by
  have hk : i < K.Ds.length := by rw [h.len]; exact hi
  obtain ⟨g, cap, hv, hc, _, _, _, hcell, _⟩ := h.rows.at (by omega)
  rw [h.len] at hv hc
  refine ⟨g, cap, K.Ds[i], hv, hc, List.getElem?_eq_getElem hk, hcell i _ (by simp [hk]), ?_⟩
  have := h.reps i hk hi
  simpa [Clu.rep, hi] using this

end Go.Proofs.YtahdlejgjcjeoaaGreatDoor
