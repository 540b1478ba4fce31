/- Walks of the document's cluster: Replica. -/
import Derived.Test.YtahdlejgjcjeoabGreatDoorS04
import Derived.Test.YtahdlejgjcjeoabGreatDoorS02
import Derived.Test.YtahdlejgjcjeoabGreatDoorS01
import Derived.ArgAppend
import Derived.Deep.DeepAppendRoom
import Derived.Test.YtahdlejgjcjeoabGreatDoorS03
import Derived.Deep.DeepCutAuto
import Derived.Deep.RegionHeld3
import Derived.Deep.Light
import Derived.RegionTactic
import Derived.BigRegion
import Derived.Deep.RegionLaw
import Derived.Deep.RegionHeldLaw
namespace Go.Proofs.YtahdlejgjcjeoabGreatDoor
open Go.RowKit

theorem rowAt_cells {w : World} {b off : Nat} {l : List At} (h : RowAt w b off l) : ∀ j u, (flat l)[j]? = some u → w.cell? ((⟨b, off, none⟩ : Addr).add j) = some u := by
  intro j u hu
  have hadd : (⟨b, off, none⟩ : Addr).add j = ⟨b, off + j, none⟩ := by unfold Addr.add; split <;> simp_all
  have hj : j < (flat l).length := (List.getElem?_eq_some_iff.1 hu).1
  rw [flat_length] at hj
  have hk : j / 6 < l.length := by omega
  have hg := flat_get l (j / 6) (j % 6) hk (Nat.mod_lt _ (by decide))
  rw [show j / 6 * 6 + j % 6 = j by omega, hu] at hg
  obtain ⟨c0, c1, c2, c3, c4, c5⟩ := h (j / 6) hk
  rw [hadd]
  have hcase : j % 6 = 0 ∨ j % 6 = 1 ∨ j % 6 = 2 ∨ j % 6 = 3 ∨ j % 6 = 4 ∨ j % 6 = 5 := by omega
  rcases hcase with e | e | e | e | e | e
  · rw [show off + j = off + j / 6 * 6 by omega, c0, hg, e]; rfl
  · rw [show off + j = off + j / 6 * 6 + 1 by omega, c1, hg, e]; rfl
  · rw [show off + j = off + j / 6 * 6 + 2 by omega, c2, hg, e]; rfl
  · rw [show off + j = off + j / 6 * 6 + 3 by omega, c3, hg, e]; rfl
  · rw [show off + j = off + j / 6 * 6 + 4 by omega, c4, hg, e]; rfl
  · rw [show off + j = off + j / 6 * 6 + 5 by omega, c5, hg, e]; rfl

theorem flat_oneCell (l : List At) : ∀ u ∈ flat l, u.oneCell' = true := by
  intro u hu
  obtain ⟨a, _, h⟩ := List.mem_flatMap.1 hu
  exact enc_oneCell a u h
end Go.Proofs.YtahdlejgjcjeoabGreatDoor

namespace Go.Proofs.YtahdlejgjcjeoabGreatDoor
open Go.RowKit

theorem wpList_append_two {P : Program} (w : World) {ops : Array Oper} {rest : List Oper} {o : Oper} {a : Act} {Q : Exit → Act → World → Prop} (hgd : o.guard = none) (s x : Operand) (t : TypeId)
    (ho : o.op = .call { callee := .builtin .append, args := #[s, x], argTypes := #[t, t] })
    (base : Nat) (e : TypeId) (i : TypeInfo) (z : Value) (size bytes : Nat) (ht : P.underlying t = some (.slice e)) (hi : P.info? e = some i) (hz : i.zero = some z)
    (hsize : i.size = size) (hby : i.bytes = bytes) (hzs : z.cells.size = size) (hsz : 0 < size)
    (v : Value) (n : Nat) (xs : List Value) (hs : a.eval s = v) (hown : w.ownsRow base e size v n xs)
    (ad : Addr) (m c : Nat) (news : List Value) (hx : a.eval x = .slice (some ad) m c) (hl : news.length = m * size) (hnews : ∀ j u, news[j]? = some u → w.cell? (ad.add j) = some u) (h1 : ∀ u ∈ news, u.oneCell' = true)
    (hm : 0 < m) (h63 : n + m ≤ maxLen) (hbytes : (n + m) * bytes ≤ 140737488355328) (hbase : base ≤ w.heap.size)
    (h : ∀ g cap w', w'.ownsRow base e size (.slice (some ⟨g, 0, none⟩) (n + m) cap) (n + m) (xs ++ news) → ((w.grownBy w' none ∧ w.heap.size ≤ g) ∨ (v.ownBlock = some g ∧ w.grownBy w' (some g))) → wpList P ops Q rest (a.put o.dst (.slice (some ⟨g, 0, none⟩) (n + m) cap)) w') : wpList P ops Q (o :: rest) a w := by
  have fin : ∀ v' w', w'.ownsRow w.heap.size e size v' (n + m) (xs ++ news) → w.grownBy w' none → wpList P ops Q rest (a.put o.dst v') w' := by
    intro v' w' r1 r2
    rcases r1.2 with ⟨_, h0⟩ | ⟨g, cap, cur, rfl, hg, _⟩
    · omega
    · exact h g cap w' (owns_mono r1 hbase) (.inl ⟨r2, hg⟩)
  rcases hown.2 with ⟨rfl, hn0⟩ | ⟨g, cap, cur, rfl, hg, hh, k1, k2, k3, k4⟩
  · refine wpList_append_grows w hgd s x t ho e i z size bytes ht hi hz hsize hby hzs hsz none n 0 xs (by rw [hs, hn0]) (fun _ => ⟨hn0, rfl⟩) hown.1 (fun b hb => by cases hb) ad m c news hx hl hnews h1 (by omega) h63 hbytes fin
  · by_cases hr : n + m ≤ cap
    · exact wpList_append_own_spare w hgd s x t ho base e i size ht hi hsize g n cap xs hs hown ad m c news hx hl hnews h1 hr (fun w' r1 r2 => h g cap w' r1 (.inr ⟨rfl, r2⟩))
    · refine wpList_append_grows w hgd s x t ho e i z size bytes ht hi hz hsize hby hzs hsz (some ⟨g, 0, none⟩) n cap xs hs (fun hb => by cases hb) hown.1 (fun b hb j u hu => ?_) ad m c news hx hl hnews h1 (by omega) h63 hbytes fin
      cases hb
      have hj : j < xs.length := (List.getElem?_eq_some_iff.1 hu).1
      refine World.news_of_block hh j u ?_
      rw [← k4, List.getElem?_take] at hu
      split at hu
      · exact hu
      · cases hu

theorem owns_grown' {w w' : World} {base : Nat} {row : Option Nat} {e : TypeId} {s n : Nat} {v : Value} {xs : List Value} (h : w.ownsRow base e s v n xs) (hg : w.grownBy w' row) (hr : ∀ q, v.ownBlock = some q → some q ≠ row) : w'.ownsRow base e s v n xs := by
  obtain ⟨h0, h⟩ := h
  refine ⟨h0, ?_⟩
  rcases h with h | ⟨g, cap, cur, rfl, hgb, hh, k⟩
  · exact .inl h
  · exact .inr ⟨g, cap, cur, rfl, hgb, by rw [hg.block g (Array.getElem?_eq_some_iff.1 hh).1 (hr g rfl)]; exact hh, k⟩

end Go.Proofs.YtahdlejgjcjeoabGreatDoor

namespace Go.Proofs.YtahdlejgjcjeoabGreatDoor
open Go.RowKit

/-- Outside X nothing that was there has turned. -/
structure Fr (X : Nat → Prop) (w w' : World) : Prop where
  os : w'.os = w.os
  tape : w'.tape = w.tape
  output : w'.output = w.output
  size : w.heap.size ≤ w'.heap.size
  block : ∀ k, k < w.heap.size → ¬ X k → w'.heap[k]? = w.heap[k]?
theorem Fr.refl (X : Nat → Prop) (w : World) : Fr X w w := ⟨rfl, rfl, rfl, Nat.le_refl _, fun _ _ _ => rfl⟩
theorem Fr.step {X : Nat → Prop} {w w1 w2 : World} {row : Option Nat} (h : Fr X w w1) (hg : w1.grownBy w2 row) (hr : ∀ q, row = some q → w.heap.size ≤ q ∨ X q) : Fr X w w2 :=
  ⟨hg.os.trans h.os, hg.tape.trans h.tape, hg.output.trans h.output, Nat.le_trans h.size hg.size, fun k hk hx => by
    refine (hg.block k (Nat.lt_of_lt_of_le hk h.size) (fun e => ?_)).trans (h.block k hk hx)
    rcases hr k e.symm with h1 | h1
    · omega
    · exact hx h1⟩
theorem Fr.below {X : Nat → Prop} {w w1 w2 : World} (h : Fr X w w1) (hb : Below w1.heap.size w1 w2) : Fr X w w2 := h.step (below_grown hb none) (fun q hq => by cases hq)
theorem grown_setCell (w : World) (a : Addr) (u : Value) : w.grownBy (w.setCell a u) (some a.block) :=
  ⟨rfl, rfl, rfl, by simp [World.setCell], fun k _ hne => Below.heap_setCell _ _ _ _ (fun e => hne (by rw [e]))⟩
theorem Fr.trans {X Y : Nat → Prop} {w w1 w2 : World} (h : Fr X w w1) (k : Fr Y w1 w2) (hY : ∀ q, q < w.heap.size → Y q → X q) : Fr X w w2 :=
  ⟨k.os.trans h.os, k.tape.trans h.tape, k.output.trans h.output, Nat.le_trans h.size k.size, fun q hq hx => (k.block q (Nat.lt_of_lt_of_le hq h.size) (fun hy => hx (hY q hq hy))).trans (h.block q hq hx)⟩
end Go.Proofs.YtahdlejgjcjeoabGreatDoor

namespace Go.Proofs.YtahdlejgjcjeoabGreatDoor
open Go.RowKit

theorem own_g {g n cap q : Nat} (h : (Value.slice (some ⟨g, 0, none⟩) n cap).ownBlock = some q) : g = q := by simpa [Value.ownBlock] using h
end Go.Proofs.YtahdlejgjcjeoabGreatDoor

namespace Go.Proofs.YtahdlejgjcjeoabGreatDoor
open Go.RowKit

theorem own_lt {w : World} {base : Nat} {e : TypeId} {s n : Nat} {v : Value} {xs : List Value} (h : w.ownsRow base e s v n xs) : ∀ q, v.ownBlock = some q → q < w.heap.size := by
  intro q hq
  rcases h.2 with ⟨rfl, _⟩ | ⟨g, cap, cur, rfl, _, hh, _⟩
  · simp [Value.ownBlock] at hq
  · obtain rfl := own_g hq
    exact (Array.getElem?_eq_some_iff.1 hh).1
theorem owns_fr {X : Nat → Prop} {w w' : World} {base : Nat} {e : TypeId} {s n : Nat} {v : Value} {xs : List Value} (h : w.ownsRow base e s v n xs) (hf : Fr X w w') (hx : ∀ q, v.ownBlock = some q → ¬ X q) : w'.ownsRow base e s v n xs := by
  obtain ⟨h0, h⟩ := h
  refine ⟨h0, ?_⟩
  rcases h with h | ⟨g, cap, cur, rfl, hgb, hh, k⟩
  · exact .inl h
  · exact .inr ⟨g, cap, cur, rfl, hgb, by rw [hf.block g (Array.getElem?_eq_some_iff.1 hh).1 (hx g rfl)]; exact hh, k⟩
theorem own_form {w : World} {base : Nat} {e : TypeId} {s n : Nat} {v : Value} {xs : List Value} (h : w.ownsRow base e s v n xs) : ∃ ad cap, v = .slice ad n cap := by
  rcases h.2 with ⟨rfl, rfl⟩ | ⟨g, cap, cur, rfl, _⟩
  · exact ⟨none, 0, rfl⟩
  · exact ⟨_, cap, rfl⟩
end Go.Proofs.YtahdlejgjcjeoabGreatDoor

namespace Go.Proofs.YtahdlejgjcjeoabGreatDoor
open Go.RowKit

/-- The same cells n times. -/
def reps (n : Nat) (c : List Value) : List Value := (List.replicate n c).flatten
theorem reps_succ (n : Nat) (c : List Value) : reps (n + 1) c = reps n c ++ c := by
  unfold reps
  rw [List.replicate_succ', List.flatten_append]
  simp
theorem reps_length (n : Nat) (c : List Value) : (reps n c).length = n * c.length := by
  induction n with
  | zero => simp [reps]
  | succ n ih => rw [reps_succ, List.length_append, ih, Nat.succ_mul]
theorem reps_get {n : Nat} {c : List Value} {i j : Nat} {u : Value} (hi : i < n) (hu : c[j]? = some u) : (reps n c)[i * c.length + j]? = some u := by
  have hj : j < c.length := (List.getElem?_eq_some_iff.1 hu).1
  induction n with
  | zero => omega
  | succ n ih =>
    rw [reps_succ]
    by_cases h : i < n
    · have h1 := ih h
      have h2 : i * c.length + j < (reps n c).length := (List.getElem?_eq_some_iff.1 h1).1
      rw [List.getElem?_append_left h2]
      exact h1
    · obtain rfl : i = n := by omega
      rw [List.getElem?_append_right (by rw [reps_length]; omega), reps_length, Nat.add_sub_cancel_left]
      exact hu
end Go.Proofs.YtahdlejgjcjeoabGreatDoor

namespace Go.Proofs.YtahdlejgjcjeoabGreatDoor
open Go.RowKit

abbrev Col := Nat → Nat × Nat
/-- From block n on all is of one colour. -/
def paint (col : Col) (n : Nat) (κ : Nat × Nat) : Col := fun q => if q < n then col q else κ
theorem paint_old (col : Col) {n q : Nat} (κ : Nat × Nat) (h : q < n) : paint col n κ q = col q := if_pos h
theorem paint_new (col : Col) {n q : Nat} (κ : Nat × Nat) (h : n ≤ q) : paint col n κ q = κ := if_neg (by omega)

theorem Fr.mono {X Y : Nat → Prop} {w w' : World} (h : Fr X w w') (hXY : ∀ q, q < w.heap.size → X q → Y q) : Fr Y w w' :=
  ⟨h.os, h.tape, h.output, h.size, fun k hk hy => h.block k hk (fun hx => hy (hXY k hk hx))⟩

/-- Nothing old has turned but what has a colour of S; no old block has another colour than it had. -/
structure FrC (S : Nat × Nat → Prop) (col col' : Col) (w w' : World) : Prop where
  fr : Fr (fun q => S (col q)) w w'
  col : ∀ q, q < w.heap.size → col' q = col q

theorem FrC.refl (S : Nat × Nat → Prop) (col : Col) (w : World) : FrC S col col w w := ⟨Fr.refl _ _, fun _ _ => rfl⟩
theorem FrC.mono {S T : Nat × Nat → Prop} {c c1 : Col} {w w1 : World} (h : FrC S c c1 w w1) (hST : ∀ x, S x → T x) : FrC T c c1 w w1 :=
  ⟨h.fr.mono fun _ _ hx => hST _ hx, h.col⟩
theorem FrC.trans {S : Nat × Nat → Prop} {c c1 c2 : Col} {w w1 w2 : World} (h : FrC S c c1 w w1) (k : FrC S c1 c2 w1 w2) : FrC S c c2 w w2 :=
  ⟨h.fr.trans k.fr fun q hq hx => by rw [← h.col q hq]; exact hx, fun q hq => (k.col q (Nat.lt_of_lt_of_le hq h.fr.size)).trans (h.col q hq)⟩
theorem frC_below {S : Nat × Nat → Prop} {col : Col} {w w' : World} (hb : Below w.heap.size w w') (κ : Nat × Nat) : FrC S col (paint col w.heap.size κ) w w' :=
  ⟨(Fr.refl _ w).below hb, fun _ hq => paint_old col κ hq⟩
theorem frC_same {S : Nat × Nat → Prop} {col : Col} {w w' : World} (hb : Below w.heap.size w w') : FrC S col col w w' := ⟨(Fr.refl _ w).below hb, fun _ _ => rfl⟩
theorem FrC.size {S : Nat × Nat → Prop} {c c1 : Col} {w w1 : World} (h : FrC S c c1 w w1) : w.heap.size ≤ w1.heap.size := h.fr.size
theorem FrC.block {S : Nat × Nat → Prop} {c c1 : Col} {w w1 : World} (h : FrC S c c1 w w1) {q : Nat} {b : Obj} (hb : w.heap[q]? = some b) (hS : ¬ S (c q)) : w1.heap[q]? = some b :=
  (h.fr.block q (Array.getElem?_eq_some_iff.1 hb).1 hS).trans hb
theorem FrC.colB {S : Nat × Nat → Prop} {c c1 : Col} {w w1 : World} (h : FrC S c c1 w w1) {q : Nat} {b : Obj} (hb : w.heap[q]? = some b) : c1 q = c q := h.col q (Array.getElem?_eq_some_iff.1 hb).1
/-- A list of atoms, in blocks of one colour. -/
def Held (w : World) (col : Col) (κ : Nat × Nat) (v : Value) (l : List At) : Prop :=
  ∃ ad cap, v = .slice ad l.length cap ∧ l.length ≤ cap ∧ (0 < l.length → ∃ b off, ad = some ⟨b, off, none⟩ ∧ b < w.heap.size ∧ col b = κ ∧ RowAt w b off l)
theorem Held.slice {w : World} {col : Col} {κ : Nat × Nat} {v : Value} {l : List At} (h : Held w col κ v l) : SliceOf w v l := by
  obtain ⟨ad, cap, rfl, hc, H⟩ := h
  refine ⟨ad, cap, rfl, hc, fun h0 => ?_⟩
  obtain ⟨b, off, rfl, hb, _, hr⟩ := H h0
  exact ⟨b, off, rfl, hb, hr⟩
theorem cellsAt_block {w w' : World} {b o : Nat} {a : At} (h : w'.heap[b]? = w.heap[b]?) (hr : cellsAt w b o a) : cellsAt w' b o a := by
  obtain ⟨c0, c1, c2, c3, c4, c5⟩ := hr
  refine ⟨?_, ?_, ?_, ?_, ?_, ?_⟩ <;> (rw [World.cell?_of_block (w := w) h]; assumption)
theorem Held.kept {w w' : World} {col col' : Col} {κ : Nat × Nat} {v : Value} {l : List At} {S : Nat × Nat → Prop} (h : Held w col κ v l) (hf : FrC S col col' w w') (hS : ¬ S κ) : Held w' col' κ v l := by
  obtain ⟨ad, cap, rfl, hc, H⟩ := h
  refine ⟨ad, cap, rfl, hc, fun h0 => ?_⟩
  obtain ⟨b, off, rfl, hb, hk, hr⟩ := H h0
  have he := hf.fr.block b hb (by rw [hk]; exact hS)
  exact ⟨b, off, rfl, Nat.lt_of_lt_of_le hb hf.size, (hf.col b hb).trans hk, fun k hl => cellsAt_block he (hr k hl)⟩
theorem held_nil (w : World) (col : Col) (κ : Nat × Nat) : Held w col κ (.slice none 0 0) [] := ⟨none, 0, rfl, Nat.le_refl _, fun h => by simp at h⟩
theorem held_owns {w : World} {col : Col} {κ : Nat × Nat} {base : Nat} {e : TypeId} {v : Value} {l : List At} {n : Nat} (hn : n = l.length) (h : w.ownsRow base e 6 v n (flat l)) (hc : ∀ q, v.ownBlock = some q → col q = κ) : Held w col κ v l := by
  subst hn
  obtain ⟨_, h⟩ := h
  rcases h with ⟨rfl, h0⟩ | ⟨g, cap, cur, rfl, hg, hb, h1, h2, h3, h4⟩
  · obtain rfl := List.length_eq_zero_iff.1 h0
    exact held_nil w col κ
  · exact ⟨_, cap, rfl, h1, fun _ => ⟨g, 0, rfl, (Array.getElem?_eq_some_iff.1 hb).1, hc g rfl, rowAt_of_block hb h4⟩⟩
/-- What a callee has made anew, painted. -/
theorem held_made {w w' : World} {col : Col} {κ : Nat × Nat} {e : TypeId} {v : Value} {l : List At} {n : Nat} (hn : n = l.length) (h : w'.ownsRow w.heap.size e 6 v n (flat l)) : Held w' (paint col w.heap.size κ) κ v l :=
  held_owns hn h fun q hq => paint_new col κ (owns_base h q hq)

/-- A row of one's own, in a block of one colour. -/
structure RowC (w : World) (col : Col) (κ : Nat × Nat) (e : TypeId) (s : Nat) (v : Value) (n : Nat) (xs : List Value) : Prop where
  own : w.ownsRow 0 e s v n xs
  col : ∀ q, v.ownBlock = some q → col q = κ
theorem RowC.kept {w w' : World} {col col' : Col} {κ : Nat × Nat} {e : TypeId} {s n : Nat} {v : Value} {xs : List Value} {S : Nat × Nat → Prop} (h : RowC w col κ e s v n xs) (hf : FrC S col col' w w') (hS : ¬ S κ) : RowC w' col' κ e s v n xs where
  own := owns_fr h.own hf.fr fun q hq => by rw [h.col q hq]; exact hS
  col q hq := (hf.col q (own_lt h.own q hq)).trans (h.col q hq)
theorem rowC_nil (w : World) (col : Col) (κ : Nat × Nat) (e : TypeId) (s : Nat) : RowC w col κ e s (.slice none 0 0) 0 [] := ⟨World.ownsRow_nil w 0 e s, fun q hq => by cases hq⟩
theorem rowC_made {w w' : World} {col : Col} {κ : Nat × Nat} {e : TypeId} {s n : Nat} {v : Value} {xs : List Value} (h : w'.ownsRow w.heap.size e s v n xs) : RowC w' (paint col w.heap.size κ) κ e s v n xs :=
  ⟨owns_mono h (Nat.zero_le _), fun q hq => paint_new col κ (owns_base h q hq)⟩
theorem RowC.lies {w w1 w2 : World} {col : Col} {κ : Nat × Nat} {e : TypeId} {s n m g cap H : Nat} {v : Value} {xs ys : List Value} (h : RowC w col κ e s v n xs) (h1 : Below w.heap.size w w1)
    (hown : w2.ownsRow 0 e s (.slice (some ⟨g, 0, none⟩) m cap) m ys) (hg : w1.grownBy w2 v.ownBlock) (hat : v.ownBlock = some g ∨ g = H) (hH : w.heap.size ≤ H) :
    RowC w2 (paint col w.heap.size κ) κ e s (.slice (some ⟨g, 0, none⟩) m cap) m ys ∧ FrC (fun x => x = κ) col (paint col w.heap.size κ) w w2 := by
  have hf : Fr (fun q => col q = κ) w w1 := (Fr.refl _ w).below h1
  refine ⟨⟨hown, fun q hq => ?_⟩, ⟨hf.step hg (fun q hq => .inr (h.col q hq)), fun q hq => paint_old col κ hq⟩⟩
  obtain rfl := own_g hq
  rcases hat with e | e
  · rw [paint_old col κ (own_lt h.own g e), h.col g e]
  · exact paint_new col κ (by omega)
/-- What a store or a look into a row wants to know. -/
theorem RowC.at {w : World} {col : Col} {κ : Nat × Nat} {e : TypeId} {s n : Nat} {v : Value} {xs : List Value} (h : RowC w col κ e s v n xs) (hn : 0 < n) : ∃ g cap, v = .slice (some ⟨g, 0, none⟩) n cap ∧ n ≤ cap ∧ cap ≤ maxLen ∧ g < w.heap.size ∧ col g = κ ∧ (∀ j u, xs[j]? = some u → w.cell? ⟨g, j, none⟩ = some u) ∧ ∀ j, w.frozen? ⟨g, j, none⟩ = false := by
  rcases h.own.2 with ⟨_, h0⟩ | ⟨g, cap, cur, rfl, hg, hb, h1, h2, h3, h4⟩
  · omega
  · refine ⟨g, cap, rfl, h1, h2, (Array.getElem?_eq_some_iff.1 hb).1, h.col g rfl, fun j u hu => ?_, fun j => by simp [World.frozen?, hb]⟩
    have hj : j < xs.length := (List.getElem?_eq_some_iff.1 hu).1
    rw [← h4, List.getElem?_take] at hu
    split at hu
    · rw [Array.getElem?_toList] at hu
      simp [World.cell?, hb, hu]
    · cases hu
theorem RowC.form {w : World} {col : Col} {κ : Nat × Nat} {e : TypeId} {s n : Nat} {v : Value} {xs : List Value} (h : RowC w col κ e s v n xs) : ∃ ad cap, v = .slice ad n cap ∧ n ≤ cap := by
  rcases h.own.2 with ⟨rfl, rfl⟩ | ⟨g, cap, cur, rfl, hg, hb, h1, h2, h3, h4⟩
  · exact ⟨_, _, rfl, Nat.le_refl _⟩
  · exact ⟨_, _, rfl, h1⟩
theorem RowC.store {w : World} {col : Col} {κ : Nat × Nat} {e : TypeId} {s n g cap : Nat} {xs : List Value} (h : RowC w col κ e s (.slice (some ⟨g, 0, none⟩) n cap) n xs) (j : Nat) (u : Value) :
    RowC (w.setCell ⟨g, j, none⟩ u) col κ e s (.slice (some ⟨g, 0, none⟩) n cap) n (xs.set j u) ∧ FrC (fun x => x = κ) col col w (w.setCell ⟨g, j, none⟩ u) := by
  refine ⟨⟨?_, h.col⟩, ⟨(Fr.refl _ w).step (grown_setCell w ⟨g, j, none⟩ u) (fun q hq => by cases hq; exact .inr (h.col g rfl)), fun _ _ => rfl⟩⟩
  rcases h.own.2 with ⟨h0, _⟩ | ⟨g', cap', cur, hv, hg, hh, h1, h2, h3, h4⟩
  · cases h0
  cases hv
  refine ⟨by rw [List.length_set]; exact h.own.1, .inr ⟨g, cap, _, rfl, hg, heap_setCell_at hh u, h1, h2, by simp [h3], ?_⟩⟩
  rw [Array.toList_setIfInBounds, ← h4, List.take_set]

/-- Lists of things of s cells each. -/
theorem flatMap_len {α : Type} (f : α → List Value) (s : Nat) (hf : ∀ a, (f a).length = s) (l : List α) : (l.flatMap f).length = l.length * s := by
  induction l with
  | nil => simp
  | cons a l ih => rw [List.flatMap_cons, List.length_append, ih, hf, List.length_cons]; rw [Nat.add_mul]; omega
theorem flatMap_get {α : Type} (f : α → List Value) (s : Nat) (hf : ∀ a, (f a).length = s) (l : List α) (k j : Nat) (h : k < l.length) (hj : j < s) : (l.flatMap f)[k * s + j]? = (f l[k])[j]? := by
  induction l generalizing k with
  | nil => simp at h
  | cons a l ih =>
    have hl := hf a
    cases k with
    | zero => simp [List.getElem?_append_left (by rw [hl]; omega : j < (f a).length)]
    | succ k =>
      have := ih k (by simpa using h)
      simp only [List.flatMap_cons, List.getElem_cons_succ]
      rw [List.getElem?_append_right (by rw [hl, Nat.add_mul]; omega), hl, show (k + 1) * s + j - s = k * s + j by rw [Nat.add_mul]; omega]
      exact this
theorem flatMap_set {α : Type} (f : α → List Value) (s : Nat) (hf : ∀ a, (f a).length = s) (l : List α) (k j : Nat) (u : Value) (a' : α) (h : k < l.length) (hj : j < s) (ha : (f l[k]).set j u = f a') : (l.flatMap f).set (k * s + j) u = (l.set k a').flatMap f := by
  induction l generalizing k with
  | nil => simp at h
  | cons a l ih =>
    have hl := hf a
    cases k with
    | zero =>
      simp only [List.flatMap_cons, List.set_cons_zero, List.getElem_cons_zero] at ha ⊢
      rw [List.set_append_left _ _ (by rw [hl]; omega), Nat.zero_mul, Nat.zero_add, ha]
    | succ k =>
      have := ih k (by simpa using h) (by simpa using ha)
      simp only [List.flatMap_cons, List.set_cons_succ]
      rw [List.set_append_right _ _ (by rw [hl, Nat.add_mul]; omega), hl, show (k + 1) * s + j - s = k * s + j by rw [Nat.add_mul]; omega, this]

/-- An element of a row of things. -/
theorem RowC.elem {α : Type} {f : α → List Value} {w : World} {col : Col} {κ : Nat × Nat} {e : TypeId} {s : Nat} {v : Value} {l : List α} (hf : ∀ a, (f a).length = s) (h : RowC w col κ e s v l.length (l.flatMap f)) :
    ∃ ad cap, v = .slice ad l.length cap ∧ l.length ≤ cap ∧ (0 < l.length → ∃ g, ad = some ⟨g, 0, none⟩ ∧ g < w.heap.size ∧ col g = κ ∧ (∀ j, w.frozen? ⟨g, j, none⟩ = false) ∧ ∀ k (hk : k < l.length) j u, (f l[k])[j]? = some u → w.cell? ⟨g, k * s + j, none⟩ = some u) := by
  by_cases h0 : 0 < l.length
  · obtain ⟨g, cap, hv, hc, hm, hg, hk, hcell, hfz⟩ := h.at h0
    refine ⟨_, cap, hv, hc, fun _ => ⟨g, rfl, hg, hk, hfz, fun k hk j u hu => hcell _ u ?_⟩⟩
    rw [flatMap_get f s hf l k j hk (by rw [← hf l[k]]; exact (List.getElem?_eq_some_iff.1 hu).1)]
    exact hu
  · obtain ⟨ad, cap, hv, hc⟩ := h.form
    exact ⟨ad, cap, hv, hc, fun h => absurd h h0⟩

/-- A block's cells. -/
theorem blk_cell {w : World} {g : Nat} {cur : Array Value} {e : TypeId} {fz : Nat × Nat} (h : w.heap[g]? = some (.cells cur e fz)) (k : Nat) : w.cell? ⟨g, k, none⟩ = cur[k]? := by simp [World.cell?, h]
theorem blk_thaw {w : World} {g : Nat} {cur : Array Value} {e : TypeId} (h : w.heap[g]? = some (.cells cur e (0, 0))) (k : Nat) : w.frozen? ⟨g, k, none⟩ = false := by simp [World.frozen?, h]
theorem blk_lt {w : World} {g : Nat} {b : Obj} (h : w.heap[g]? = some b) : g < w.heap.size := (Array.getElem?_eq_some_iff.1 h).1
theorem frC_setCell {S : Nat × Nat → Prop} {col : Col} {w : World} {g : Nat} (k : Nat) (u : Value) (h : S (col g)) : FrC S col col w (w.setCell ⟨g, k, none⟩ u) :=
  ⟨(Fr.refl _ w).step (grown_setCell w ⟨g, k, none⟩ u) (fun q hq => by cases hq; exact .inr h), fun _ _ => rfl⟩
theorem owns_put {w : World} {base q o : Nat} {e : TypeId} {s n : Nat} {v u : Value} {xs : List Value} (h : w.ownsRow base e s v n xs) (hq : q < base) : (w.setCell ⟨q, o, none⟩ u).ownsRow base e s v n xs :=
  owns_grown' h (grown_setCell w ⟨q, o, none⟩ u) fun k hk e => by
    have h1 := owns_base h k hk
    have h2 : k = q := Option.some.inj e
    omega
theorem grown_dry {w w' : World} {row : Option Nat} (h : w.drew.grownBy w' row) : w.grownBy w' row := ⟨h.os, h.tape, h.output, h.size, h.block⟩

end Go.Proofs.YtahdlejgjcjeoabGreatDoor

namespace Go.Proofs.YtahdlejgjcjeoabGreatDoor
open Go.RowKit

structure Fm where
  f : Frm
  v : Value
def Fm.cells (m : Fm) : List Value := [.int .i64 m.f.kind, .int .i64 m.f.src, .int .i64 m.f.dst, .int .i64 m.f.upto, m.v]

def ints (l : List Nat) : List Value := l.map fun n : Nat => .int .i64 (n : Int)

/-- The colours of one replica. -/
def ofRep (o i : Nat) : Nat × Nat → Prop := fun κ => κ.1 = o ∧ 10 ≤ κ.2 ∧ κ.2 % 10 = i
end Go.Proofs.YtahdlejgjcjeoabGreatDoor

namespace Go.Proofs.YtahdlejgjcjeoabGreatDoor
open Go.RowKit

end Go.Proofs.YtahdlejgjcjeoabGreatDoor

namespace Go.Proofs.YtahdlejgjcjeoabGreatDoor
open Go.RowKit

end Go.Proofs.YtahdlejgjcjeoabGreatDoor

namespace Go.Proofs.YtahdlejgjcjeoabGreatDoor
open Go.RowKit Go.MuLone

/-- The lock taken and given back: nothing has turned. -/
theorem below_lock {w w2 : World} {x : Nat} (h : w.cell? ⟨x, 0, none⟩ = some (.int .i32 0)) (hb : Below w.heap.size (w.setCell ⟨x, 0, none⟩ (.int .i32 1)) w2) : Below w.heap.size w (w2.setCell ⟨x, 0, none⟩ (.int .i32 0)) := by
  have g1 := grown_setCell w ⟨x, 0, none⟩ (.int .i32 1)
  have g2 := grown_setCell w2 ⟨x, 0, none⟩ (.int .i32 0)
  obtain ⟨cs, e, fz, hx, h0⟩ := Go.Sort.cells_of_cell? h
  have hlt : x < w.heap.size := (Array.getElem?_eq_some_iff.1 hx).1
  refine ⟨g2.os.trans (hb.os.trans g1.os), g2.tape.trans (hb.tape.trans g1.tape), g2.output.trans (hb.output.trans g1.output), Nat.le_trans (Nat.le_trans g1.size hb.size) g2.size, fun k hk => ?_⟩
  by_cases hkx : k = x
  · subst hkx
    have h1 : w2.heap[k]? = some (.cells (cs.setIfInBounds 0 (.int .i32 1)) e fz) := by
      rw [hb.block k hk]
      exact heap_setCell_at hx _
    rw [heap_setCell_at h1, hx]
    have : (cs.setIfInBounds 0 (Value.int .i32 1)).setIfInBounds 0 (.int .i32 0) = cs := by
      apply Array.ext_getElem?
      intro i
      by_cases hi : i = 0
      · subst hi
        rw [h0]
        have : 0 < cs.size := (Array.getElem?_eq_some_iff.1 h0).1
        simp [this]
      · simp [Ne.symm hi]
    rw [this]
  · have n1 : some k ≠ some (⟨x, 0, none⟩ : Addr).block := fun e => hkx (by cases e; rfl)
    rw [g2.block k (Nat.lt_of_lt_of_le hk (Nat.le_trans g1.size hb.size)) n1, hb.block k hk]
    exact g1.block k hk n1

set_option maxRecDepth 100000 in
theorem one_no (x : Nat) (r : Int) (ad : Option Addr) (n cap : Nat) (w : World) (c41 : w.cell? ⟨x, 41, none⟩ = some (.slice ad n cap)) (hr : ¬ (0 ≤ r ∧ r < n)) :
    Calls Tryz.prog 71 #[.pointer (some ⟨x, 0, none⟩), .int .i64 r] w fun e w' => e = .returned (.tuple #[.pointer none, .int .i64 5]) ∧ w' = w := by
  go_enter Tryz.func71, Tryz.ntmps71
  by_cases h0 : r < 0
  · go_wp2
    go_ret2
    exact ⟨rfl, rfl⟩
  · have q1 : (n : Int) ≤ r := by omega
    have q0 : 0 ≤ r := by omega
    go_wp2
    go_ret2
    exact ⟨rfl, rfl⟩
set_option maxRecDepth 100000 in
theorem one_yes (x R i n cap : Nat) (w : World) (c41 : w.cell? ⟨x, 41, none⟩ = some (.slice (some ⟨R, 0, none⟩) n cap)) (hi : i < n) :
    Calls Tryz.prog 71 #[.pointer (some ⟨x, 0, none⟩), .int .i64 i] w fun e w' => e = .returned (.tuple #[.pointer (some ⟨R, i * 14, none⟩), .int .i64 0]) ∧ w' = w := by
  have q1 : (i : Int) < (n : Int) := by omega
  have q0 : (0 : Int) ≤ (i : Int) := by omega
  go_enter Tryz.func71, Tryz.ntmps71
  go_wp2
  go_ret2
  exact ⟨by simp, rfl⟩
end Go.Proofs.YtahdlejgjcjeoabGreatDoor

namespace Go.Proofs.YtahdlejgjcjeoabGreatDoor
open Go.RowKit Go.MuLone

/-- The cluster's block: the lock is free, the row of replicas. -/
structure ClAt (w : World) (x R n cap : Nat) : Prop where
  c0 : w.cell? ⟨x, 0, none⟩ = some (.int .i32 0)
  f0 : w.frozen? ⟨x, 0, none⟩ = false
  c41 : w.cell? ⟨x, 41, none⟩ = some (.slice (some ⟨R, 0, none⟩) n cap)
  xR : x ≠ R
  cap : n ≤ cap
theorem ClAt.lt {w : World} {x R n cap : Nat} (h : ClAt w x R n cap) : x < w.heap.size := by
  obtain ⟨cs, e, fz, hx, _⟩ := Go.Sort.cells_of_cell? h.c0
  exact (Array.getElem?_eq_some_iff.1 hx).1
theorem ClAt.l41 {w : World} {x R n cap : Nat} (h : ClAt w x R n cap) : (w.setCell ⟨x, 0, none⟩ (.int .i32 1)).cell? ⟨x, 41, none⟩ = some (.slice (some ⟨R, 0, none⟩) n cap) :=
  (World.cell?_setCell_other _ ⟨x, 0, none⟩ ⟨x, 41, none⟩ _ (by simp)).trans h.c41
theorem ClAt.lR {w : World} {x R n cap k : Nat} {v : Value} (h : ClAt w x R n cap) (hv : w.cell? ⟨R, k, none⟩ = some v) : (w.setCell ⟨x, 0, none⟩ (.int .i32 1)).cell? ⟨R, k, none⟩ = some v :=
  (World.cell?_setCell_other _ ⟨x, 0, none⟩ ⟨R, k, none⟩ _ (fun e => h.xR (by cases e; rfl))).trans hv
theorem lock_size (w : World) (x : Nat) : (w.setCell ⟨x, 0, none⟩ (.int .i32 1)).heap.size = w.heap.size := by simp
theorem ClAt.unlock {w w2 : World} {x R n cap : Nat} (h : ClAt w x R n cap) (hb : Below w.heap.size (w.setCell ⟨x, 0, none⟩ (.int .i32 1)) w2) : w2.cell? ⟨x, 0, none⟩ = some (.int .i32 1) ∧ w2.frozen? ⟨x, 0, none⟩ = false ∧ Below w.heap.size w (w2.setCell ⟨x, 0, none⟩ (.int .i32 0)) := by
  refine ⟨?_, ?_, below_lock h.c0 hb⟩
  · rw [hb.cell (p := ⟨x, 0, none⟩) h.lt]
    exact World.cell?_setCell_same _ _ _ h.c0
  · rw [hb.frozen (p := ⟨x, 0, none⟩) h.lt, World.frozen?_setCell]
    exact h.f0
theorem ClAt.below {w w' : World} {x R n cap : Nat} {B : Nat} (h : ClAt w x R n cap) (hb : Below B w w') (hx : x < B) : ClAt w' x R n cap :=
  ⟨by rw [hb.cell (p := ⟨x, 0, none⟩) hx]; exact h.c0, by rw [hb.frozen (p := ⟨x, 0, none⟩) hx]; exact h.f0, by rw [hb.cell (p := ⟨x, 41, none⟩) hx]; exact h.c41, h.xR, h.cap⟩

set_option maxRecDepth 100000 in
theorem upOne_no (x : Nat) (r : Int) (ad : Option Addr) (n cap : Nat) (w : World) (c41 : w.cell? ⟨x, 41, none⟩ = some (.slice ad n cap)) (hr : ¬ (0 ≤ r ∧ r < n)) :
    Calls Tryz.prog 68 #[.pointer (some ⟨x, 0, none⟩), .int .i64 r] w fun e w' => e = .returned (.tuple #[.pointer none, .int .i64 5]) ∧ w' = w := by
  go_enter Tryz.func68, Tryz.ntmps68
  go_wp2_with fail
  refine (one_no x r ad n cap w c41 hr).mono ?_
  rintro e w1 ⟨rfl, rfl⟩
  go_wp2
  go_ret2
  exact ⟨rfl, rfl⟩
set_option maxRecDepth 100000 in
theorem upOne_yes (x R i n cap : Nat) (up : Bool) (w : World) (c41 : w.cell? ⟨x, 41, none⟩ = some (.slice (some ⟨R, 0, none⟩) n cap)) (hi : i < n) (hup : w.cell? ⟨R, i * 14, none⟩ = some (.bool up)) :
    Calls Tryz.prog 68 #[.pointer (some ⟨x, 0, none⟩), .int .i64 i] w fun e w' => e = .returned (.tuple #[.pointer (if up then some ⟨R, i * 14, none⟩ else none), .int .i64 (if up then 0 else 8)]) ∧ w' = w := by
  go_enter Tryz.func68, Tryz.ntmps68
  go_wp2_with fail
  refine (one_yes x R i n cap w c41 hi).mono ?_
  rintro e w1 ⟨rfl, rfl⟩
  cases up
  · go_wp2
    go_ret2
    exact ⟨rfl, rfl⟩
  · go_wp2
    go_ret2
    exact ⟨rfl, rfl⟩

set_option maxRecDepth 100000 in
theorem prgFlight (x R n cap : Nat) (ad : Option Addr) (m cp : Nat) (w : World) (h : ClAt w x R n cap) (c42 : w.cell? ⟨x, 42, none⟩ = some (.slice ad m cp)) :
    Calls Tryz.prog 12 #[.pointer (some ⟨x, 0, none⟩)] w fun e w' => e = .returned (.int .i64 m) ∧ Below w.heap.size w w' := by
  have k42 : (w.setCell ⟨x, 0, none⟩ (.int .i32 1)).cell? ⟨x, 42, none⟩ = some (.slice ad m cp) := (World.cell?_setCell_other _ ⟨x, 0, none⟩ ⟨x, 42, none⟩ _ (by simp)).trans c42
  go_enter_defers Tryz.func12, Tryz.ntmps12
  go_wp2_with (go_at_call 44; refine (lock_free muLib ⟨x, 0, none⟩ _ h.c0 h.f0).mono ?_; rintro e w' ⟨rfl, rfl⟩)
  refine leaves_cons (f := 45) (args := #[.pointer (some ⟨x, 0, none⟩)]) (by simp) (by simp [go_sem]) ?_
  obtain ⟨u0, u1, u2⟩ := h.unlock (w2 := _) (Below.refl _ _)
  refine (unlock_deferred muLib ⟨x, 0, none⟩ .returning _ u0 u1).mono ?_
  rintro e u' w'' ⟨rfl, rfl, rfl⟩
  exact ⟨_, results_tmp rfl _ _ _, rfl, u2⟩
end Go.Proofs.YtahdlejgjcjeoabGreatDoor

namespace Go.Proofs.YtahdlejgjcjeoabGreatDoor
open Go.RowKit

/-- As great as a script can make it. -/
def Lim (U : List At) (N : Nat) : Prop := N ≤ 2097152 ∧ U.length ≤ 131072
/-- What Frame tells. -/
def Clu.frmAt (c : Clu) (k : Int) : Frm := if c.has k then c.frm k.toNat else ⟨0, 0, 0, 0, []⟩

end Go.Proofs.YtahdlejgjcjeoabGreatDoor

namespace Go.Proofs.YtahdlejgjcjeoabGreatDoor
open Go.RowKit

/-- A replica that there may be. -/
def Clu.repAt (c : Clu) (r : Int) : Rep := if c.there r then c.rep r.toNat else ⟨true, [], 0, 0, [], [], [], [], 0, 0⟩
def Clu.thereErr (c : Clu) (r : Int) : Int := if c.there r then 0 else 5

theorem infoInt : (Tryz.prog.info? 3).map (fun i => (i.zero, i.size, i.bytes)) = some (some (.int .i64 0), 1, 8) := by kernel_rfl
theorem two_blocks (w : World) (a b : Obj) : ((w.alloc a).alloc b).heap[w.heap.size + 1]? = some b ∧ ((w.alloc a).alloc b).heap[w.heap.size]? = some a := by
  have h1 := heap_alloc_new (w.alloc a) b
  rw [show (w.alloc a).heap.size = w.heap.size + 1 by simp] at h1
  exact ⟨h1, (Below.heap_alloc (w.alloc a) b w.heap.size (by simp)).trans (heap_alloc_new w a)⟩
theorem heap_set {w : World} {g o : Nat} {cur : Array Value} {e : TypeId} {fz : Nat × Nat} (h : w.heap[g]? = some (.cells cur e fz)) (u : Value) : (w.setCell ⟨g, o, none⟩ u).heap[g]? = some (.cells (cur.setIfInBounds o u) e fz) := heap_setCell_at h u
theorem Hid.mk {p : Prop} (h : p) : Hid p := h
end Go.Proofs.YtahdlejgjcjeoabGreatDoor
