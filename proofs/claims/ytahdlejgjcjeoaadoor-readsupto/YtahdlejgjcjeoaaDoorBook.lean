/- The laws' book: entries, marks, what keeps them; an append that says what it leaves. -/
import Derived.Test.YtahdlejgjcjeoaaDoorLentK
import Derived.Test.YtahdlejgjcjeoaaDoorMapK
import Derived.ArgAppend
import Derived.Deep.DeepAppendRoom
namespace Go.Proofs.YtahdlejgjcjeoaaDoor
open Go.RowKit

theorem wpList_append_two {P : Program} (w : World) {ops : Array Oper} {rest : List Oper} {o : Oper} {a : Act} {Q : Exit → Act → World → Prop} (hgd : o.guard = none) (s x : Operand) (t : TypeId)
    (ho : o.op = .call { callee := .builtin .append, args := #[s, x], argTypes := #[t, t] })
    (base : Nat) (e : TypeId) (i : TypeInfo) (z : Value) (size bytes : Nat) (ht : P.underlying t = some (.slice e)) (hi : P.info? e = some i) (hz : i.zero = some z)
    (hsize : i.size = size) (hby : i.bytes = bytes) (hzs : z.cells.size = size) (hsz : 0 < size)
    (v : Value) (n : Nat) (xs : List Value) (hs : a.eval s = v) (hown : w.ownsRow base e size v n xs)
    (ad : Addr) (m c : Nat) (news : List Value) (hx : a.eval x = .slice (some ad) m c) (hl : news.length = m * size) (hnews : ∀ j u, news[j]? = some u → w.cell? (ad.add j) = some u) (h1 : ∀ u ∈ news, u.oneCell' = true)
    (hm : 0 < m) (h63 : n + m ≤ maxLen) (hbytes : (n + m) * bytes ≤ 140737488355328) (hbase : base ≤ w.heap.size)
    (h : ∀ g cap w', w'.ownsRow base e size (.slice (some ⟨g, 0, none⟩) (n + m) cap) (n + m) (xs ++ news) → ((w.grownBy w' none ∧ w.heap.size ≤ g) ∨ (v.ownBlock = some g ∧ w.grownBy w' (some g))) → wpList P ops Q rest (a.put o.dst (.slice (some ⟨g, 0, none⟩) (n + m) cap)) w') : wpList P ops Q (o :: rest) a w := by
  have fin : ∀ v' w', w'.ownsRow w.heap.size e size v' (n + m) (xs ++ news) → w.grownBy w' none → wpList P ops Q rest (a.put o.dst v') w' := by
    intro v' w' r1 r2
    rcases r1.2 with ⟨_, h0⟩ | ⟨g, cap, cur, rfl, hg, _⟩
    · omega
    · exact h g cap w' (owns_mono r1 hbase) (.inl ⟨r2, hg⟩)
  rcases hown.2 with ⟨rfl, hn0⟩ | ⟨g, cap, cur, rfl, hg, hh, k1, k2, k3, k4⟩
  · refine wpList_append_grows w hgd s x t ho e i z size bytes ht hi hz hsize hby hzs hsz none n 0 xs (by rw [hs, hn0]) (fun _ => ⟨hn0, rfl⟩) hown.1 (fun b hb => by cases hb) ad m c news hx hl hnews h1 (by omega) h63 hbytes fin
  · by_cases hr : n + m ≤ cap
    · exact wpList_append_own_spare w hgd s x t ho base e i size ht hi hsize g n cap xs hs hown ad m c news hx hl hnews h1 hr (fun w' r1 r2 => h g cap w' r1 (.inr ⟨rfl, r2⟩))
    · refine wpList_append_grows w hgd s x t ho e i z size bytes ht hi hz hsize hby hzs hsz (some ⟨g, 0, none⟩) n cap xs hs (fun hb => by cases hb) hown.1 (fun b hb j u hu => ?_) ad m c news hx hl hnews h1 (by omega) h63 hbytes fin
      cases hb
      have hj : j < xs.length := (List.getElem?_eq_some_iff.1 hu).1
      refine World.news_of_block hh j u ?_
      rw [← k4, List.getElem?_take] at hu
      split at hu
      · exact hu
      · cases hu

/-- The k-th mark. -/
def mark (k : Int) : At := ⟨-1 - k, ⟨#[109, 97, 114, 107]⟩, 0, 0, ⟨#[]⟩, 0⟩

set_option maxHeartbeats 400000 in
theorem atomOf_any (k : Int) (w : World) (h0 : 0 ≤ k) (h1 : k ≤ 1000000) : Calls Tryd.prog 57 #[.int .i64 k] w fun e w' => e = .returned (.agg #[.int .i64 (mark k).ty, .string (mark k).key, .int .i64 (mark k).side, .int .i64 (mark k).who, .string (mark k).elem, .int .i64 (mark k).n]) ∧ Below w.heap.size w w' := by
  go_enter Tryd.func57, Tryd.ntmps57
  go_wp2
  refine bodyPost_ret (v := (mark k).val) (by simp [results, Tryd.results57, go_sem, At.val, mark]) rfl ⟨rfl, ?_⟩
  go_light
  repeat (first | exact Below.refl _ _ | refine below_alloc ?_ _)

theorem SliceOf.grown {w w' : World} {row : Option Nat} {v : Value} {l : List At} (h : SliceOf w v l) (hg : w.grownBy w' row) (hne : ∀ q, v.ownBlock = some q → some q ≠ row) : SliceOf w' v l := by
  obtain ⟨ad, cap, rfl, hcap, H⟩ := h
  refine ⟨ad, cap, rfl, hcap, fun h0 => ?_⟩
  obtain ⟨b, off, rfl, hlt, hrow⟩ := H h0
  refine ⟨b, off, rfl, Nat.lt_of_lt_of_le hlt hg.size, fun k hk => ?_⟩
  have hb : some b ≠ row := hne b rfl
  obtain ⟨c0, c1, c2, c3, c4, c5⟩ := hrow k hk
  exact ⟨hg.cell c0 hb, hg.cell c1 hb, hg.cell c2 hb, hg.cell c3 hb, hg.cell c4 hb, hg.cell c5 hb⟩

/-- The cells of the entries. -/
def flatE (es : List (Value × Int)) : List Value := es.flatMap fun p => [p.1, .int .i64 p.2]

structure BookInv (w : World) (B : Nat) (va : Value) (es : List (Value × Int)) : Prop where
  c0 : w.cell? ⟨B, 0, none⟩ = some va
  c1 : w.cell? ⟨B, 1, none⟩ = some (.slice none 0 0)
  c2 : w.cell? ⟨B, 2, none⟩ = some (.slice none 0 0)
  c3 : w.cell? ⟨B, 3, none⟩ = some (.slice none 0 0)
  fz : ∀ o, w.frozen? ⟨B, o, none⟩ = false
  row : w.ownsRow (B + 1) 96 2 va es.length (flatE es)
  good : ∀ p ∈ es, ∃ n, n ≤ 16777216 ∧ SliceOf w p.1 (List.replicate n (mark p.2))
  bnd : ∀ p ∈ es, 0 ≤ p.2 ∧ p.2 ≤ 1000000
  sep : ∀ p ∈ es, ∀ q, p.1.ownBlock = some q → q < w.heap.size ∧ q ≠ B ∧ some q ≠ va.ownBlock

theorem owns_grown' {w w' : World} {base : Nat} {row : Option Nat} {e : TypeId} {s n : Nat} {v : Value} {xs : List Value} (h : w.ownsRow base e s v n xs) (hg : w.grownBy w' row) (hr : ∀ q, v.ownBlock = some q → some q ≠ row) : w'.ownsRow base e s v n xs := by
  obtain ⟨h0, h⟩ := h
  refine ⟨h0, ?_⟩
  rcases h with h | ⟨g, cap, cur, rfl, hgb, hh, k⟩
  · exact .inl h
  · exact .inr ⟨g, cap, cur, rfl, hgb, by rw [hg.block g (Array.getElem?_eq_some_iff.1 hh).1 (hr g rfl)]; exact hh, k⟩

theorem BookInv.lt {w : World} {B : Nat} {va : Value} {es : List (Value × Int)} (h : BookInv w B va es) : B < w.heap.size := by
  obtain ⟨c, e, fr, hb, _⟩ := Go.Sort.cells_of_cell? h.c0
  exact (Array.getElem?_eq_some_iff.1 hb).1

theorem BookInv.kept {w w' : World} {B : Nat} {va : Value} {es : List (Value × Int)} {row : Option Nat} (h : BookInv w B va es) (hg : w.grownBy w' row) (hB : some B ≠ row) (hva : ∀ q, va.ownBlock = some q → some q ≠ row) (hes : ∀ p ∈ es, ∀ q, p.1.ownBlock = some q → some q ≠ row) : BookInv w' B va es where
  c0 := hg.cell h.c0 hB
  c1 := hg.cell h.c1 hB
  c2 := hg.cell h.c2 hB
  c3 := hg.cell h.c3 hB
  fz o := by rw [← h.fz o]; exact World.frozen?_of_block (w := w) (hg.block B h.lt hB)
  row := owns_grown' h.row hg hva
  good p hp := by obtain ⟨n, hnb, hn⟩ := h.good p hp; exact ⟨n, hnb, hn.grown hg (hes p hp)⟩
  bnd := h.bnd
  sep p hp q hq := ⟨Nat.lt_of_lt_of_le (h.sep p hp q hq).1 hg.size, (h.sep p hp q hq).2⟩

theorem BookInv.below {w w' : World} {B : Nat} {va : Value} {es : List (Value × Int)} (h : BookInv w B va es) (hb : Below w.heap.size w w') : BookInv w' B va es :=
  h.kept (below_grown hb none) (by simp) (by simp) (by simp)

end Go.Proofs.YtahdlejgjcjeoaaDoor
