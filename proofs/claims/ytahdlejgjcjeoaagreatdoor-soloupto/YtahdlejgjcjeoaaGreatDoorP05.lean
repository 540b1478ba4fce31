/- The laws' whole book: four lists of entries, what keeps them. -/
import Derived.Test.YtahdlejgjcjeoaaGreatDoorP04
import Derived.Test.YtahdlejgjcjeoaaGreatDoorProg
import Derived.Conc.MuLone
import Derived.KernelRfl
import Derived.Test.YtahdlejgjcjeoaaGreatDoorP01
import Derived.Deep.Light
import Derived.Laws.CopyOwn
import Derived.Deep.RegionHeld3
import Derived.Shelf.SlSortFuncK.RowK2
import Derived.Test.YtahdlejgjcjeoaaGreatDoorP03
import Derived.ArgAppend
import Derived.Deep.DeepAppendRoom
namespace Go.Proofs.YtahdlejgjcjeoaaGreatDoor

def edgeOk (n : Nat) (f : Nat → Nat → Bool) (a b : Int) : Bool := decide (0 ≤ a ∧ 0 ≤ b ∧ a < n ∧ b < n ∧ a ≠ b) && !f a.toNat b.toNat
def addE (f : Nat → Nat → Bool) (a b : Nat) : Nat → Nat → Bool := fun i j => f i j || (decide (i = a) && decide (j = b)) || (decide (i = b) && decide (j = a))
def linkAll (n : Nat) : (Nat → Nat → Bool) → List (Int × Int) → Option (Nat → Nat → Bool)
  | f, [] => some f
  | f, p :: l => if edgeOk n f p.1 p.2 then linkAll n (addE f p.1.toNat p.2.toNat) l else none
def noE : Nat → Nat → Bool := fun _ _ => false
theorem linkAll_step {n : Nat} {f : Nat → Nat → Bool} {l : List (Int × Int)} {k : Nat} (hk : k < l.length) : linkAll n f (l.drop k) = if edgeOk n f l[k].1 l[k].2 then linkAll n (addE f l[k].1.toNat l[k].2.toNat) (l.drop (k + 1)) else none := by
  rw [List.drop_eq_getElem_cons hk, linkAll]
theorem linkAll_end {n : Nat} {f : Nat → Nat → Bool} {l : List (Int × Int)} {k : Nat} (hk : l.length ≤ k) : linkAll n f (l.drop k) = some f := by
  rw [List.drop_of_length_le hk, linkAll]
def SymE (f : Nat → Nat → Bool) : Prop := ∀ i j, f i j = f j i
theorem symE_none : SymE noE := fun _ _ => rfl
theorem symE_add {f : Nat → Nat → Bool} (h : SymE f) (a b : Nat) : SymE (addE f a b) := by
  intro i j
  unfold addE
  rw [h i j, Bool.or_assoc, Bool.or_assoc, Bool.or_comm (decide (i = a) && _), Bool.and_comm (decide (i = b)), Bool.and_comm (decide (i = a))]

/-- What New asks of settings. -/
def newOk (reps room : Int) (es : List (Int × Int)) : Bool := decide (1 ≤ reps ∧ reps ≤ 6 ∧ 1 ≤ room ∧ room ≤ 8) && (linkAll reps.toNat noE es).isSome
/-- A replica that is new. -/
def rep0 (n : Nat) : Rep := ⟨false, [], 0, 0, [], List.replicate n 0, [], [], 0, 0⟩
def clu0 (room : Nat) (bp rr : Bool) (n : Nat) (f : Nat → Nat → Bool) : Clu := ⟨room, bp, rr, f, List.replicate n (rep0 n), []⟩
theorem clu0_ok {room n : Nat} (bp rr : Bool) (f : Nat → Nat → Bool) (h1 : 1 ≤ n) (h6 : n ≤ 6) (r1 : 1 ≤ room) (r8 : room ≤ 8) : (clu0 room bp rr n f).ok [] 0 where
  n1 := by simpa [clu0] using h1
  n6 := by simpa [clu0] using h6
  room1 := r1
  room8 := r8
  may a ha := by cases ha
  reps p hp := by
    have hp := List.eq_of_mem_replicate hp
    subst hp
    have hl : (clu0 room bp rr n f).reps.length = n := by simp [clu0]
    rw [hl]
    refine ⟨fun a ha => (by cases ha), by simp [rep0], Nat.le_refl _, Nat.le_refl _, fun e he => (by cases he), List.Pairwise.nil, by simp [rep0], by simp [rep0], fun k hk => ?_, fun _ => rfl, fun r hr => (by cases hr), by simp [rep0], Nat.le_refl _, by simp [rep0], .inl rfl, fun h => (by cases h)⟩
    exact Nat.le_of_eq (List.eq_of_mem_replicate hk)
  net f hf := by cases hf
  netT f hf := by cases hf
  netL := by simp [clu0]
end Go.Proofs.YtahdlejgjcjeoaaGreatDoor

namespace Go.Proofs.YtahdlejgjcjeoaaGreatDoor
abbrev mu : Go.Conc.Locks.MuLink := { lock := 50, unlock := 51, ilock := 99, iunlock := 100, lockSlow := 149, unlockSlow := 152, disable := 145, enable := 147, acquire := 148, relMerge := 150, cas32 := 146, add32 := 151, tMutex := 110, tIMutex := 108, tPMutex := 166, tPIMutex := 209, tPI32 := 211, tUP := 213, tNoCopy := 105, tU32 := 106 }
theorem muLib : Go.Conc.Locks.MuLib Tryz.prog mu :=
  ⟨Tryz.func50, Tryz.func51, Tryz.func99, Tryz.func100, Tryz.func145, Tryz.func147, Tryz.func148, Tryz.func150, Tryz.func146, Tryz.func151,
   Tryz.underlying108, Tryz.runUnderlying108, Tryz.sizeOf108, Tryz.isAgg108, Tryz.zeroValue108, Tryz.underlying110, Tryz.runUnderlying110, Tryz.sizeOf110, Tryz.isAgg110, Tryz.zeroValue110, Tryz.underlying166, Tryz.runUnderlying166, Tryz.sizeOf166, Tryz.isAgg166, Tryz.zeroValue166, Tryz.underlying209, Tryz.runUnderlying209, Tryz.sizeOf209, Tryz.isAgg209, Tryz.zeroValue209, Tryz.underlying211, Tryz.runUnderlying211, Tryz.sizeOf211, Tryz.isAgg211, Tryz.zeroValue211, Tryz.underlying213, Tryz.runUnderlying213, Tryz.sizeOf213, Tryz.isAgg213, Tryz.zeroValue213, Tryz.underlying105, Tryz.runUnderlying105, Tryz.sizeOf105, Tryz.isAgg105, Tryz.zeroValue105, Tryz.underlying21, Tryz.runUnderlying21, Tryz.sizeOf21, Tryz.isAgg21, Tryz.zeroValue21, (by kernel_rfl)⟩
end Go.Proofs.YtahdlejgjcjeoaaGreatDoor

namespace Go.Proofs.YtahdlejgjcjeoaaGreatDoor
open Go.RowKit

set_option maxRecDepth 100000 in
set_option maxHeartbeats 1000000 in
theorem sameAtoms_any (v1 v2 : Value) (l : List At) (w : World) (h1 : SliceOf w v1 l) (h2 : SliceOf w v2 l) (hlen : l.length ≤ 281474976710656) :
    Calls Tryz.prog 91 #[v1, v2] w fun e w' => e = .returned (.bool true) ∧ Below w.heap.size w w' := by
  obtain ⟨ad1, cap1, rfl, hc1, H1⟩ := h1
  obtain ⟨ad2, cap2, rfl, hc2, H2⟩ := h2
  have HR1 : Hid (0 < l.length → ∃ b off, ad1 = some ⟨b, off, none⟩ ∧ b < w.heap.size ∧ RowAt w b off l) := H1
  have HR2 : Hid (0 < l.length → ∃ b off, ad2 = some ⟨b, off, none⟩ ∧ b < w.heap.size ∧ RowAt w b off l) := H2
  clear H1 H2
  go_enter Tryz.func91, Tryz.ntmps91
  go_wp2
  go_loopw [5] (fun j wr => ∃ k : Nat, k ≤ l.length ∧ j = .int .i64 k ∧ Below w.heap.size w wr) (fun j _ => l.length - (intOf j).toNat)
  case atStart => exact ⟨0, Nat.zero_le _, rfl, Below.refl _ _⟩
  case round =>
    obtain ⟨k, hk, rfl, hbw⟩ := hrel
    by_cases hl : k < l.length
    · obtain ⟨b1, off1, rfl, hb1, hrow1⟩ := HR1.out (by omega)
      obtain ⟨b2, off2, rfl, hb2, hrow2⟩ := HR2.out (by omega)
      obtain ⟨c0, c1, c2, c3, c4, c5⟩ := (hrow1.below hbw hb1) k hl
      obtain ⟨d0, d1, d2, d3, d4, d5⟩ := (hrow2.below hbw hb2) k hl
      clear hrow1 hrow2 HR1 HR2
      generalize l[k] = x at *
      have q1 : (0 : Int) ≤ (k : Int) := by omega
      have q2 : (k : Int) < (l.length : Int) := by omega
      go_wp2
      go_quiet (fail)
      go_wp2
      exact ⟨⟨k + 1, by omega, by go_num, below_drewN hbw _⟩, by simp [intOf]; omega⟩
    · go_wp2
      go_ret
      exact ⟨rfl, hbw⟩

end Go.Proofs.YtahdlejgjcjeoaaGreatDoor

namespace Go.Proofs.YtahdlejgjcjeoaaGreatDoor
open Go.RowKit Go.Sort

theorem heap_setCell_at {w : World} {g o : Nat} {cur : Array Value} {t : TypeId} {fz : Nat × Nat} (hb : w.heap[g]? = some (.cells cur t fz)) (v : Value) : (w.setCell ⟨g, o, none⟩ v).heap[g]? = some (.cells (cur.setIfInBounds o v) t fz) := by
  rw [setCell_eq]
  simp [mapBlock, Array.getElem?_modify, hb, onCells]
theorem heap_setCells_at {g : Nat} {t : TypeId} {fz : Nat × Nat} : ∀ (vs : List Value) (o : Nat) (w : World) (cur : Array Value), w.heap[g]? = some (.cells cur t fz) → (w.setCells g o vs).heap[g]? = some (.cells (setMany cur o vs) t fz)
  | [], _, _, _, hb => hb
  | v :: r, o, w, cur, hb => by
    show ((w.setCell ⟨g, o, none⟩ v).setCells g (o + 1) r).heap[g]? = _
    rw [heap_setCells_at r (o + 1) _ _ (heap_setCell_at hb v)]
    rfl
theorem grown_setCells {g : Nat} : ∀ (vs : List Value) (o : Nat) (w : World), w.grownBy (w.setCells g o vs) (some g)
  | [], _, w => ⟨rfl, rfl, rfl, Nat.le_refl _, fun _ _ _ => rfl⟩
  | v :: r, o, w => by
    have h := grown_setCells (g := g) r (o + 1) (w.setCell ⟨g, o, none⟩ v)
    refine ⟨h.os, h.tape, h.output, Nat.le_trans (by simp [World.setCell]) h.size, fun k hk hne => ?_⟩
    have hk' : k < (w.setCell ⟨g, o, none⟩ v).heap.size := by simpa [World.setCell] using hk
    have := h.block k hk' hne
    have e : (w.setCell ⟨g, o, none⟩ v).heap[k]? = w.heap[k]? := Below.heap_setCell _ _ _ _ (fun e => hne (by rw [e]))
    exact this.trans e

theorem setMany_get? (cur E : Array Value) (vs : List Value) (o t : Nat) (hE : setMany cur o vs = E) (ht : t < cur.size) : E[t]? = if o ≤ t ∧ t < o + vs.length then vs[t - o]? else cur[t]? := by
  have e1 := get_setMany vs o cur t ht
  have hs : t < E.size := by rw [← hE, size_setMany]; exact ht
  rw [hE, getElem!_pos E t hs] at e1
  rw [Array.getElem?_eq_getElem hs, e1]
  split
  · rename_i hc
    have hl : t - o < vs.length := by omega
    rw [getElem!_pos vs (t - o) hl, List.getElem?_eq_getElem hl]
  · rw [getElem!_pos cur t ht, Array.getElem?_eq_getElem ht]

theorem take_setMany (cur E : Array Value) (L : List At) (i : Nat) (x : At) (_hi : i < L.length) (hsz : L.length * 6 ≤ cur.size) (h : cur.toList.take (L.length * 6) = flat L) (hE : setMany cur (i * 6) (enc x) = E) : E.toList.take (L.length * 6) = flat (L.set i x) := by
  have hget := fun t ht => setMany_get? cur E (enc x) (i * 6) t hE ht
  have hlx : (enc x).length = 6 := rfl
  rw [hlx] at hget
  clear hE
  have hfl := flat_length (L.set i x)
  have hll : (L.set i x).length = L.length := by simp
  apply List.ext_getElem?
  intro t
  by_cases ht : t < L.length * 6
  · rw [List.getElem?_take_of_lt ht, Array.getElem?_toList, hget t (by omega)]
    have hk : t / 6 < (L.set i x).length := by omega
    have hg := flat_get (L.set i x) (t / 6) (t % 6) hk (Nat.mod_lt _ (by decide))
    rw [show t / 6 * 6 + t % 6 = t by omega] at hg
    rw [hg]
    by_cases hc : i * 6 ≤ t ∧ t < i * 6 + 6
    · rw [if_pos hc]
      have hti : t / 6 = i := by omega
      have htm : t - i * 6 = t % 6 := by omega
      have hxx : (L.set i x)[t / 6] = x := by simp [hti]
      rw [htm, hxx]
    · rw [if_neg hc]
      have hti : i ≠ t / 6 := by omega
      have hk2 : t / 6 < L.length := by omega
      have hg2 := flat_get L (t / 6) (t % 6) hk2 (Nat.mod_lt _ (by decide))
      rw [show t / 6 * 6 + t % 6 = t by omega, ← h, List.getElem?_take_of_lt ht, Array.getElem?_toList] at hg2
      have hxx : (L.set i x)[t / 6] = L[t / 6] := by simp [hti]
      rw [hg2, hxx]
  · rw [List.getElem?_take_eq_none (by omega), List.getElem?_eq_none (by omega)]

theorem owns_store {w : World} {base g cap n : Nat} {e : TypeId} {L : List At} (h : w.ownsRow base e 6 (.slice (some ⟨g, 0, none⟩) n cap) n (flat L)) (hn : n = L.length) (i : Nat) (hi : i < L.length) (x : At) :
    (w.setCells g (i * 6) (enc x)).ownsRow base e 6 (.slice (some ⟨g, 0, none⟩) n cap) n (flat (L.set i x)) := by
  subst hn
  rcases h.2 with ⟨h0, _⟩ | ⟨g', cap', cur, hv, hg, hh, h1, h2, h3, h4⟩
  · cases h0
  cases hv
  refine ⟨by rw [flat_length]; simp, .inr ⟨g, cap, _, rfl, hg, heap_setCells_at _ _ _ _ hh, h1, h2, by simp [h3], ?_⟩⟩
  exact take_setMany cur _ L i x hi (by rw [h3]; exact Nat.mul_le_mul_right _ h1) h4 rfl

/-- What a store wants to know of the six cells. -/
theorem owns_cells {w : World} {base g cap n : Nat} {e : TypeId} {L : List At} (h : w.ownsRow base e 6 (.slice (some ⟨g, 0, none⟩) n cap) n (flat L)) (hn : n = L.length) (i : Nat) (hi : i < L.length) :
    cellsAt w g (i * 6) (nth L i) ∧ ∀ o, w.frozen? ⟨g, o, none⟩ = false := by
  subst hn
  rcases h.2 with ⟨h0, _⟩ | ⟨g', cap', cur, hv, hg, hh, h1, h2, h3, h4⟩
  · cases h0
  cases hv
  have := rowAt_of_block hh h4 i hi
  rw [Nat.zero_add] at this
  exact ⟨by rw [nth_eq L i hi]; exact this, fun o => by simp [World.frozen?, hh]⟩
end Go.Proofs.YtahdlejgjcjeoaaGreatDoor

namespace Go.Proofs.YtahdlejgjcjeoaaGreatDoor
open Go.RowKit

theorem rowAt_cells {w : World} {b off : Nat} {l : List At} (h : RowAt w b off l) : ∀ j u, (flat l)[j]? = some u → w.cell? ((⟨b, off, none⟩ : Addr).add j) = some u := by
  intro j u hu
  have hadd : (⟨b, off, none⟩ : Addr).add j = ⟨b, off + j, none⟩ := by unfold Addr.add; split <;> simp_all
  have hj : j < (flat l).length := (List.getElem?_eq_some_iff.1 hu).1
  rw [flat_length] at hj
  have hk : j / 6 < l.length := by omega
  have hg := flat_get l (j / 6) (j % 6) hk (Nat.mod_lt _ (by decide))
  rw [show j / 6 * 6 + j % 6 = j by omega, hu] at hg
  obtain ⟨c0, c1, c2, c3, c4, c5⟩ := h (j / 6) hk
  rw [hadd]
  have hcase : j % 6 = 0 ∨ j % 6 = 1 ∨ j % 6 = 2 ∨ j % 6 = 3 ∨ j % 6 = 4 ∨ j % 6 = 5 := by omega
  rcases hcase with e | e | e | e | e | e
  · rw [show off + j = off + j / 6 * 6 by omega, c0, hg, e]; rfl
  · rw [show off + j = off + j / 6 * 6 + 1 by omega, c1, hg, e]; rfl
  · rw [show off + j = off + j / 6 * 6 + 2 by omega, c2, hg, e]; rfl
  · rw [show off + j = off + j / 6 * 6 + 3 by omega, c3, hg, e]; rfl
  · rw [show off + j = off + j / 6 * 6 + 4 by omega, c4, hg, e]; rfl
  · rw [show off + j = off + j / 6 * 6 + 5 by omega, c5, hg, e]; rfl

theorem flat_oneCell (l : List At) : ∀ u ∈ flat l, u.oneCell' = true := by
  intro u hu
  obtain ⟨a, _, h⟩ := List.mem_flatMap.1 hu
  exact enc_oneCell a u h
end Go.Proofs.YtahdlejgjcjeoaaGreatDoor

namespace Go.Proofs.YtahdlejgjcjeoaaGreatDoor
open Go.RowKit

theorem wpList_append_two {P : Program} (w : World) {ops : Array Oper} {rest : List Oper} {o : Oper} {a : Act} {Q : Exit → Act → World → Prop} (hgd : o.guard = none) (s x : Operand) (t : TypeId)
    (ho : o.op = .call { callee := .builtin .append, args := #[s, x], argTypes := #[t, t] })
    (base : Nat) (e : TypeId) (i : TypeInfo) (z : Value) (size bytes : Nat) (ht : P.underlying t = some (.slice e)) (hi : P.info? e = some i) (hz : i.zero = some z)
    (hsize : i.size = size) (hby : i.bytes = bytes) (hzs : z.cells.size = size) (hsz : 0 < size)
    (v : Value) (n : Nat) (xs : List Value) (hs : a.eval s = v) (hown : w.ownsRow base e size v n xs)
    (ad : Addr) (m c : Nat) (news : List Value) (hx : a.eval x = .slice (some ad) m c) (hl : news.length = m * size) (hnews : ∀ j u, news[j]? = some u → w.cell? (ad.add j) = some u) (h1 : ∀ u ∈ news, u.oneCell' = true)
    (hm : 0 < m) (h63 : n + m ≤ maxLen) (hbytes : (n + m) * bytes ≤ 140737488355328) (hbase : base ≤ w.heap.size)
    (h : ∀ g cap w', w'.ownsRow base e size (.slice (some ⟨g, 0, none⟩) (n + m) cap) (n + m) (xs ++ news) → ((w.grownBy w' none ∧ w.heap.size ≤ g) ∨ (v.ownBlock = some g ∧ w.grownBy w' (some g))) → wpList P ops Q rest (a.put o.dst (.slice (some ⟨g, 0, none⟩) (n + m) cap)) w') : wpList P ops Q (o :: rest) a w := by
  have fin : ∀ v' w', w'.ownsRow w.heap.size e size v' (n + m) (xs ++ news) → w.grownBy w' none → wpList P ops Q rest (a.put o.dst v') w' := by
    intro v' w' r1 r2
    rcases r1.2 with ⟨_, h0⟩ | ⟨g, cap, cur, rfl, hg, _⟩
    · omega
    · exact h g cap w' (owns_mono r1 hbase) (.inl ⟨r2, hg⟩)
  rcases hown.2 with ⟨rfl, hn0⟩ | ⟨g, cap, cur, rfl, hg, hh, k1, k2, k3, k4⟩
  · refine wpList_append_grows w hgd s x t ho e i z size bytes ht hi hz hsize hby hzs hsz none n 0 xs (by rw [hs, hn0]) (fun _ => ⟨hn0, rfl⟩) hown.1 (fun b hb => by cases hb) ad m c news hx hl hnews h1 (by omega) h63 hbytes fin
  · by_cases hr : n + m ≤ cap
    · exact wpList_append_own_spare w hgd s x t ho base e i size ht hi hsize g n cap xs hs hown ad m c news hx hl hnews h1 hr (fun w' r1 r2 => h g cap w' r1 (.inr ⟨rfl, r2⟩))
    · refine wpList_append_grows w hgd s x t ho e i z size bytes ht hi hz hsize hby hzs hsz (some ⟨g, 0, none⟩) n cap xs hs (fun hb => by cases hb) hown.1 (fun b hb j u hu => ?_) ad m c news hx hl hnews h1 (by omega) h63 hbytes fin
      cases hb
      have hj : j < xs.length := (List.getElem?_eq_some_iff.1 hu).1
      refine World.news_of_block hh j u ?_
      rw [← k4, List.getElem?_take] at hu
      split at hu
      · exact hu
      · cases hu

/-- The k-th mark. -/
def mark (k : Int) : At := ⟨-1 - k, ⟨#[109, 97, 114, 107]⟩, 0, 0, ⟨#[]⟩, 0⟩

set_option maxHeartbeats 400000 in
theorem atomOf_any (k : Int) (w : World) (h0 : 0 ≤ k) (h1 : k ≤ 16777216) : Calls Tryz.prog 38 #[.int .i64 k] w fun e w' => e = .returned (.agg #[.int .i64 (mark k).ty, .string (mark k).key, .int .i64 (mark k).side, .int .i64 (mark k).who, .string (mark k).elem, .int .i64 (mark k).n]) ∧ Below w.heap.size w w' := by
  go_enter Tryz.func38, Tryz.ntmps38
  go_wp2
  refine bodyPost_ret (v := (mark k).val) (by simp [results, Tryz.results38, go_sem, At.val, mark]) rfl ⟨rfl, ?_⟩
  go_light
  repeat (first | exact Below.refl _ _ | refine below_alloc ?_ _)

/-- The cells of the entries. -/
def flatE (es : List (Value × Int)) : List Value := es.flatMap fun p => [p.1, .int .i64 p.2]

theorem owns_grown' {w w' : World} {base : Nat} {row : Option Nat} {e : TypeId} {s n : Nat} {v : Value} {xs : List Value} (h : w.ownsRow base e s v n xs) (hg : w.grownBy w' row) (hr : ∀ q, v.ownBlock = some q → some q ≠ row) : w'.ownsRow base e s v n xs := by
  obtain ⟨h0, h⟩ := h
  refine ⟨h0, ?_⟩
  rcases h with h | ⟨g, cap, cur, rfl, hgb, hh, k⟩
  · exact .inl h
  · exact .inr ⟨g, cap, cur, rfl, hgb, by rw [hg.block g (Array.getElem?_eq_some_iff.1 hh).1 (hr g rfl)]; exact hh, k⟩

end Go.Proofs.YtahdlejgjcjeoaaGreatDoor

namespace Go.Proofs.YtahdlejgjcjeoaaGreatDoor
open Go.RowKit

/-- Outside X nothing that was there has turned. -/
structure Fr (X : Nat → Prop) (w w' : World) : Prop where
  os : w'.os = w.os
  tape : w'.tape = w.tape
  output : w'.output = w.output
  size : w.heap.size ≤ w'.heap.size
  block : ∀ k, k < w.heap.size → ¬ X k → w'.heap[k]? = w.heap[k]?
theorem Fr.refl (X : Nat → Prop) (w : World) : Fr X w w := ⟨rfl, rfl, rfl, Nat.le_refl _, fun _ _ _ => rfl⟩
theorem Fr.step {X : Nat → Prop} {w w1 w2 : World} {row : Option Nat} (h : Fr X w w1) (hg : w1.grownBy w2 row) (hr : ∀ q, row = some q → w.heap.size ≤ q ∨ X q) : Fr X w w2 :=
  ⟨hg.os.trans h.os, hg.tape.trans h.tape, hg.output.trans h.output, Nat.le_trans h.size hg.size, fun k hk hx => by
    refine (hg.block k (Nat.lt_of_lt_of_le hk h.size) (fun e => ?_)).trans (h.block k hk hx)
    rcases hr k e.symm with h1 | h1
    · omega
    · exact hx h1⟩
theorem Fr.below {X : Nat → Prop} {w w1 w2 : World} (h : Fr X w w1) (hb : Below w1.heap.size w1 w2) : Fr X w w2 := h.step (below_grown hb none) (fun q hq => by cases hq)
theorem grown_setCell (w : World) (a : Addr) (u : Value) : w.grownBy (w.setCell a u) (some a.block) :=
  ⟨rfl, rfl, rfl, by simp [World.setCell], fun k _ hne => Below.heap_setCell _ _ _ _ (fun e => hne (by rw [e]))⟩
theorem Fr.trans {X Y : Nat → Prop} {w w1 w2 : World} (h : Fr X w w1) (k : Fr Y w1 w2) (hY : ∀ q, q < w.heap.size → Y q → X q) : Fr X w w2 :=
  ⟨k.os.trans h.os, k.tape.trans h.tape, k.output.trans h.output, Nat.le_trans h.size k.size, fun q hq hx => (k.block q (Nat.lt_of_lt_of_le hq h.size) (fun hy => hx (hY q hq hy))).trans (h.block q hq hx)⟩
theorem flatE_snoc (es : List (Value × Int)) (s : Value) (k : Int) : flatE (es ++ [(s, k)]) = flatE es ++ [s, .int .i64 k] := by simp [flatE]

end Go.Proofs.YtahdlejgjcjeoaaGreatDoor

namespace Go.Proofs.YtahdlejgjcjeoaaGreatDoor
open Go.RowKit

theorem own_g {g n cap q : Nat} (h : (Value.slice (some ⟨g, 0, none⟩) n cap).ownBlock = some q) : g = q := by simpa [Value.ownBlock] using h
end Go.Proofs.YtahdlejgjcjeoaaGreatDoor

namespace Go.Proofs.YtahdlejgjcjeoaaGreatDoor
open Go.RowKit

theorem own_lt {w : World} {base : Nat} {e : TypeId} {s n : Nat} {v : Value} {xs : List Value} (h : w.ownsRow base e s v n xs) : ∀ q, v.ownBlock = some q → q < w.heap.size := by
  intro q hq
  rcases h.2 with ⟨rfl, _⟩ | ⟨g, cap, cur, rfl, _, hh, _⟩
  · simp [Value.ownBlock] at hq
  · obtain rfl := own_g hq
    exact (Array.getElem?_eq_some_iff.1 hh).1
theorem owns_fr {X : Nat → Prop} {w w' : World} {base : Nat} {e : TypeId} {s n : Nat} {v : Value} {xs : List Value} (h : w.ownsRow base e s v n xs) (hf : Fr X w w') (hx : ∀ q, v.ownBlock = some q → ¬ X q) : w'.ownsRow base e s v n xs := by
  obtain ⟨h0, h⟩ := h
  refine ⟨h0, ?_⟩
  rcases h with h | ⟨g, cap, cur, rfl, hgb, hh, k⟩
  · exact .inl h
  · exact .inr ⟨g, cap, cur, rfl, hgb, by rw [hf.block g (Array.getElem?_eq_some_iff.1 hh).1 (hx g rfl)]; exact hh, k⟩
theorem own_form {w : World} {base : Nat} {e : TypeId} {s n : Nat} {v : Value} {xs : List Value} (h : w.ownsRow base e s v n xs) : ∃ ad cap, v = .slice ad n cap := by
  rcases h.2 with ⟨rfl, rfl⟩ | ⟨g, cap, cur, rfl, _⟩
  · exact ⟨none, 0, rfl⟩
  · exact ⟨_, cap, rfl⟩
theorem news_pair (w : World) (v : Value) (k : Int) (e : TypeId) : ∀ j u, ([v, .int .i64 k] : List Value)[j]? = some u → (w.alloc (.cells #[v, .int .i64 k] e)).cell? ((⟨w.heap.size, 0, none⟩ : Addr).add j) = some u :=
  fun j u hu => World.news_of_block (heap_alloc_new w _) j u hu
theorem pair_oneCell {v : Value} {ad : Option Addr} {n cap : Nat} (hv : v = .slice ad n cap) (k : Int) : ∀ u ∈ ([v, .int .i64 k] : List Value), u.oneCell' = true := by
  intro u hu
  simp only [List.mem_cons, List.not_mem_nil, or_false] at hu
  rcases hu with rfl | rfl
  · rw [hv]; rfl
  · rfl

end Go.Proofs.YtahdlejgjcjeoaaGreatDoor

namespace Go.Proofs.YtahdlejgjcjeoaaGreatDoor
open Go.RowKit

/-- A slice of n elements of s cells, each of them c. -/
def MarkRow (w : World) (v : Value) (s n : Nat) (c : List Value) : Prop :=
  ∃ ad cap, v = .slice ad n cap ∧ n ≤ cap ∧ (0 < n → ∃ b off, ad = some ⟨b, off, none⟩ ∧ b < w.heap.size ∧ ∀ i, i < n → ∀ j u, c[j]? = some u → w.cell? ⟨b, off + i * s + j, none⟩ = some u)
theorem MarkRow.grown {w w' : World} {v : Value} {s n : Nat} {c : List Value} {row : Option Nat} (h : MarkRow w v s n c) (hg : w.grownBy w' row) (hne : ∀ q, v.ownBlock = some q → some q ≠ row) : MarkRow w' v s n c := by
  obtain ⟨ad, cap, rfl, hcap, H⟩ := h
  refine ⟨ad, cap, rfl, hcap, fun h0 => ?_⟩
  obtain ⟨b, off, rfl, hlt, hrow⟩ := H h0
  have hb : some b ≠ row := hne b rfl
  exact ⟨b, off, rfl, Nat.lt_of_lt_of_le hlt hg.size, fun i hi j u hu => hg.cell (hrow i hi j u hu) hb⟩

/-- The same cells n times. -/
def reps (n : Nat) (c : List Value) : List Value := (List.replicate n c).flatten
theorem reps_succ (n : Nat) (c : List Value) : reps (n + 1) c = reps n c ++ c := by
  unfold reps
  rw [List.replicate_succ', List.flatten_append]
  simp
theorem reps_length (n : Nat) (c : List Value) : (reps n c).length = n * c.length := by
  induction n with
  | zero => simp [reps]
  | succ n ih => rw [reps_succ, List.length_append, ih, Nat.succ_mul]
theorem reps_get {n : Nat} {c : List Value} {i j : Nat} {u : Value} (hi : i < n) (hu : c[j]? = some u) : (reps n c)[i * c.length + j]? = some u := by
  have hj : j < c.length := (List.getElem?_eq_some_iff.1 hu).1
  induction n with
  | zero => omega
  | succ n ih =>
    rw [reps_succ]
    by_cases h : i < n
    · have h1 := ih h
      have h2 : i * c.length + j < (reps n c).length := (List.getElem?_eq_some_iff.1 h1).1
      rw [List.getElem?_append_left h2]
      exact h1
    · obtain rfl : i = n := by omega
      rw [List.getElem?_append_right (by rw [reps_length]; omega), reps_length, Nat.add_sub_cancel_left]
      exact hu
theorem markRow_owns {w : World} {base : Nat} {e : TypeId} {v : Value} {n : Nat} {c : List Value} (h : w.ownsRow base e c.length v n (reps n c)) : MarkRow w v c.length n c := by
  rcases h.2 with ⟨rfl, rfl⟩ | ⟨g, cap, cur, rfl, hg, hb, h1, h2, h3, h4⟩
  · exact ⟨none, 0, rfl, Nat.le_refl _, fun h => by omega⟩
  · refine ⟨_, cap, rfl, h1, fun _ => ⟨g, 0, rfl, (Array.getElem?_eq_some_iff.1 hb).1, fun i hi j u hu => ?_⟩⟩
    have hx := reps_get hi hu
    have hlt := (List.getElem?_eq_some_iff.1 hx).1
    rw [reps_length] at hlt
    rw [← h4, List.getElem?_take, if_pos hlt, Array.getElem?_toList] at hx
    rw [Nat.zero_add]
    simp [World.cell?, hb, hx]

/-- Digits, the lowest first. -/
def digs : Nat → Nat → List UInt8
  | 0, _ => []
  | f + 1, k => if k = 0 then [] else UInt8.ofNat (48 + k % 10) :: digs f (k / 10)
/-- The k-th text. -/
def markT (k : Nat) : ByteArray := bstr ([109, 97, 114, 107, 32] ++ digs 20 k)

/-- The four kinds of lists: what the book keeps of one, what one is made of. -/
def eT : Nat → TypeId
  | 0 => 75
  | 1 => 81
  | 2 => 89
  | _ => 84
def elT : Nat → TypeId
  | 0 => 77
  | 1 => 3
  | 2 => 9
  | _ => 86
def mkC : Nat → Int → List Value
  | 0, k => enc (mark k)
  | 1, k => [.int .i64 (-1 - k)]
  | 2, k => [.string (markT k.toNat)]
  | _, k => [.int .i64 (-1 - k), .int .i64 0, .slice none 0 0]
def szC : Nat → Nat
  | 0 => 6
  | 1 => 1
  | 2 => 1
  | _ => 3
theorem mkC_length : ∀ (f : Nat) (k : Int), (mkC f k).length = szC f
  | 0, _ => rfl
  | 1, _ => rfl
  | 2, _ => rfl
  | _ + 3, _ => rfl

def updF {α : Type} (g : Nat → α) (f : Nat) (x : α) : Nat → α := fun j => if j = f then x else g j
theorem updF_same {α : Type} (g : Nat → α) (f : Nat) (x : α) : updF g f x f = x := if_pos rfl
theorem updF_other {α : Type} (g : Nat → α) {f j : Nat} (x : α) (h : j ≠ f) : updF g f x j = g j := if_neg h
theorem updF_updF {α : Type} (g : Nat → α) (f : Nat) (x y : α) : updF (updF g f x) f y = updF g f y := by
  funext j
  unfold updF
  split <;> rfl
theorem updF_self {α : Type} (g : Nat → α) (f : Nat) : updF g f (g f) = g := by
  funext j
  unfold updF
  split
  · rename_i h; rw [h]
  · rfl

structure Bk (w : World) (B : Nat) (va : Nat → Value) (es : Nat → List (Value × Int)) : Prop where
  c : ∀ f, f < 4 → w.cell? ⟨B, f, none⟩ = some (va f)
  fz : ∀ o, w.frozen? ⟨B, o, none⟩ = false
  row : ∀ f, f < 4 → w.ownsRow (B + 1) (eT f) 2 (va f) (es f).length (flatE (es f))
  good : ∀ f, f < 4 → ∀ p ∈ es f, ∃ n, n ≤ 16777216 ∧ MarkRow w p.1 (szC f) n (mkC f p.2)
  bnd : ∀ f, f < 4 → ∀ p ∈ es f, 0 ≤ p.2 ∧ p.2 ≤ 16777216
  sep : ∀ f, f < 4 → ∀ p ∈ es f, ∀ q, p.1.ownBlock = some q → q < w.heap.size ∧ q ≠ B ∧ ∀ j, j < 4 → some q ≠ (va j).ownBlock
  apart : ∀ f j, f < 4 → j < 4 → f ≠ j → ∀ q, (va f).ownBlock = some q → (va j).ownBlock ≠ some q
  cross : ∀ f j, f < 4 → j < 4 → f ≠ j → ∀ p ∈ es f, ∀ p' ∈ es j, ∀ q, p.1.ownBlock = some q → p'.1.ownBlock ≠ some q

theorem Bk.lt {w : World} {B : Nat} {va : Nat → Value} {es : Nat → List (Value × Int)} (h : Bk w B va es) : B < w.heap.size := by
  obtain ⟨c, e, fr, hb, _⟩ := Go.Sort.cells_of_cell? (h.c 0 (by decide))
  exact (Array.getElem?_eq_some_iff.1 hb).1
theorem Bk.kept {w w' : World} {B : Nat} {va : Nat → Value} {es : Nat → List (Value × Int)} {row : Option Nat} (h : Bk w B va es) (hg : w.grownBy w' row) (hB : some B ≠ row) (hva : ∀ f, f < 4 → ∀ q, (va f).ownBlock = some q → some q ≠ row) (hes : ∀ f, f < 4 → ∀ p ∈ es f, ∀ q, p.1.ownBlock = some q → some q ≠ row) : Bk w' B va es where
  c f hf := hg.cell (h.c f hf) hB
  fz o := by rw [← h.fz o]; exact World.frozen?_of_block (w := w) (hg.block B h.lt hB)
  row f hf := owns_grown' (h.row f hf) hg (hva f hf)
  good f hf p hp := by obtain ⟨n, hnb, hn⟩ := h.good f hf p hp; exact ⟨n, hnb, hn.grown hg (hes f hf p hp)⟩
  bnd := h.bnd
  sep f hf p hp q hq := ⟨Nat.lt_of_lt_of_le (h.sep f hf p hp q hq).1 hg.size, (h.sep f hf p hp q hq).2⟩
  apart := h.apart
  cross := h.cross
theorem Bk.below {w w' : World} {B : Nat} {va : Nat → Value} {es : Nat → List (Value × Int)} (h : Bk w B va es) (hb : Below w.heap.size w w') : Bk w' B va es :=
  h.kept (below_grown hb none) (by simp) (by simp) (by simp)

/-- A list of kind f is written further, in its own block. -/
theorem Bk.inplace {w w' : World} {B g N f : Nat} {va : Nat → Value} {es : Nat → List (Value × Int)} {k : Int} (h : Bk w B va es) (hf : f < 4) (hg : w.grownBy w' (some g)) (hgB : g ≠ B) (hgv : ∀ j, j < 4 → some g ≠ (va j).ownBlock)
    (hrow : ∀ i, i < N → ∀ j u, (mkC f k)[j]? = some u → w'.cell? ⟨g, i * szC f + j, none⟩ = some u) (hlt : g < w'.heap.size) (hN : N ≤ 16777216)
    (hoth : ∀ j, j < 4 → j ≠ f → ∀ p ∈ es j, p.1.ownBlock ≠ some g)
    (hcur : ∀ p ∈ es f, p.1.ownBlock = some g → ∃ m cap, p.1 = .slice (some ⟨g, 0, none⟩) m cap ∧ m ≤ N ∧ m ≤ cap ∧ p.2 = k) : Bk w' B va es where
  c j hj := hg.cell (h.c j hj) (fun e => hgB (by cases e; rfl))
  fz o := by rw [← h.fz o]; exact World.frozen?_of_block (w := w) (hg.block B h.lt (fun e => hgB (by cases e; rfl)))
  row j hj := owns_grown' (h.row j hj) hg (fun q hq e => hgv j hj (by rw [hq, e]))
  good j hj p hp := by
    by_cases e : p.1.ownBlock = some g
    · by_cases hjf : j = f
      · subst hjf
        obtain ⟨m, cap, hp1, hm, hmc, hk⟩ := hcur p hp e
        refine ⟨m, by omega, ?_⟩
        rw [hp1, hk]
        refine ⟨_, cap, rfl, hmc, fun _ => ⟨g, 0, rfl, hlt, fun i hi t u hu => ?_⟩⟩
        rw [Nat.zero_add]
        exact hrow i (by omega) t u hu
      · exact absurd e (hoth j hj hjf p hp)
    · obtain ⟨n, hnb, hn⟩ := h.good j hj p hp
      exact ⟨n, hnb, hn.grown hg (fun q hq e' => e (by rw [hq, e']))⟩
  bnd := h.bnd
  sep j hj p hp q hq := ⟨Nat.lt_of_lt_of_le (h.sep j hj p hp q hq).1 hg.size, (h.sep j hj p hp q hq).2⟩
  apart := h.apart
  cross := h.cross

/-- One entry more of kind f. -/
theorem Bk.push {w w2 : World} {B f : Nat} {va : Nat → Value} {es : Nat → List (Value × Int)} (h : Bk w B va es) (hf : f < 4) (s : Value) (k : Int) {g cap : Nat} (tmp : Obj)
    (hkb : 0 ≤ k ∧ k ≤ 16777216) (hgood : ∃ n, n ≤ 16777216 ∧ MarkRow w s (szC f) n (mkC f k))
    (hsep : ∀ q, s.ownBlock = some q → q < w.heap.size ∧ q ≠ B ∧ ∀ j, j < 4 → some q ≠ (va j).ownBlock)
    (hcross : ∀ j, j < 4 → j ≠ f → ∀ p ∈ es j, ∀ q, s.ownBlock = some q → p.1.ownBlock ≠ some q)
    (hown : w2.ownsRow (B + 1) (eT f) 2 (.slice (some ⟨g, 0, none⟩) ((es f).length + 1) cap) ((es f).length + 1) (flatE (es f) ++ [s, .int .i64 k]))
    (hcase : ((w.alloc tmp).grownBy w2 none ∧ (w.alloc tmp).heap.size ≤ g) ∨ ((va f).ownBlock = some g ∧ (w.alloc tmp).grownBy w2 (some g))) :
    Bk (w2.setCell ⟨B, f, none⟩ (.slice (some ⟨g, 0, none⟩) ((es f).length + 1) cap)) B (updF va f (.slice (some ⟨g, 0, none⟩) ((es f).length + 1) cap)) (updF es f (es f ++ [(s, k)])) := by
  have hgB : B + 1 ≤ g := owns_base hown g rfl
  have hBlt := h.lt
  have hal : w.grownBy (w.alloc tmp) none := World.grownBy_alloc w tmp none
  obtain ⟨row, hg, hrow⟩ : ∃ row, w.grownBy w2 row ∧ ∀ q, row = some q → (va f).ownBlock = some q := by
    rcases hcase with ⟨h1, _⟩ | ⟨h1, h2⟩
    · exact ⟨none, grown_trans hal h1, fun q hq => by cases hq⟩
    · exact ⟨some g, grown_trans (hal.but _) h2, fun q hq => by cases hq; exact h1⟩
  have hfresh : ∀ q, q < w.heap.size → some q ≠ (va f).ownBlock → q ≠ g := by
    intro q hq hne e
    subst e
    rcases hcase with ⟨_, h2⟩ | ⟨h2, _⟩
    · simp at h2; omega
    · exact hne h2.symm
  have hBr : some B ≠ row := fun e => by
    have := owns_base (h.row f hf) B (hrow B e.symm)
    omega
  have hsc := grown_setCell w2 ⟨B, f, none⟩ (.slice (some ⟨g, 0, none⟩) ((es f).length + 1) cap)
  have hcB : ∀ j, j < 4 → w2.cell? ⟨B, j, none⟩ = some (va j) := fun j hj => hg.cell (h.c j hj) hBr
  have hmem : ∀ j, j < 4 → ∀ p ∈ updF es f (es f ++ [(s, k)]) j, p ∈ es j ∨ (j = f ∧ p = (s, k)) := by
    intro j _ p hp
    by_cases e : j = f
    · subst e
      rw [updF_same] at hp
      rcases List.mem_append.1 hp with hp | hp
      · exact .inl hp
      · exact .inr ⟨rfl, List.mem_singleton.1 hp⟩
    · rw [updF_other _ _ e] at hp
      exact .inl hp
  have hsep' : ∀ j, j < 4 → ∀ p ∈ updF es f (es f ++ [(s, k)]) j, ∀ q, p.1.ownBlock = some q → q < w.heap.size ∧ q ≠ B ∧ ∀ t, t < 4 → some q ≠ (va t).ownBlock := by
    intro j hj p hp
    rcases hmem j hj p hp with hp | ⟨rfl, rfl⟩
    · exact h.sep j hj p hp
    · exact hsep
  refine ⟨fun j hj => ?_, fun o => ?_, fun j hj => ?_, fun j hj p hp => ?_, fun j hj p hp => ?_, fun j hj p hp q hq => ?_, fun j t hj ht hne q hq => ?_, fun j t hj ht hne p hp p' hp' q hq => ?_⟩
  · by_cases e : j = f
    · subst e
      rw [updF_same]
      exact World.cell?_setCell_same _ _ _ (hcB j hj)
    · rw [updF_other _ _ e]
      exact (World.cell?_setCell_other _ _ _ _ (fun e' => e (by cases e'; rfl))).trans (hcB j hj)
  · rw [World.frozen?_setCell, ← h.fz o]
    exact World.frozen?_of_block (w := w) (hg.block B hBlt hBr)
  · by_cases e : j = f
    · subst e
      rw [updF_same, updF_same, flatE_snoc, List.length_append]
      exact owns_grown' hown hsc (fun q hq => by cases hq; intro e; cases e; omega)
    · rw [updF_other _ _ e, updF_other _ _ e]
      refine owns_grown' (owns_grown' (h.row j hj) hg (fun q hq e' => h.apart j f hj hf e q hq (hrow q e'.symm))) hsc (fun q hq e' => ?_)
      have := owns_base (h.row j hj) q hq
      have hqB : q = B := by cases e'; rfl
      omega
  · have hs := hsep' j hj p hp
    have hgd : ∃ n, n ≤ 16777216 ∧ MarkRow w p.1 (szC j) n (mkC j p.2) := by
      rcases hmem j hj p hp with hp | ⟨rfl, rfl⟩
      · exact h.good j hj p hp
      · exact hgood
    obtain ⟨n, hnb, hn⟩ := hgd
    exact ⟨n, hnb, (hn.grown hg (fun q hq e => (hs q hq).2.2 f hf (hrow q e.symm).symm)).grown hsc (fun q hq e => (hs q hq).2.1 (by cases e; rfl))⟩
  · rcases hmem j hj p hp with hp | ⟨rfl, rfl⟩
    · exact h.bnd j hj p hp
    · exact hkb
  · have hs := hsep' j hj p hp q hq
    refine ⟨Nat.lt_of_lt_of_le hs.1 (Nat.le_trans hg.size hsc.size), hs.2.1, fun t ht e => ?_⟩
    by_cases et : t = f
    · subst et
      rw [updF_same] at e
      exact hfresh q hs.1 (hs.2.2 t ht) (by cases e; rfl)
    · rw [updF_other _ _ et] at e
      exact hs.2.2 t ht e
  · by_cases ej : j = f
    · subst ej
      rw [updF_same] at hq
      rw [updF_other _ _ (Ne.symm hne)]
      obtain rfl := own_g hq
      intro e
      exact hfresh g (own_lt (h.row t ht) g e) (fun e' => h.apart j t hj ht hne g e'.symm e) rfl
    · rw [updF_other _ _ ej] at hq
      by_cases et : t = f
      · subst et
        rw [updF_same]
        intro e
        obtain rfl := own_g e
        exact hfresh g (own_lt (h.row j hj) g hq) (fun e' => h.apart j t hj ht hne g hq e'.symm) rfl
      · rw [updF_other _ _ et]
        exact h.apart j t hj ht hne q hq
  · rcases hmem j hj p hp with g1 | ⟨g1, g2⟩
    · rcases hmem t ht p' hp' with g3 | ⟨g3, g4⟩
      · exact h.cross j t hj ht hne p g1 p' g3 q hq
      · rw [g4]
        exact fun e => hcross j hj (by rw [← g3]; exact hne) p g1 q e hq
    · rcases hmem t ht p' hp' with g3 | ⟨g3, g4⟩
      · rw [g2] at hq
        exact hcross t ht (by rw [← g1]; exact Ne.symm hne) p' g3 q hq
      · exact absurd (g1.trans g3.symm) hne
end Go.Proofs.YtahdlejgjcjeoaaGreatDoor
