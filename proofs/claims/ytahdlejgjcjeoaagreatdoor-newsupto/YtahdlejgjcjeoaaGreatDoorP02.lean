/- Walks of the document's mays and counts. -/
import Derived.Test.YtahdlejgjcjeoaaGreatDoorP01
import Derived.Shelf.SlSortFuncK.RowK2
import Derived.Test.YtahdlejgjcjeoaaGreatDoorProg
import Derived.Deep.Light
import Derived.Deep.RegionHeld3
namespace Go.Proofs.YtahdlejgjcjeoaaGreatDoor
open Go.RowKit Go.Sort

theorem heap_setCell_at {w : World} {g o : Nat} {cur : Array Value} {t : TypeId} {fz : Nat × Nat} (hb : w.heap[g]? = some (.cells cur t fz)) (v : Value) : (w.setCell ⟨g, o, none⟩ v).heap[g]? = some (.cells (cur.setIfInBounds o v) t fz) := by
  rw [setCell_eq]
  simp [mapBlock, Array.getElem?_modify, hb, onCells]
theorem heap_setCells_at {g : Nat} {t : TypeId} {fz : Nat × Nat} : ∀ (vs : List Value) (o : Nat) (w : World) (cur : Array Value), w.heap[g]? = some (.cells cur t fz) → (w.setCells g o vs).heap[g]? = some (.cells (setMany cur o vs) t fz)
  | [], _, _, _, hb => hb
  | v :: r, o, w, cur, hb => by
    show ((w.setCell ⟨g, o, none⟩ v).setCells g (o + 1) r).heap[g]? = _
    rw [heap_setCells_at r (o + 1) _ _ (heap_setCell_at hb v)]
    rfl
theorem grown_setCells {g : Nat} : ∀ (vs : List Value) (o : Nat) (w : World), w.grownBy (w.setCells g o vs) (some g)
  | [], _, w => ⟨rfl, rfl, rfl, Nat.le_refl _, fun _ _ _ => rfl⟩
  | v :: r, o, w => by
    have h := grown_setCells (g := g) r (o + 1) (w.setCell ⟨g, o, none⟩ v)
    refine ⟨h.os, h.tape, h.output, Nat.le_trans (by simp [World.setCell]) h.size, fun k hk hne => ?_⟩
    have hk' : k < (w.setCell ⟨g, o, none⟩ v).heap.size := by simpa [World.setCell] using hk
    have := h.block k hk' hne
    have e : (w.setCell ⟨g, o, none⟩ v).heap[k]? = w.heap[k]? := Below.heap_setCell _ _ _ _ (fun e => hne (by rw [e]))
    exact this.trans e

theorem setMany_get? (cur E : Array Value) (vs : List Value) (o t : Nat) (hE : setMany cur o vs = E) (ht : t < cur.size) : E[t]? = if o ≤ t ∧ t < o + vs.length then vs[t - o]? else cur[t]? := by
  have e1 := get_setMany vs o cur t ht
  have hs : t < E.size := by rw [← hE, size_setMany]; exact ht
  rw [hE, getElem!_pos E t hs] at e1
  rw [Array.getElem?_eq_getElem hs, e1]
  split
  · rename_i hc
    have hl : t - o < vs.length := by omega
    rw [getElem!_pos vs (t - o) hl, List.getElem?_eq_getElem hl]
  · rw [getElem!_pos cur t ht, Array.getElem?_eq_getElem ht]

theorem take_setMany (cur E : Array Value) (L : List At) (i : Nat) (x : At) (_hi : i < L.length) (hsz : L.length * 6 ≤ cur.size) (h : cur.toList.take (L.length * 6) = flat L) (hE : setMany cur (i * 6) (enc x) = E) : E.toList.take (L.length * 6) = flat (L.set i x) := by
  have hget := fun t ht => setMany_get? cur E (enc x) (i * 6) t hE ht
  have hlx : (enc x).length = 6 := rfl
  rw [hlx] at hget
  clear hE
  have hfl := flat_length (L.set i x)
  have hll : (L.set i x).length = L.length := by simp
  apply List.ext_getElem?
  intro t
  by_cases ht : t < L.length * 6
  · rw [List.getElem?_take_of_lt ht, Array.getElem?_toList, hget t (by omega)]
    have hk : t / 6 < (L.set i x).length := by omega
    have hg := flat_get (L.set i x) (t / 6) (t % 6) hk (Nat.mod_lt _ (by decide))
    rw [show t / 6 * 6 + t % 6 = t by omega] at hg
    rw [hg]
    by_cases hc : i * 6 ≤ t ∧ t < i * 6 + 6
    · rw [if_pos hc]
      have hti : t / 6 = i := by omega
      have htm : t - i * 6 = t % 6 := by omega
      have hxx : (L.set i x)[t / 6] = x := by simp [hti]
      rw [htm, hxx]
    · rw [if_neg hc]
      have hti : i ≠ t / 6 := by omega
      have hk2 : t / 6 < L.length := by omega
      have hg2 := flat_get L (t / 6) (t % 6) hk2 (Nat.mod_lt _ (by decide))
      rw [show t / 6 * 6 + t % 6 = t by omega, ← h, List.getElem?_take_of_lt ht, Array.getElem?_toList] at hg2
      have hxx : (L.set i x)[t / 6] = L[t / 6] := by simp [hti]
      rw [hg2, hxx]
  · rw [List.getElem?_take_eq_none (by omega), List.getElem?_eq_none (by omega)]

theorem owns_store {w : World} {base g cap n : Nat} {e : TypeId} {L : List At} (h : w.ownsRow base e 6 (.slice (some ⟨g, 0, none⟩) n cap) n (flat L)) (hn : n = L.length) (i : Nat) (hi : i < L.length) (x : At) :
    (w.setCells g (i * 6) (enc x)).ownsRow base e 6 (.slice (some ⟨g, 0, none⟩) n cap) n (flat (L.set i x)) := by
  subst hn
  rcases h.2 with ⟨h0, _⟩ | ⟨g', cap', cur, hv, hg, hh, h1, h2, h3, h4⟩
  · cases h0
  cases hv
  refine ⟨by rw [flat_length]; simp, .inr ⟨g, cap, _, rfl, hg, heap_setCells_at _ _ _ _ hh, h1, h2, by simp [h3], ?_⟩⟩
  exact take_setMany cur _ L i x hi (by rw [h3]; exact Nat.mul_le_mul_right _ h1) h4 rfl

/-- What a store wants to know of the six cells. -/
theorem owns_cells {w : World} {base g cap n : Nat} {e : TypeId} {L : List At} (h : w.ownsRow base e 6 (.slice (some ⟨g, 0, none⟩) n cap) n (flat L)) (hn : n = L.length) (i : Nat) (hi : i < L.length) :
    cellsAt w g (i * 6) (nth L i) ∧ ∀ o, w.frozen? ⟨g, o, none⟩ = false := by
  subst hn
  rcases h.2 with ⟨h0, _⟩ | ⟨g', cap', cur, hv, hg, hh, h1, h2, h3, h4⟩
  · cases h0
  cases hv
  have := rowAt_of_block hh h4 i hi
  rw [Nat.zero_add] at this
  exact ⟨by rw [nth_eq L i hi]; exact this, fun o => by simp [World.frozen?, hh]⟩
end Go.Proofs.YtahdlejgjcjeoaaGreatDoor

namespace Go.Proofs.YtahdlejgjcjeoaaGreatDoor
open Go.RowKit

set_option maxHeartbeats 400000 in
theorem sign_any (n : Int) (w : World) :
    Calls Tryz.prog 171 #[.int .i64 n] w fun e w' => e = .returned (.int .i64 (sgn n)) ∧ w' = w := by
  by_cases h1 : n < 0
  · go_enter Tryz.func171, Tryz.ntmps171
    go_wp2
    go_ret
    exact ⟨ret_int (by simp [sgn, h1]), rfl⟩
  · by_cases h2 : 0 < n
    · go_enter Tryz.func171, Tryz.ntmps171
      go_wp2
      go_ret
      exact ⟨ret_int (by simp [sgn, h1, h2]), rfl⟩
    · go_enter Tryz.func171, Tryz.ntmps171
      go_wp2
      go_ret
      exact ⟨ret_int (by unfold sgn; rw [if_neg (by omega), if_neg (by omega)]), rfl⟩

set_option maxHeartbeats 1000000 in
theorem order_any (a b : ByteArray) (w : World) (ha : a.size ≤ 281474976710656) (hb : b.size ≤ 281474976710656) :
    Calls Tryz.prog 172 #[.string a, .string b] w fun e w' => e = .returned (.int .i64 (ordS a b)) ∧ ∃ q, w' = w.drewN q := by
  go_enter Tryz.func172, Tryz.ntmps172
  go_wp2
  go_loopw [5] (fun i wr => ∃ k : Nat, k ≤ a.size ∧ k ≤ b.size ∧ i = .int .i64 k ∧ Hid (a.data.toList.take k = b.data.toList.take k) ∧ Hid (∃ q, wr = w.drewN q)) (fun i _ => a.size - (intOf i).toNat)
  case atStart => exact ⟨0, Nat.zero_le _, Nat.zero_le _, rfl, by simp [Hid], 0, rfl⟩
  case round =>
    obtain ⟨k, hk1, hk2, rfl, ht, hbw⟩ := hrel
    obtain ⟨q0, rfl⟩ := hbw
    by_cases hl : k < a.size
    · by_cases hl2 : k < b.size
      · go_wp2
        go_quiet (fail)
        go_wp2
        · go_ret
          exact ⟨ret_int (ordS_lt a b k hl hl2 ht.out (by omega)).symm, drewN_all (by repeat (first | exact ⟨0, rfl⟩ | apply drewN_more))⟩
        · go_quiet (fail)
          go_wp2
          · go_ret
            exact ⟨ret_int (ordS_gt a b k hl hl2 ht.out (by omega)).symm, drewN_all (by repeat (first | exact ⟨0, rfl⟩ | apply drewN_more))⟩
          · go_roundw
            case rel => exact ⟨k + 1, by omega, by omega, by go_num, take_step a b k hl hl2 ht.out (by omega) (by omega), drewN_all (by repeat (first | exact ⟨0, rfl⟩ | apply drewN_more))⟩
            case measure => simp [intOf]; omega
      · go_wp2_with (go_at_call 171; refine (sign_any _ _).mono ?_; rintro e w' ⟨rfl, rfl⟩)
        go_ret
        exact ⟨ret_int (ordS_end a b k hk1 hk2 ht.out (by omega)).symm, _, rfl⟩
    · go_wp2_with (go_at_call 171; refine (sign_any _ _).mono ?_; rintro e w' ⟨rfl, rfl⟩)
      go_ret
      exact ⟨ret_int (ordS_end a b k hk1 hk2 ht.out (by omega)).symm, _, rfl⟩

set_option maxHeartbeats 1000000 in
theorem places_any (a b : At) (w : World) (ha : fits a) (hb : fits b) :
    Calls Tryz.prog 118 #[a.val, b.val] w fun e w' => e = .returned (.int .i64 (plc a b)) ∧ Below w.heap.size w w' := by
  obtain ⟨t1, k1, s1, w1, e1, n1⟩ := a
  obtain ⟨t2, k2, s2, w2, e2, n2⟩ := b
  unfold fits at ha hb
  simp only at ha hb
  obtain ⟨a1, a2, a3, a4, a5, a6, a7, a8, a9, a10⟩ := ha
  obtain ⟨b1, b2, b3, b4, b5, b6, b7, b8, b9, b10⟩ := hb
  unfold At.val
  simp only
  go_enter Tryz.func118, Tryz.ntmps118
  go_wp2_with (first | (go_at_call 171; refine (sign_any _ _).mono ?_; rintro e w' ⟨rfl, rfl⟩) | (go_at_call 172; refine (order_any _ _ _ (by omega) (by omega)).mono ?_; rintro e wz ⟨rfl, qz, rfl⟩))
  all_goals
    go_ret
    refine ⟨ret_int ?_, by repeat (first | exact Below.refl _ _ | refine below_drewN ?_ _ | refine Below.alloc ?_ (by simp) _)⟩
  all_goals simp_all [plc]

set_option maxHeartbeats 1000000 in
theorem grades_any (a b : At) (w : World) (ha : fits a) (hb : fits b) :
    Calls Tryz.prog 170 #[a.val, b.val] w fun e w' => e = .returned (.int .i64 (grd a b)) ∧ Below w.heap.size w w' := by
  obtain ⟨t1, k1, s1, w1, e1, n1⟩ := a
  obtain ⟨t2, k2, s2, w2, e2, n2⟩ := b
  unfold fits at ha hb
  simp only at ha hb
  obtain ⟨a1, a2, a3, a4, a5, a6, a7, a8, a9, a10⟩ := ha
  obtain ⟨b1, b2, b3, b4, b5, b6, b7, b8, b9, b10⟩ := hb
  unfold At.val
  simp only
  go_enter Tryz.func170, Tryz.ntmps170
  go_wp2_with (first | (go_at_call 171; refine (sign_any _ _).mono ?_; rintro e w' ⟨rfl, rfl⟩) | (go_at_call 172; refine (order_any _ _ _ (by omega) (by omega)).mono ?_; rintro e wz ⟨rfl, qz, rfl⟩))
  all_goals
    go_ret
    refine ⟨ret_int ?_, by repeat (first | exact Below.refl _ _ | refine below_drewN ?_ _ | refine Below.alloc ?_ (by simp) _)⟩
  all_goals simp_all [grd]

end Go.Proofs.YtahdlejgjcjeoaaGreatDoor

namespace Go.Proofs.YtahdlejgjcjeoaaGreatDoor
open Go.RowKit

theorem isEmpty_size (s : ByteArray) : s.toList.isEmpty = true ↔ s.size = 0 := by
  rw [← decide_eq_emptyBytes, decide_eq_true_eq]
  simp
theorem isEmpty_size' (s : ByteArray) : s.toList.isEmpty = false ↔ ¬ s.size = 0 := by
  rw [← isEmpty_size]; simp
set_option maxHeartbeats 4000000 in
theorem May_any (a : At) (w : World) (ha : short a) :
    Calls Tryz.prog 223 #[a.val] w fun e w' => e = .returned (.bool (mayB a)) ∧ Below w.heap.size w w' := by
  obtain ⟨ty, key, side, who, elem, n⟩ := a
  simp only [short] at ha
  obtain ⟨hk, he⟩ := ha
  unfold At.val
  simp only
  go_enter Tryz.func223, Tryz.ntmps223
  go_wp2
  all_goals
    go_ret
    refine ⟨ret_bool ?_, by repeat (first | exact Below.refl _ _ | refine below_drewN ?_ _ | refine Below.alloc ?_ (by simp) _)⟩
  all_goals go_light
  all_goals rw [Bool.eq_iff_iff]
  all_goals simp only [mayB, decide_eq_true_eq, beq_iff_eq, beq_eq_false_iff_ne, ne_eq, Bool.false_eq_true, isEmpty_size, false_iff] at *
  all_goals first | omega | (simp_all; try omega; done)
end Go.Proofs.YtahdlejgjcjeoaaGreatDoor

namespace Go.Proofs.YtahdlejgjcjeoaaGreatDoor
open Go.RowKit

set_option maxHeartbeats 400000 in
theorem mays_some (b off cap : Nat) (l : List At) (w : World) (hrow : RowAt w b off l) (hs : ∀ a ∈ l, short a) (_hcap : l.length ≤ cap) (hlen : l.length ≤ 281474976710656) (hb : b < w.heap.size) :
    Calls Tryz.prog 210 #[.slice (some ⟨b, off, none⟩) l.length cap] w fun e w' => e = .returned (.bool (l.all mayB)) ∧ Below w.heap.size w w' := by
  have HR : Hid (RowAt w b off l) := hrow
  clear hrow
  have HS : Hid (∀ a ∈ l, short a) := hs
  clear hs
  go_enter Tryz.func210, Tryz.ntmps210
  go_wp2
  go_loopw [3] (fun i wr => ∃ k : Nat, k ≤ l.length ∧ i = .int .i64 k ∧ Hid ((l.take k).all mayB = true) ∧ Below w.heap.size w wr) (fun i _ => l.length - (intOf i).toNat)
  case atStart => exact ⟨0, Nat.zero_le _, rfl, by simp [Hid], Below.refl _ _⟩
  case round =>
    obtain ⟨k, hk, rfl, ht, hbw⟩ := hrel
    by_cases hl : k < l.length
    · obtain ⟨c0, c1, c2, c3, c4, c5⟩ := (HR.out.below hbw hb) k hl
      have hsk := HS.out (l[k]) (List.getElem_mem hl)
      have hsz := hbw.size
      generalize hak : l[k] = a at *
      have HA : Hid (l[k] = a) := hak
      clear hak
      cases hm : mayB a
      · go_wp2_with (go_at_call 223; refine (May_any a _ hsk).mono ?_; rintro e w' ⟨rfl, hb1⟩)
        go_ret
        refine ⟨ret_bool ?_, hbw.trans (hb1.mono hsz)⟩
        symm
        rw [List.all_eq_false]
        exact ⟨a, HA.out ▸ List.getElem_mem hl, by simp [hm]⟩
      · go_wp2_with (go_at_call 223; refine (May_any a _ hsk).mono ?_; rintro e w' ⟨rfl, hb1⟩)
        go_roundw
        case rel => exact ⟨k + 1, by omega, by go_num, (by rw [Hid, all_snoc _ _ _ hl, HA.out, hm, ht.out]; rfl), hbw.trans (hb1.mono hsz)⟩
        case measure => simp [intOf]; omega
    · go_wp2
      go_ret
      refine ⟨ret_bool ?_, hbw⟩
      rw [← ht.out, List.take_of_length_le (by omega)]

set_option maxHeartbeats 400000 in
theorem mays_nil (ad : Option Addr) (cap : Nat) (w : World) :
    Calls Tryz.prog 210 #[.slice ad 0 cap] w fun e w' => e = .returned (.bool true) ∧ Below w.heap.size w w' := by
  go_enter Tryz.func210, Tryz.ntmps210
  go_wp2
  go_loopw [3] (fun i wr => i = .int .i64 0 ∧ wr = w) (fun i _ => 0)
  case atStart => exact ⟨rfl, rfl⟩
  case round =>
    obtain ⟨rfl, rfl⟩ := hrel
    go_wp2
    go_ret
    exact ⟨rfl, Below.refl _ _⟩

theorem mays_any (v : Value) (l : List At) (w : World) (hv : SliceOf w v l) (hs : ∀ a ∈ l, short a) (hlen : l.length ≤ 281474976710656) :
    Calls Tryz.prog 210 #[v] w fun e w' => e = .returned (.bool (l.all mayB)) ∧ Below w.heap.size w w' := by
  obtain ⟨ad, cap, rfl, hcap, h⟩ := hv
  by_cases h0 : 0 < l.length
  · obtain ⟨b, off, rfl, hb, hrow⟩ := h h0
    exact mays_some b off cap l w hrow hs hcap hlen hb
  · obtain rfl := List.length_eq_zero_iff.1 (by omega : l.length = 0)
    exact mays_nil ad cap w

set_option maxHeartbeats 1000000 in
theorem counts_some (b off cap : Nat) (l : List At) (i : Nat) (w : World) (hrow : RowAt w b off l) (hs : ∀ a ∈ l, fits a) (_hcap : l.length ≤ cap) (hlen : l.length ≤ 281474976710656) (hb : b < w.heap.size) (hi : i < l.length) :
    Calls Tryz.prog 117 #[.slice (some ⟨b, off, none⟩) l.length cap, .int .i64 i] w fun e w' => e = .returned (.bool (cntTo l i l.length)) ∧ Below w.heap.size w w' := by
  have HR : Hid (RowAt w b off l) := hrow
  clear hrow
  have HS : Hid (∀ a ∈ l, fits a) := hs
  clear hs
  go_enter Tryz.func117, Tryz.ntmps117
  go_wp2
  go_loopw [5] (fun j wr => ∃ k : Nat, k ≤ l.length ∧ j = .int .i64 k ∧ Hid (cntTo l i k = true) ∧ Below w.heap.size w wr) (fun j _ => l.length - (intOf j).toNat)
  case atStart => exact ⟨0, Nat.zero_le _, rfl, by simp [Hid, cntTo], Below.refl _ _⟩
  case round =>
    obtain ⟨k, hk, rfl, ht, hbw⟩ := hrel
    by_cases hl : k < l.length
    · obtain ⟨c0, c1, c2, c3, c4, c5⟩ := (HR.out.below hbw hb).nth hl
      obtain ⟨d0, d1, d2, d3, d4, d5⟩ := (HR.out.below hbw hb).nth hi
      have hx := HS.out _ (nth_mem l k hl)
      have hy := HS.out _ (nth_mem l i hi)
      have hsz := hbw.size
      have hst := cntTo_stop l i k l.length hl
      have hsu := cntTo_succ l i k
      generalize nth l k = x at *
      generalize nth l i = y at *
      have HST : Hid (bad x y (decide (k < i)) = true → cntTo l i l.length = false) := hst
      have HSU : Hid (cntTo l i (k + 1) = (cntTo l i k && !bad x y (decide (k < i)))) := hsu
      clear hst hsu
      have q1 : (0 : Int) ≤ (k : Int) := by omega
      have q2 : (k : Int) < (l.length : Int) := by omega
      have q3 : (0 : Int) ≤ (i : Int) := by omega
      have q4 : (i : Int) < (l.length : Int) := by omega
      have hbr : b < wr.heap.size := by omega
      go_wp2
      go_region_held3 (fun w' => w'.cell? ⟨b, off + k * 6, none⟩ = some (.int .i64 x.ty) ∧ w'.cell? ⟨b, off + k * 6 + 1, none⟩ = some (.string x.key) ∧ w'.cell? ⟨b, off + k * 6 + 2, none⟩ = some (.int .i64 x.side) ∧ w'.cell? ⟨b, off + k * 6 + 3, none⟩ = some (.int .i64 x.who) ∧ w'.cell? ⟨b, off + k * 6 + 4, none⟩ = some (.string x.elem) ∧ w'.cell? ⟨b, off + k * 6 + 5, none⟩ = some (.int .i64 x.n) ∧ w'.cell? ⟨b, off + i * 6, none⟩ = some (.int .i64 y.ty) ∧ w'.cell? ⟨b, off + i * 6 + 1, none⟩ = some (.string y.key) ∧ w'.cell? ⟨b, off + i * 6 + 2, none⟩ = some (.int .i64 y.side) ∧ w'.cell? ⟨b, off + i * 6 + 3, none⟩ = some (.int .i64 y.who) ∧ w'.cell? ⟨b, off + i * 6 + 4, none⟩ = some (.string y.elem) ∧ w'.cell? ⟨b, off + i * 6 + 5, none⟩ = some (.int .i64 y.n)) (first | go_keep | (go_split_ands; refine ⟨?_, ?_, ?_, ?_, ?_, ?_, ?_, ?_, ?_, ?_, ?_, ?_⟩ <;> (rw [hb1.cell (p := ⟨b, _, none⟩) (by simpa using hbr)]; assumption))) (first | (go_at_call 118; refine (places_any x y _ hx hy).mono ?_; rintro e w1 ⟨rfl, hb1⟩))
      all_goals go_wp2
      clear c0 c1 c2 c3 c4 c5 d0 d1 d2 d3 d4 d5
      have hbr1 : b < w1.heap.size := Nat.lt_of_lt_of_le hbr hb1.size
      have hbw1 : Below w.heap.size w w1 := hbw.drew.trans (hb1.mono hsz)
      clear hb1
      go_region_held3 (fun w' => w'.cell? ⟨b, off + k * 6, none⟩ = some (.int .i64 x.ty) ∧ w'.cell? ⟨b, off + k * 6 + 1, none⟩ = some (.string x.key) ∧ w'.cell? ⟨b, off + k * 6 + 2, none⟩ = some (.int .i64 x.side) ∧ w'.cell? ⟨b, off + k * 6 + 3, none⟩ = some (.int .i64 x.who) ∧ w'.cell? ⟨b, off + k * 6 + 4, none⟩ = some (.string x.elem) ∧ w'.cell? ⟨b, off + k * 6 + 5, none⟩ = some (.int .i64 x.n) ∧ w'.cell? ⟨b, off + i * 6, none⟩ = some (.int .i64 y.ty) ∧ w'.cell? ⟨b, off + i * 6 + 1, none⟩ = some (.string y.key) ∧ w'.cell? ⟨b, off + i * 6 + 2, none⟩ = some (.int .i64 y.side) ∧ w'.cell? ⟨b, off + i * 6 + 3, none⟩ = some (.int .i64 y.who) ∧ w'.cell? ⟨b, off + i * 6 + 4, none⟩ = some (.string y.elem) ∧ w'.cell? ⟨b, off + i * 6 + 5, none⟩ = some (.int .i64 y.n)) (first | go_keep | (go_split_ands; refine ⟨?_, ?_, ?_, ?_, ?_, ?_, ?_, ?_, ?_, ?_, ?_, ?_⟩ <;> (rw [hb2.cell (p := ⟨b, _, none⟩) (by simpa using hbr1)]; assumption))) (first | (go_at_call 170; refine (grades_any x y _ hx hy).mono ?_; rintro e w2 ⟨rfl, hb2⟩))
      have hbw2 : Below w.heap.size w w2 := hbw1.drew.trans (hb2.mono hbw1.size)
      clear hb2 hbw1
      go_wp2
      all_goals go_light
      · go_ret
        exact ⟨ret_bool (HST.out (by simp [bad, *])).symm, hbw2⟩
      · exact ⟨⟨k + 1, by omega, by go_num, by rw [Hid, HSU.out, ht.out]; simp [bad, *], hbw2⟩, by simp [intOf]; omega⟩
      · exact ⟨⟨k + 1, by omega, by go_num, by rw [Hid, HSU.out, ht.out]; simp [bad, *], hbw2⟩, by simp [intOf]; omega⟩
      · go_ret
        exact ⟨ret_bool (HST.out (by simp [bad, *])).symm, hbw2⟩
      · exact ⟨⟨k + 1, by omega, by go_num, by rw [Hid, HSU.out, ht.out]; simp [bad, *], hbw2⟩, by simp [intOf]; omega⟩
    · go_wp2
      go_ret
      refine ⟨ret_bool ?_, hbw⟩
      have : k = l.length := by omega
      rw [← this, ht.out]
theorem infoAtom : (Tryz.prog.info? 77).map (fun i => (i.zero, i.size, i.bytes)) = some (some (.agg #[.int .i64 0, .string ⟨#[]⟩, .int .i64 0, .int .i64 0, .string ⟨#[]⟩, .int .i64 0]), 6, 64) := by kernel_rfl

set_option maxHeartbeats 1000000 in
theorem both_any (v1 v2 : Value) (l m : List At) (w : World) (h1 : SliceOf w v1 l) (h2 : SliceOf w v2 m) (hlen : l.length ≤ 549755813888) (hlen2 : m.length ≤ 549755813888) :
    Calls Tryz.prog 70 #[v1, v2] w fun e w' => ∃ v, e = .returned v ∧ w'.ownsRow w.heap.size 77 6 v (l ++ m).length (flat (l ++ m)) ∧ Below w.heap.size w w' := by
  obtain ⟨ad1, cap1, rfl, hc1, H1⟩ := h1
  obtain ⟨ad2, cap2, rfl, hc2, H2⟩ := h2
  have HR1 : Hid (0 < l.length → ∃ b off, ad1 = some ⟨b, off, none⟩ ∧ b < w.heap.size ∧ RowAt w b off l) := H1
  have HR2 : Hid (0 < m.length → ∃ b off, ad2 = some ⟨b, off, none⟩ ∧ b < w.heap.size ∧ RowAt w b off m) := H2
  clear H1 H2
  obtain ⟨i0, hi, hz0, hz1, hz2⟩ := info_parts infoAtom
  go_enter Tryz.func70, Tryz.ntmps70
  go_wp2
  go_loopw [5, 6] (fun v j wr => ∃ k : Nat, k ≤ l.length ∧ j = .int .i64 k ∧ wr.ownsRow w.heap.size 77 6 v k (flat (l.take k)) ∧ Below w.heap.size w wr) (fun _ j _ => l.length - (intOf j).toNat)
  case atStart => exact ⟨0, Nat.zero_le _, rfl, by simp [flat, World.ownsRow], Below.refl _ _⟩
  case round =>
    obtain ⟨k, hk, rfl, hown, hbw⟩ := hrel
    by_cases hl : k < l.length
    · obtain ⟨b, off, rfl, hb, hrow⟩ := HR1.out (by omega)
      obtain ⟨c0, c1, c2, c3, c4, c5⟩ := (hrow.below hbw hb) k hl
      clear hrow HR1
      have hsz := hbw.size
      have hft := flat_snoc (l.take k) (l[k])
      rw [← List.take_succ_eq_append_getElem hl] at hft
      generalize l[k] = x at *
      have HF : Hid (flat (l.take (k + 1)) = flat (l.take k) ++ enc x) := hft
      clear hft
      go_wp2_with (at_builtin; refine wpList_append_lies _ rfl _ _ 56 rfl w.heap.size 77 i0 _ 6 64 Tryz.underlying56 hi hz0 hz1 hz2 rfl (by decide) _ k _ rfl (hown.alloc _) ⟨wr.heap.size, 0, none⟩ 1 1 (enc x) rfl rfl (news_at wr x _) (enc_oneCell x) (by decide) (by unfold maxLen; omega) (by omega) (by simp; omega) (wr.heap.size + 1) (by simp) ?_; intro g capn w1 hown1 hgrow1 hat1 hlt1)
      go_roundw
      case rel => exact ⟨k + 1, by omega, by go_num, by rw [HF.out]; exact hown1, (hbw.alloc hsz _).grown hgrow1 (by simp; omega) (owns_base hown)⟩
      case measure => simp [intOf]; omega
    · have hkl : k = l.length := by omega
      subst hkl
      clear HR1
      rw [List.take_of_length_le (Nat.le_refl _)] at hown
      go_wp2
      obtain ⟨wo, rfl⟩ : ∃ wo : World, wo = wr := ⟨_, rfl⟩
      go_loopw [5, 7] (fun v j wr => ∃ k : Nat, k ≤ m.length ∧ j = .int .i64 k ∧ wr.ownsRow w.heap.size 77 6 v (l.length + k) (flat (l ++ m.take k)) ∧ Below w.heap.size w wr) (fun _ j _ => m.length - (intOf j).toNat)
      case atStart => exact ⟨0, Nat.zero_le _, rfl, by simpa using hown, hbw⟩
      case round =>
        clear hown hbw
        obtain ⟨k, hk, rfl, hown, hbw⟩ := hrel
        by_cases hl : k < m.length
        · obtain ⟨b, off, rfl, hb, hrow⟩ := HR2.out (by omega)
          obtain ⟨c0, c1, c2, c3, c4, c5⟩ := (hrow.below hbw hb) k hl
          clear hrow HR2
          have hsz := hbw.size
          have hft := flat_snoc (l ++ m.take k) (m[k])
          rw [List.append_assoc, ← List.take_succ_eq_append_getElem hl] at hft
          generalize m[k] = x at *
          have HF : Hid (flat (l ++ m.take (k + 1)) = flat (l ++ m.take k) ++ enc x) := hft
          clear hft
          go_wp2_with (at_builtin; refine wpList_append_lies _ rfl _ _ 56 rfl w.heap.size 77 i0 _ 6 64 Tryz.underlying56 hi hz0 hz1 hz2 rfl (by decide) _ (l.length + k) _ rfl (hown.alloc _) ⟨wr.heap.size, 0, none⟩ 1 1 (enc x) rfl rfl (news_at wr x _) (enc_oneCell x) (by decide) (by unfold maxLen; omega) (by omega) (by simp; omega) (wr.heap.size + 1) (by simp) ?_; intro g capn w1 hown1 hgrow1 hat1 hlt1)
          go_roundw
          case rel => exact ⟨k + 1, by omega, by go_num, by rw [HF.out, ← Nat.add_assoc]; exact hown1, (hbw.alloc hsz _).grown hgrow1 (by simp; omega) (owns_base hown)⟩
          case measure => simp [intOf]; omega
        · go_wp2
          go_ret
          rw [List.take_of_length_le (by omega)] at hown
          refine ⟨_, rfl, ?_, hbw⟩
          have : k = m.length := by omega
          rw [List.length_append, ← this]
          exact hown
end Go.Proofs.YtahdlejgjcjeoaaGreatDoor
