/- slices.SortFunc at the program's atoms: the numbers of the shelf's contract laid at this dump. -/
import Derived.Test.YtahdlejgjcjeoabGreatDoorS09
import Derived.Test.YtahdlejgjcjeoabGreatDoorS06
import Derived.Test.YtahdlejgjcjeoabGreatDoorS04
import Derived.Test.YtahdlejgjcjeoabGreatDoorS05
import Derived.Test.YtahdlejgjcjeoabGreatDoorS11
import Derived.Lib.BufferMore
import Derived.Test.YtahdlejgjcjeoabGreatDoorS07
import Derived.Test.YtahdlejgjcjeoabGreatDoorS08
import Derived.Shelf.SlSortCmp.WholeK
import Derived.Test.YtahdlejgjcjeoabGreatDoorProg
namespace Go.Proofs.YtahdlejgjcjeoabGreatDoor
open Go.RowKit
/-- One edge more. -/
theorem linkAll_snoc {n : Nat} : ∀ (l : List (Int × Int)) (f F : Nat → Nat → Bool) (p : Int × Int), linkAll n f l = some F → edgeOk n F p.1 p.2 = true → linkAll n f (l ++ [p]) = some (addE F p.1.toNat p.2.toNat)
  | [], f, F, p, h, he => by
    rw [linkAll] at h
    cases h
    rw [List.nil_append, linkAll, if_pos he, linkAll]
  | q :: l, f, F, p, h, he => by
    rw [linkAll] at h
    split at h
    · rename_i hq
      rw [List.cons_append, linkAll, if_pos hq]
      exact linkAll_snoc l _ F p h he
    · cases h
/-- Edges that may be. -/
structure EdOk (n : Nat) (es : List (Int × Int)) : Prop where
  link : ∃ F, linkAll n noE es = some F ∧ ∀ a b : Nat, F a b = true → ((a : Int), (b : Int)) ∈ es ∨ ((b : Int), (a : Int)) ∈ es
theorem edOk_nil (n : Nat) : EdOk n [] := ⟨noE, rfl, fun a b h => by cases h⟩
theorem EdOk.snoc {n : Nat} {es : List (Int × Int)} (h : EdOk n es) {a b : Int} (ha : 0 ≤ a ∧ a < n) (hb : 0 ≤ b ∧ b < n) (hab : a ≠ b) (h1 : (a, b) ∉ es) (h2 : (b, a) ∉ es) : EdOk n (es ++ [(a, b)]) := by
  obtain ⟨F, hF, hm⟩ := h.link
  refine ⟨_, linkAll_snoc es noE F (a, b) hF ?_, fun i j hij => ?_⟩
  · unfold edgeOk
    have : F a.toNat b.toNat = false := by
      cases hq : F a.toNat b.toNat
      · rfl
      · rcases hm _ _ hq with h | h
        · rw [Int.toNat_of_nonneg ha.1, Int.toNat_of_nonneg hb.1] at h; exact absurd h h1
        · rw [Int.toNat_of_nonneg ha.1, Int.toNat_of_nonneg hb.1] at h; exact absurd h h2
    simp [this, ha, hb, hab]
  · unfold addE at hij
    simp only [Bool.or_eq_true, Bool.and_eq_true, decide_eq_true_eq] at hij
    rw [List.mem_append, List.mem_append]
    rcases hij with (h | ⟨rfl, rfl⟩) | ⟨rfl, rfl⟩
    · rcases hm i j h with h | h
      · exact .inl (.inl h)
      · exact .inr (.inl h)
    · exact .inl (.inr (by simp [Int.toNat_of_nonneg ha.1, Int.toNat_of_nonneg hb.1]))
    · exact .inr (.inr (by simp [Int.toNat_of_nonneg ha.1, Int.toNat_of_nonneg hb.1]))
theorem EdOk.ok {n : Nat} {rm : Int} {es : List (Int × Int)} (h : EdOk n es) (h1 : 1 ≤ n) (h6 : n ≤ 6) (r1 : 1 ≤ rm) (r8 : rm ≤ 8) : newOk n rm es = true := by
  obtain ⟨F, hF, -⟩ := h.link
  unfold newOk
  rw [Int.toNat_natCast, hF]
  simp
  omega
def edV (p : Int × Int) : List Value := [.int .i64 p.1, .int .i64 p.2]
theorem edV_len (p : Int × Int) : (edV p).length = 2 := rfl
theorem infoEdgeK : (Tryz.prog.info? 55).map (fun i => (i.zero, i.size, i.bytes)) = some (some (.agg #[.int .i64 0, .int .i64 0]), 2, 16) := by kernel_rfl
theorem owns_cell {w : World} {base g cap n s : Nat} {e : TypeId} {xs : List Value} (h : w.ownsRow base e s (.slice (some ⟨g, 0, none⟩) n cap) n xs) (i : Nat) (u : Value) (hu : xs[i]? = some u) : w.cell? ⟨g, i, none⟩ = some u := by
  rcases h.2 with ⟨h0, _⟩ | ⟨g', cap', cur, hv, hg, hh, h1, h2, h3, h4⟩
  · cases h0
  cases hv
  rw [blk_cell hh, ← Array.getElem?_toList]
  rw [← h4, List.getElem?_take] at hu
  split at hu
  · exact hu
  · cases hu
theorem own_cap {w : World} {base cap n s : Nat} {ad : Option Addr} {e : TypeId} {xs : List Value} (h : w.ownsRow base e s (.slice ad n cap) n xs) : n ≤ cap := by
  rcases h.2 with ⟨h0, h1⟩ | ⟨g', cap', cur, hv, hg, hh, h1, -⟩
  · omega
  · cases hv
    exact h1
/-- Settings while they are made: c at w.heap.size, the result behind it, then out. -/
structure SInv (w wr : World) (ca co : Array Value) (v : Value) (es : List (Int × Int)) : Prop where
  arg : wr.heap[w.heap.size]? = some (.cells ca 24 (0, 0))
  res : wr.heap[w.heap.size + 1]? = some (.cells #[.int .i64 0, .slice none 0 0, .bool false, .bool false, .int .i64 0] 24 (0, 0))
  out : wr.heap[w.heap.size + 2]? = some (.cells co 24 (0, 0))
  own : wr.ownsRow (w.heap.size + 3) 55 2 v es.length (es.flatMap edV)
  bel : Below w.heap.size w wr
  size : w.heap.size + 3 ≤ wr.heap.size
theorem SInv.below {w wr w1 : World} {ca co : Array Value} {v : Value} {es : List (Int × Int)} (h : SInv w wr ca co v es) (hb : Below wr.heap.size wr w1) : SInv w w1 ca co v es where
  arg := (hb.block _ (blk_lt h.arg)).trans h.arg
  res := (hb.block _ (blk_lt h.res)).trans h.res
  out := (hb.block _ (blk_lt h.out)).trans h.out
  own := owns_below h.own hb
  bel := h.bel.trans (hb.mono h.bel.size)
  size := Nat.le_trans h.size hb.size
/-- Where an edge lies. -/
theorem SInv.edge {w wr : World} {ca co : Array Value} {v : Value} {es : List (Int × Int)} (h : SInv w wr ca co v es) {k : Nat} (hk : k < es.length) : ∃ g cap, v = .slice (some ⟨g, 0, none⟩) es.length cap ∧ wr.cell? ⟨g, k * 2, none⟩ = some (.int .i64 es[k].1) ∧ wr.cell? ⟨g, k * 2 + 1, none⟩ = some (.int .i64 es[k].2) ∧ g < wr.heap.size := by
  obtain ⟨g, cap, rfl, hb, hg⟩ := h.own.form (by omega)
  have h0 := flatMap_get edV 2 edV_len es k 0 hk (by omega)
  have h1 := flatMap_get edV 2 edV_len es k 1 hk (by omega)
  refine ⟨g, cap, rfl, ?_, ?_, hg⟩
  · exact owns_cell h.own _ _ (by rw [← Nat.add_zero (k * 2), h0]; rfl)
  · exact owns_cell h.own _ _ (by rw [h1]; rfl)
/-- One edge more. -/
theorem SInv.more {w wr w3 : World} {ca : Array Value} {x0 x2 x3 x4 v v3 : Value} {a b : Int} {es : List (Int × Int)} {tmp : Obj} (h : SInv w wr ca #[x0, v, x2, x3, x4] v es) (h3 : (wr.alloc tmp).grownBy w3 v.ownBlock) (ho3 : w3.ownsRow (w.heap.size + 3) 55 2 v3 (es.length + 1) (es.flatMap edV ++ [.int .i64 a, .int .i64 b])) :
    SInv w (w3.setCell ⟨w.heap.size + 2, 1, none⟩ v3) ca #[x0, v3, x2, x3, x4] v3 (es ++ [(a, b)]) ∧ w3.cell? ⟨w.heap.size + 2, 1, none⟩ = some v ∧ w3.frozen? ⟨w.heap.size + 2, 1, none⟩ = false := by
  have hsz := h.size
  have hb : ∀ q, q < w.heap.size + 3 → some q ≠ v.ownBlock := fun q hq e => by
    have := owns_base h.own _ e.symm
    omega
  have hg := grown_trans (World.grownBy_alloc wr tmp v.ownBlock) h3
  have hO := (hg.block (w.heap.size + 2) (by omega) (hb _ (by omega))).trans h.out
  have hR := (hg.block (w.heap.size + 1) (by omega) (hb _ (by omega))).trans h.res
  have hA := (hg.block w.heap.size (by omega) (hb _ (by omega))).trans h.arg
  refine ⟨⟨(Below.heap_setCell _ _ _ _ (by simp)).trans hA, (Below.heap_setCell _ _ _ _ (by simp)).trans hR, heap_set (o := 1) hO v3, ?_, ?_, ?_⟩, blk_cell hO 1, blk_thaw hO 1⟩
  · rw [List.length_append, List.flatMap_append]
    exact owns_put ho3 (by omega)
  · exact (h.bel.grown hg (by omega) (fun q hq => by have := owns_base h.own q hq; omega)).setCell (by simp) _
  · have := hg.size
    simp
    omega
def set5 (w : World) (q : Nat) (a b c d e : Value) : World := ((((w.setCell ⟨q, 0, none⟩ a).setCell ⟨q, 1, none⟩ b).setCell ⟨q, 2, none⟩ c).setCell ⟨q, 3, none⟩ d).setCell ⟨q, 4, none⟩ e
theorem SInv.done {w wr : World} {ca co : Array Value} {v : Value} {es : List (Int × Int)} (h : SInv w wr ca co v es) (a b c d e : Value) :
    (set5 wr (w.heap.size + 1) a b c d e).heap[w.heap.size + 1]? = some (.cells #[a, b, c, d, e] 24 (0, 0)) ∧ (set5 wr (w.heap.size + 1) a b c d e).ownsRow w.heap.size 55 2 v es.length (es.flatMap edV) ∧ Below w.heap.size w (set5 wr (w.heap.size + 1) a b c d e) := by
  refine ⟨?_, ?_, ?_⟩
  · exact heap_set (o := 4) (heap_set (o := 3) (heap_set (o := 2) (heap_set (o := 1) (heap_set (o := 0) h.res a) b) c) d) e
  · exact owns_mono (owns_put (owns_put (owns_put (owns_put (owns_put h.own (by omega)) (by omega)) (by omega)) (by omega)) (by omega)) (by omega : w.heap.size ≤ w.heap.size + 3)
  · exact ((((h.bel.setCell (by simp) _).setCell (by simp) _).setCell (by simp) _).setCell (by simp) _).setCell (by simp) _
/-- A row of edges of one's own, as a slice. -/
theorem edges_owns {w : World} {base : Nat} {v : Value} {es : List (Int × Int)} (h : w.ownsRow base 55 2 v es.length (es.flatMap edV)) : EdgesOf w v es := by
  obtain ⟨ad, cap, rfl⟩ := own_form h
  by_cases h0 : 0 < es.length
  · obtain ⟨g, cap', hv, hb, hg⟩ := h.form h0
    cases hv
    refine ⟨_, cap, rfl, own_cap h, fun _ => ⟨g, 0, rfl, hg, fun i hi => ?_⟩⟩
    have g0 := flatMap_get edV 2 edV_len es i 0 hi (by omega)
    have g1 := flatMap_get edV 2 edV_len es i 1 hi (by omega)
    rw [Nat.zero_add]
    exact ⟨owns_cell h _ _ (by rw [← Nat.add_zero (i * 2), g0]; rfl), owns_cell h _ _ (by rw [g1]; rfl)⟩
  · exact ⟨ad, cap, rfl, by omega, fun h1 => absurd h1 h0⟩
/-- The settings once made, no edge yet. -/
theorem sinv_first {w wc : World} {ca co : Array Value} (h : wc = ((w.alloc (.cells ca 24)).alloc (.cells #[.int .i64 0, .slice none 0 0, .bool false, .bool false, .int .i64 0] 24)).alloc (.cells co 24)) : SInv w wc ca co (.slice none 0 0) [] := by
  subst h
  have h1 := two_blocks w (.cells ca 24) (.cells #[.int .i64 0, .slice none 0 0, .bool false, .bool false, .int .i64 0] 24)
  have h2 := two_blocks (w.alloc (.cells ca 24)) (.cells #[.int .i64 0, .slice none 0 0, .bool false, .bool false, .int .i64 0] 24) (.cells co 24)
  rw [show (w.alloc (.cells ca 24)).heap.size = w.heap.size + 1 by simp] at h2
  refine ⟨?_, h2.2, h2.1, ⟨rfl, .inl ⟨rfl, rfl⟩⟩, below_alloc (below_alloc (below_alloc (Below.refl _ w) _) _) _, by simp⟩
  exact (Below.heap_alloc _ _ _ (by simp; omega)).trans h1.2

set_option maxRecDepth 100000 in
set_option maxHeartbeats 4000000 in
theorem settings_any (v : Value) (rs : List (Int × Int)) (reps room : Int) (bp rr : Bool) (w : World) (hv : EdgesOf w v rs) (hlen : rs.length ≤ 1048576) (h1 : i64r reps) (h2 : i64r room) (hrs : ∀ e ∈ rs, i64r e.1 ∧ i64r e.2) :
    Calls Tryz.prog 11 #[.agg #[.int .i64 reps, v, .bool bp, .bool rr, .int .i64 room]] w fun e w' => ∃ (n : Nat) (rm : Int) (u : Value) (es : List (Int × Int)), e = .returned (.agg #[.int .i64 n, u, .bool bp, .bool rr, .int .i64 rm]) ∧ newOk n rm es = true ∧ es.length ≤ 1048576 ∧ w'.ownsRow w.heap.size 55 2 u es.length (es.flatMap edV) ∧ Below w.heap.size w w' := by
  have HPR := Hid.mk (fun W' => pick_any reps 6 W' h1.1 h1.2 (by decide) (by decide))
  have HPM := Hid.mk (fun W' => pick_any room 8 W' h2.1 h2.2 (by decide) (by decide))
  have HE := Hid.mk hv
  have HRS := Hid.mk hrs
  obtain ⟨ad, cap, rfl, -⟩ := hv
  obtain ⟨hb0, hl0, c0, c1, c2, c3, c4⟩ := five_first (w := w) (x0 := .int .i64 reps) (x1 := .slice ad rs.length cap) (x2 := .bool bp) (x3 := .bool rr) (x4 := .int .i64 room) (e := 24)
  clear hrs h1 h2
  go_enter Tryz.func11, Tryz.ntmps11
  go_wp2_with fail
  have n0 := World.new_ne _ _ c0
  have n1 := World.new_ne _ _ c1
  have n2 := World.new_ne _ _ c2
  have n3 := World.new_ne _ _ c3
  have n4 := World.new_ne _ _ c4
  go_cut [3] from 10 (fun s3 wc => ∃ (n : Nat) (rm : Int), s3 = .pointer (some ⟨w.heap.size + 2, 0, none⟩) ∧ Hid (1 ≤ n ∧ n ≤ 6 ∧ 1 ≤ rm ∧ rm ≤ 8) ∧ Hid (SInv w wc #[.int .i64 reps, .slice ad rs.length cap, .bool bp, .bool rr, .int .i64 room] #[.int .i64 n, .slice none 0 0, .bool bp, .bool rr, .int .i64 rm] (.slice none 0 0) []))
  case first =>
    go_region_held3 (fun w' => w'.cell? ⟨w.heap.size, 0, none⟩ = some (.int .i64 reps) ∧ w'.cell? ⟨w.heap.size, 1, none⟩ = some (.slice ad rs.length cap) ∧ w'.cell? ⟨w.heap.size, 2, none⟩ = some (.bool bp) ∧ w'.cell? ⟨w.heap.size, 3, none⟩ = some (.bool rr) ∧ w'.cell? ⟨w.heap.size, 4, none⟩ = some (.int .i64 room)) (first | assumption | go_keep) (first | (go_at_call 43; refine calls_of_args (rfl : _ = #[Value.int IntKind.i64 reps, Value.int IntKind.i64 6]) (HPR.out _) ?_; rintro e wN ⟨t, rfl, ht, hwN⟩; have hwt := wrap1k (t := t) ⟨ht.1, by omega⟩; subst hwN) | (go_at_call 43; refine calls_of_args (rfl : _ = #[Value.int IntKind.i64 room, Value.int IntKind.i64 8]) (HPM.out _) ?_; rintro e wN ⟨s8, rfl, hs8, hwN⟩; have hws := wrap1k (t := s8) ⟨hs8.1, by omega⟩; subst hwN) | fail)
    all_goals go_wp2_with fail
    all_goals go_meet
    all_goals (case rel => exact ⟨(1 + t).toNat, 1 + s8, rfl, ⟨by omega, by omega, by omega, by omega⟩, by rw [Int.toNat_of_nonneg (by omega)]; exact (sinv_first rfl).below (Below.refl _ _).drew⟩)
  case rest =>
    obtain ⟨n, rm, rfl, hn, hS⟩ := hcut
    clear HPR HPM hb0 hl0 c0 c1 c2 c3 c4 n0 n1 n2 n3 n4
    obtain ⟨i0, hi, hz0, hz1, hz2⟩ := info_parts infoEdgeK
    have hn6 := hn.out.2.1
    have hn1 := hn.out.1
    have HPK : Hid (∀ (W : World) (x : Int), i64r x → Calls Tryz.prog 43 #[.int .i64 x, .int .i64 n] W fun e w' => ∃ r, e = .returned (.int .i64 r) ∧ (0 ≤ r ∧ r < (n : Int)) ∧ w' = W) := fun W x hx => pick_any x n W hx.1 hx.2 (by omega) (by omega)
    go_wp2
    go_loopw [4] (fun j wr => ∃ (k : Nat) (v : Value) (es : List (Int × Int)), k ≤ rs.length ∧ j = .int .i64 k ∧ es.length ≤ k ∧ Hid (EdOk n es) ∧ Hid (SInv w wr #[.int .i64 reps, .slice ad rs.length cap, .bool bp, .bool rr, .int .i64 room] #[.int .i64 n, v, .bool bp, .bool rr, .int .i64 rm] v es)) (fun j _ => rs.length - (intOf j).toNat)
    case atStart => exact ⟨0, _, [], Nat.zero_le _, rfl, Nat.le_refl _, edOk_nil n, hS⟩
    case round =>
      obtain ⟨k, v, es, hk, rfl, hek, hed, hinv⟩ := hrel
      have c1 : wr.cell? ⟨w.heap.size, 1, none⟩ = some (.slice ad rs.length cap) := blk_cell hinv.out.arg 1
      have o0 : wr.cell? ⟨w.heap.size + 2, 0, none⟩ = some (.int .i64 n) := blk_cell hinv.out.out 0
      have o1 : wr.cell? ⟨w.heap.size + 2, 1, none⟩ = some v := blk_cell hinv.out.out 1
      obtain ⟨adv, cpv, rfl⟩ := own_form hinv.out.own
      by_cases hl : k < rs.length
      · obtain ⟨ad', cap', hv', -, HH⟩ := HE.out
        cases hv'
        obtain ⟨bb, off, rfl, hb, hrow⟩ := HH (by omega)
        obtain ⟨e0, e1⟩ := hrow k hl
        have d0 := cell_kept e0 hinv.out.bel
        have d1 := cell_kept e1 hinv.out.bel
        have hx := HRS.out _ (List.getElem_mem hl)
        have HPA := Hid.mk (fun W => HPK.out W _ hx.1)
        have HPB := Hid.mk (fun W => HPK.out W _ hx.2)
        have q1 : (0 : Int) ≤ (k : Int) := by omega
        have q2 : (k : Int) < (rs.length : Int) := by omega
        clear e0 e1 hrow HH hx HPK
        generalize rs[k].1 = ra at *
        generalize rs[k].2 = rb at *
        go_wp2_with fail
        go_cut [5] from 30 to 39 (fun s5 wc => ∃ a : Int, s5 = .int .i64 a ∧ Hid (0 ≤ a ∧ a < (n : Int)) ∧ Hid (Below wr.heap.size wr wc))
        case first =>
          go_region_held3 (fun w' => w'.cell? ⟨w.heap.size, 1, none⟩ = some (.slice (some ⟨bb, off, none⟩) rs.length cap) ∧ w'.cell? ⟨bb, off + k * 2, none⟩ = some (.int .i64 ra) ∧ w'.cell? ⟨w.heap.size + 2, 0, none⟩ = some (.int .i64 n)) (first | assumption | go_keep) (first | (go_at_call 43; refine (HPA.out _).mono ?_; rintro e wN ⟨a, rfl, ha, hwN⟩; subst hwN; have HA := Hid.mk ha) | fail)
          all_goals go_wp2_with fail
          all_goals go_meet
          all_goals (case rel => exact ⟨_, rfl, HA, (Below.refl _ _).drew⟩)
        case rest =>
          obtain ⟨a, rfl, ha, hbA⟩ := hcut
          have hinvA := hinv.out.below hbA.out
          have k1 : wc.cell? ⟨w.heap.size, 1, none⟩ = some (.slice (some ⟨bb, off, none⟩) rs.length cap) := blk_cell hinvA.arg 1
          have k0 : wc.cell? ⟨w.heap.size + 2, 0, none⟩ = some (.int .i64 n) := blk_cell hinvA.out 0
          have k2 := cell_kept d1 hbA.out
          have HIA := Hid.mk hinvA
          clear hinv hinvA c1 o0 o1 d0 d1 HPA
          go_wp2_with fail
          obtain ⟨wA, hwA⟩ : ∃ wA, wA = wc := ⟨_, rfl⟩
          subst hwA
          go_cut [6] from 39 to 48 (fun s6 wd => ∃ b : Int, s6 = .int .i64 b ∧ Hid (0 ≤ b ∧ b < (n : Int)) ∧ Hid (Below wA.heap.size wA wd))
          case first =>
            go_region_held3 (fun w' => w'.cell? ⟨w.heap.size, 1, none⟩ = some (.slice (some ⟨bb, off, none⟩) rs.length cap) ∧ w'.cell? ⟨bb, off + k * 2 + 1, none⟩ = some (.int .i64 rb) ∧ w'.cell? ⟨w.heap.size + 2, 0, none⟩ = some (.int .i64 n)) (first | assumption | go_keep) (first | (go_at_call 43; refine (HPB.out _).mono ?_; rintro e wN ⟨b, rfl, hb', hwN⟩; subst hwN; have HB := Hid.mk hb') | fail)
            all_goals go_wp2_with fail
            all_goals go_meet
            all_goals (case rel => exact ⟨_, rfl, HB, (Below.refl _ _).drew⟩)
          case rest =>
            obtain ⟨b, rfl, hb', hbB⟩ := hcut
            have hinvB := HIA.out.below hbB.out
            have HIB := Hid.mk hinvB
            have c1' : wc.cell? ⟨w.heap.size, 1, none⟩ = some (.slice (some ⟨bb, off, none⟩) rs.length cap) := blk_cell hinvB.arg 1
            clear HIA hinvB k1 k0 k2 HPB hbA hbB
            by_cases hab : a = b
            · subst hab
              go_wp2
              go_loopw [7, 8] (fun t j w2 => ∃ m : Nat, m ≤ es.length ∧ j = .int .i64 m ∧ t = .bool false ∧ Hid (SInv w w2 #[.int .i64 reps, .slice (some ⟨bb, off, none⟩) rs.length cap, .bool bp, .bool rr, .int .i64 room] #[.int .i64 n, .slice adv es.length cpv, .bool bp, .bool rr, .int .i64 rm] (.slice adv es.length cpv) es)) (fun _ j _ => es.length - (intOf j).toNat)
              case atStart => exact ⟨0, Nat.zero_le _, rfl, by simp, HIB⟩
              case round =>
                obtain ⟨m, hm, rfl, rfl, hinv2⟩ := hrel
                have o1 : wr.cell? ⟨w.heap.size + 2, 1, none⟩ = some (.slice adv es.length cpv) := blk_cell hinv2.out.out 1
                by_cases hml : m < es.length
                · obtain ⟨g, cp', hvv, e0, e1, hg⟩ := hinv2.out.edge hml
                  cases hvv
                  have q3 : (0 : Int) ≤ (m : Int) := by omega
                  have q4 : (m : Int) < (es.length : Int) := by omega
                  generalize hee : es[m] = ee at *
                  obtain ⟨ea, eb⟩ := ee
                  simp only at e0 e1
                  go_wp2
                  all_goals exact ⟨⟨m + 1, by omega, by go_num, rfl, hinv2.out.below (below_alloc (Below.refl _ _) _)⟩, by simp [intOf]; omega⟩
                · have hme : m = es.length := by omega
                  subst hme
                  have q4 : ¬ (es.length : Int) < (es.length : Int) := by omega
                  go_wp2
                  exact ⟨⟨k + 1, _, es, by omega, by go_num, by omega, hed, hinv2⟩, by simp [intOf]; omega⟩
            · have hba : ¬ b = a := fun e => hab e.symm
              go_wp2
              go_loopw [7, 8] (fun t j w2 => ∃ (m : Nat) (okb : Bool), m ≤ es.length ∧ j = .int .i64 m ∧ t = .bool okb ∧ Hid (okb = true → a ≠ b ∧ ∀ e ∈ es.take m, ¬ (e.1 = a ∧ e.2 = b) ∧ ¬ (e.1 = b ∧ e.2 = a)) ∧ Hid (SInv w w2 #[.int .i64 reps, .slice (some ⟨bb, off, none⟩) rs.length cap, .bool bp, .bool rr, .int .i64 room] #[.int .i64 n, .slice adv es.length cpv, .bool bp, .bool rr, .int .i64 rm] (.slice adv es.length cpv) es)) (fun _ j _ => es.length - (intOf j).toNat)
              case atStart => exact ⟨0, true, Nat.zero_le _, rfl, by simp [hab], fun _ => ⟨hab, fun e he => by simp at he⟩, HIB⟩
              case round =>
                obtain ⟨m, okb, hm, rfl, rfl, hno, hinv2⟩ := hrel
                have o1 : wr.cell? ⟨w.heap.size + 2, 1, none⟩ = some (.slice adv es.length cpv) := blk_cell hinv2.out.out 1
                by_cases hml : m < es.length
                · obtain ⟨g, cp', hvv, e0, e1, hg⟩ := hinv2.out.edge hml
                  cases hvv
                  have q3 : (0 : Int) ≤ (m : Int) := by omega
                  have q4 : (m : Int) < (es.length : Int) := by omega
                  have HST : Hid (∀ e ∈ es.take (m + 1), e ∈ es.take m ∨ e = es[m]) := fun e he => by
                    rw [List.take_succ_eq_append_getElem hml, List.mem_append, List.mem_singleton] at he
                    exact he
                  generalize hee : es[m] = ee at *
                  obtain ⟨ea, eb⟩ := ee
                  simp only at e0 e1
                  go_wp2
                  all_goals refine ⟨⟨m + 1, _, by omega, by go_num, rfl, fun h => ?_, hinv2.out.below (below_alloc (Below.refl _ _) _)⟩, by simp [intOf]; omega⟩
                  all_goals first
                    | (cases h; done)
                    | (refine ⟨(hno.out h).1, fun e he => ?_⟩
                       rcases HST.out e he with h1 | h1
                       · exact (hno.out h).2 e h1
                       · subst h1
                         clear hno HST hinv2
                         simp_all)
                · have hme : m = es.length := by omega
                  subst hme
                  have q4 : ¬ (es.length : Int) < (es.length : Int) := by omega
                  have f1 : wr.frozen? ⟨w.heap.size + 2, 1, none⟩ = false := blk_thaw hinv2.out.out 1
                  have hsz2 := hinv2.out.size
                  have hlq : w.heap.size + 2 < wr.heap.size := by omega
                  cases okb with
                  | false =>
                    go_wp2
                    exact ⟨⟨k + 1, _, es, by omega, by go_num, by omega, hed, hinv2⟩, by simp [intOf]; omega⟩
                  | true =>
                    have HM : Hid (∀ w3 v3, (wr.alloc (.cells #[.int .i64 a, .int .i64 b] 55)).grownBy w3 (Value.slice adv es.length cpv).ownBlock → w3.ownsRow (w.heap.size + 3) 55 2 v3 (es.length + 1) (es.flatMap edV ++ [.int .i64 a, .int .i64 b]) → _) := fun w3 v3 h3 h4 => hinv2.out.more h3 h4
                    have hown := hinv2.out.own
                    have HED : Hid (EdOk n (es ++ [(a, b)])) := hed.out.snoc ha.out hb'.out (hno.out rfl).1 (fun h => ((hno.out rfl).2 _ (by rw [List.take_length]; exact h)).1 ⟨rfl, rfl⟩) (fun h => ((hno.out rfl).2 _ (by rw [List.take_length]; exact h)).2 ⟨rfl, rfl⟩)
                    clear hno HIB hinv2
                    go_wp2_with (at_builtin; refine wpList_append_lies _ rfl _ _ 22 rfl (w.heap.size + 3) 55 i0 _ 2 16 Tryz.underlying22 hi hz0 hz1 hz2 rfl (by decide) _ es.length _ rfl (hown.alloc _) ⟨wr.heap.size, 0, none⟩ 1 1 [.int .i64 a, .int .i64 b] rfl rfl (World.news_of_block (heap_alloc_new wr _)) (by simp [Value.oneCell']) (by decide) (by unfold maxLen; omega) (by omega) (by simp; omega) (wr.heap.size + 1) (by simp) ?_; intro g3' capn w3 hown3 hgrow3 hat3 hlt3; obtain ⟨hinv3, e1, f1⟩ := HM.out w3 _ hgrow3 hown3)
                    all_goals go_wp2
                    all_goals exact ⟨⟨k + 1, _, _, by omega, by go_num, by rw [List.length_append]; simp; omega, HED, hinv3⟩, by simp [intOf]; omega⟩
      · have hkl : k = rs.length := by omega
        subst hkl
        obtain ⟨r0, r1, r2, r3, r4⟩ : wr.cell? ⟨w.heap.size + 1, 0, none⟩ = some (.int .i64 0) ∧ wr.cell? ⟨w.heap.size + 1, 1, none⟩ = some (.slice none 0 0) ∧ wr.cell? ⟨w.heap.size + 1, 2, none⟩ = some (.bool false) ∧ wr.cell? ⟨w.heap.size + 1, 3, none⟩ = some (.bool false) ∧ wr.cell? ⟨w.heap.size + 1, 4, none⟩ = some (.int .i64 0) := ⟨blk_cell hinv.out.res 0, blk_cell hinv.out.res 1, blk_cell hinv.out.res 2, blk_cell hinv.out.res 3, blk_cell hinv.out.res 4⟩
        have rf := blk_thaw hinv.out.res
        obtain ⟨o2, o3, o4⟩ : wr.cell? ⟨w.heap.size + 2, 2, none⟩ = some (.bool bp) ∧ wr.cell? ⟨w.heap.size + 2, 3, none⟩ = some (.bool rr) ∧ wr.cell? ⟨w.heap.size + 2, 4, none⟩ = some (.int .i64 rm) := ⟨blk_cell hinv.out.out 2, blk_cell hinv.out.out 3, blk_cell hinv.out.out 4⟩
        have hdone := hinv.out.done (.int .i64 n) (.slice adv es.length cpv) (.bool bp) (.bool rr) (.int .i64 rm)
        unfold set5 at hdone
        have HD := Hid.mk hdone
        have HNO : Hid (newOk n rm es = true) := hed.out.ok hn.out.1 hn.out.2.1 hn.out.2.2.1 hn.out.2.2.2
        clear hdone hinv HPK HE
        go_wp2
        clear r0 r1 r2 r3 r4 rf o0 o1 o2 o3 o4 c1
        generalize (((((wr.setCell ⟨w.heap.size + 1, 0, none⟩ (.int .i64 n)).setCell ⟨w.heap.size + 1, 1, none⟩ (.slice adv es.length cpv)).setCell ⟨w.heap.size + 1, 2, none⟩ (.bool bp)).setCell ⟨w.heap.size + 1, 3, none⟩ (.bool rr)).setCell ⟨w.heap.size + 1, 4, none⟩ (.int .i64 rm)) = W at HD ⊢
        obtain ⟨hB, hO, hW⟩ := HD.out
        refine bodyPost_ret (v := .agg #[.int .i64 n, .slice adv es.length cpv, .bool bp, .bool rr, .int .i64 rm]) ?_ rfl ⟨n, rm, _, es, rfl, HNO.out, by omega, hO, hW⟩
        have r0 := blk_cell hB 0
        have r1 := blk_cell hB 1
        have r2 := blk_cell hB 2
        have r3 := blk_cell hB 3
        have r4 := blk_cell hB 4
        simp only [List.getElem?_toArray, List.getElem?_cons_zero, List.getElem?_cons_succ] at r0 r1 r2 r3 r4
        simp [results, Tryz.results11, go_sem, r0, r1, r2, r3, r4]
end Go.Proofs.YtahdlejgjcjeoabGreatDoor

namespace Go.Proofs.YtahdlejgjcjeoabGreatDoor
open Go.RowKit

/-- A world, and blocks of it. -/
structure Snap where
  w : World
  P : Nat → Prop
def Snap.all (w : World) : Snap := ⟨w, fun _ => True⟩
/-- Those blocks are as they were, and are nobody's. -/
structure Old (Z : Snap) (w : World) (col : Col) : Prop where
  bel : Fr (fun q => ¬ Z.P q) Z.w w
  col : ∀ q, q < Z.w.heap.size → Z.P q → (col q).1 = 0
theorem Old.kept {Z : Snap} {w w' : World} {col col' : Col} {S : Nat × Nat → Prop} (h : Old Z w col) (hf : FrC S col col' w w') (hS : ∀ κ : Nat × Nat, κ.1 = 0 → ¬ S κ) : Old Z w' col' where
  bel := ⟨hf.fr.os.trans h.bel.os, hf.fr.tape.trans h.bel.tape, hf.fr.output.trans h.bel.output, Nat.le_trans h.bel.size hf.size, fun k hk hp => (hf.fr.block k (Nat.lt_of_lt_of_le hk h.bel.size) (hS _ (h.col k hk (Classical.not_not.1 hp)))).trans (h.bel.block k hk hp)⟩
  col := fun q hq hp => by rw [hf.col q (Nat.lt_of_lt_of_le hq h.bel.size)]; exact h.col q hq hp
theorem Old.same {Z : Snap} {w w' : World} {col : Col} (h : Old Z w col) (hb : Below w.heap.size w w') : Old Z w' col := h.kept (S := fun _ => False) (frC_same hb) (fun _ _ => id)
theorem Old.below {Z w : World} {col : Col} (h : Old (Snap.all Z) w col) : Below Z.heap.size Z w := ⟨h.bel.os, h.bel.tape, h.bel.output, h.bel.size, fun k hk => h.bel.block k hk (fun e => e trivial)⟩
theorem old_all {Z w : World} {col : Col} (h : Below Z.heap.size Z w) (hc : ∀ q, q < Z.heap.size → (col q).1 = 0) : Old (Snap.all Z) w col := ⟨⟨h.os, h.tape, h.output, h.size, fun k hk _ => h.block k hk⟩, fun q hq _ => hc q hq⟩
end Go.Proofs.YtahdlejgjcjeoabGreatDoor

namespace Go.Proofs.YtahdlejgjcjeoabGreatDoor
open Go.RowKit

theorem append_empty (t e ty : TypeId) (i : TypeInfo) (ht : Tryz.prog.underlying t = some (.slice e)) (hi : Tryz.prog.info? e = some i) (g : Nat) (ad : Option Addr) (c : Nat) (w : World) :
    (Builtin.append_ #[t, t] ty #[.slice (some ⟨g, 0, none⟩) 0 0, .slice ad 0 c]).run Tryz.prog w = .ok (.slice (some ⟨g, 0, none⟩) 0 0) w := by
  cases ad <;> simp [Builtin.append_, run_underlying ht, sizeOf, typeInfo, hi, Builtin.lenOf, Builtin.firstCells, storeCells, loadCells, loadCellsFrom]

set_option maxRecDepth 100000 in
theorem cloneAtoms (v : Value) (l : List At) (w : World) (hv : SliceOf w v l) (hlen : l.length ≤ 16777216) :
    Calls Tryz.prog 136 #[v] w fun e w' => ∃ v', e = .returned v' ∧ w'.ownsRow w.heap.size 76 6 v' l.length (flat l) ∧ Below w.heap.size w w' := by
  obtain ⟨i0, hi, hz0, hz1, hz2⟩ := info_parts infoAtom
  obtain ⟨ad, cap, rfl, hcap, H⟩ := hv
  cases ad with
  | none =>
    have h0 : l.length = 0 := by
      by_cases h : 0 < l.length
      · obtain ⟨b, off, e, _⟩ := H h; cases e
      · omega
    obtain rfl := List.length_eq_zero_iff.1 h0
    have heq := fun W n' c' => Lib.run_eql_slice_nil (P := Tryz.prog) W 53 76 none 0 cap n' c' Tryz.underlying53
    clear H
    go_enter Tryz.func136, Tryz.ntmps136
    go_wp2
    go_ret
    exact ⟨_, rfl, World.ownsRow_nil w _ _ _, Below.refl _ _⟩
  | some A =>
    have heq := fun W => Lib.run_eql_slice_some_nil (P := Tryz.prog) W (t := 53) A l.length cap Tryz.underlying53
    have hown : (w.alloc (.cells #[] 76)).ownsRow w.heap.size 76 6 (.slice (some ⟨w.heap.size, 0, none⟩) 0 0) 0 [] :=
      ⟨rfl, .inr ⟨w.heap.size, 0, #[], rfl, Nat.le_refl _, heap_alloc_new w _, Nat.le_refl _, Nat.zero_le _, rfl, rfl⟩⟩
    have hb0 := below_alloc (Below.refl _ w) (.cells #[] 76)
    by_cases hpos : 0 < l.length
    · obtain ⟨b, off, e, hb, hrow⟩ := H hpos
      cases e
      have hnews : ∀ j u, (flat l)[j]? = some u → (w.alloc (.cells #[] 76)).cell? ((⟨b, off, none⟩ : Addr).add j) = some u :=
        rowAt_cells (hrow.below hb0 hb)
      have HL : Hid ((flat l).length = l.length * 6) := flat_length l
      have HO : Hid (∀ u ∈ flat l, u.oneCell' = true) := flat_oneCell l
      generalize flat l = L at *
      generalize l.length = n at *
      clear H hrow
      go_enter Tryz.func136, Tryz.ntmps136
      go_wp2_with (at_builtin; refine wpList_append_two _ rfl _ _ 53 rfl w.heap.size 76 i0 _ 6 64 Tryz.underlying53 hi hz0 hz1 hz2 rfl (by decide) _ 0 _ rfl hown ⟨b, off, none⟩ n cap L rfl HL.out hnews HO.out hpos (by unfold maxLen; omega) (by omega) (by simp) ?_; intro gA capA wA hownA hcaseA)
      go_ret
      rw [Nat.zero_add] at hownA
      refine ⟨_, rfl, hownA, ?_⟩
      rcases hcaseA with ⟨h1, _⟩ | ⟨h1, h2⟩
      · exact hb0.grown h1 (by simp) (fun k hk => by cases hk)
      · exact hb0.grown h2 (by simp) (fun k hk => by cases hk; have := own_g h1; omega)
    · obtain rfl := List.length_eq_zero_iff.1 (by omega : l.length = 0)
      have happ := fun ty g W => append_empty 53 76 ty i0 Tryz.underlying53 hi g (some A) cap W
      have HOW : Hid ((w.alloc (.cells #[] 76)).ownsRow w.heap.size 76 6 (.slice (some ⟨w.heap.size, 0, none⟩) 0 0) 0 []) := hown
      clear H hown
      simp only [List.length_nil] at heq
      go_enter Tryz.func136, Tryz.ntmps136
      go_wp2
      go_ret
      exact ⟨_, rfl, HOW.out, hb0⟩
end Go.Proofs.YtahdlejgjcjeoabGreatDoor

namespace Go.Proofs.YtahdlejgjcjeoabGreatDoor
open Go.RowKit Go.MuLone

/-- All that is one owner's. -/
def ofOwn (o : Nat) : Nat × Nat → Prop := fun κ => κ.1 = o

theorem PrB.unlock {w : World} {col : Col} {o x : Nat} {ex : Option Nat} {K : PrK} (h : PrB w col o x ex { K with lk := 1 }) (h0 : K.lk = 0) : w.cell? ⟨x, 0, none⟩ = some (.int .i32 1) ∧ w.frozen? ⟨x, 0, none⟩ = false ∧ PrB (w.setCell ⟨x, 0, none⟩ (.int .i32 0)) col o x ex K ∧ FrC (fun κ => κ = (o, 0)) col col w (w.setCell ⟨x, 0, none⟩ (.int .i32 0)) := by
  obtain ⟨c0, _, _, _, _, _, fz⟩ := h.cl
  obtain ⟨h1, h2⟩ := h.lock 0
  refine ⟨c0, fz 0, ?_, h2⟩
  have : ({ K with lk := 0 } : PrK) = K := by rw [← h0]
  rw [← this]
  exact h1
theorem ofOwn_lock {o : Nat} : ∀ κ : Nat × Nat, κ = (o, 0) → ofOwn o κ := fun κ e => by rw [e]; rfl
theorem ofOwn_prg {o i : Nat} : ∀ κ, ofPrg o i κ → ofOwn o κ := fun κ e => by
  rcases e with e | e
  · rw [e]; rfl
  · exact e.1
theorem PrK.is.down {K : PrK} {c : Clu} (h : K.is c) {i : Nat} (hi : i < K.Ds.length) : (K.Ds[i]).up = !(c.rep i).down := (h.reps i hi).up

end Go.Proofs.YtahdlejgjcjeoabGreatDoor

namespace Go.Proofs.YtahdlejgjcjeoabGreatDoor
open Go.RowKit Go.MuLone

theorem ent_cells {w : World} {base cap : Nat} {ad : Option Addr} {ds : List Pe} (h : w.ownsRow base 85 3 (.slice ad ds.length cap) ds.length (ds.flatMap Pe.cells)) {k : Nat} (hk : k < ds.length) :
    ∃ g, ad = some ⟨g, 0, none⟩ ∧ g < w.heap.size ∧ w.cell? ⟨g, k * 3, none⟩ = some (.int .i64 (ds[k]).num) ∧ w.cell? ⟨g, k * 3 + 1, none⟩ = some (.int .i64 (ds[k]).org) ∧ w.cell? ⟨g, k * 3 + 2, none⟩ = some (ds[k]).v := by
  rcases h.2 with ⟨_, h0⟩ | ⟨g, cap', cur, hv, hg, hb, h1, h2, h3, h4⟩
  · omega
  · cases hv
    have hc : ∀ j u, (ds.flatMap Pe.cells)[j]? = some u → w.cell? ⟨g, j, none⟩ = some u := fun j u hu => by
      have := h.cells (g := g) rfl j u hu
      rwa [Addr.add_lit, Nat.zero_add] at this
    refine ⟨g, rfl, (Array.getElem?_eq_some_iff.1 hb).1, hc _ _ ?_, hc _ _ ?_, hc _ _ ?_⟩
    · exact (flatMap_get Pe.cells 3 Pe.cells_length ds k 0 hk (by omega)).trans rfl
    · exact (flatMap_get Pe.cells 3 Pe.cells_length ds k 1 hk (by omega)).trans rfl
    · exact (flatMap_get Pe.cells 3 Pe.cells_length ds k 2 hk (by omega)).trans rfl

end Go.Proofs.YtahdlejgjcjeoabGreatDoor

namespace Go.Proofs.YtahdlejgjcjeoabGreatDoor
open Go.RowKit Go.MuLone

theorem works_cases (c : Clu) (r : Int) : (c.works r = 5 ∧ ¬ (0 ≤ r ∧ r < c.reps.length)) ∨ (∃ i : Nat, r = i ∧ i < c.reps.length ∧ ((c.works r = 8 ∧ (c.rep i).down = true) ∨ (c.works r = 0 ∧ (c.rep i).down = false))) := by
  by_cases h : 0 ≤ r ∧ r < c.reps.length
  · refine .inr ⟨r.toNat, by omega, by omega, ?_⟩
    have ht : c.there r = true := by simp [Clu.there, h]
    unfold Clu.works
    rw [if_neg (by simp [ht])]
    cases hd : (c.rep r.toNat).down
    · exact .inr ⟨by simp, rfl⟩
    · exact .inl ⟨by simp, rfl⟩
  · have ht : c.there r = false := by simp [Clu.there]; omega
    exact .inl ⟨by simp [Clu.works, ht], h⟩

end Go.Proofs.YtahdlejgjcjeoabGreatDoor

namespace Go.Proofs.YtahdlejgjcjeoabGreatDoor
open Go.RowKit

theorem short_of_may {a : At} (h : mayB a = true) : short a := by
  simp only [mayB, decide_eq_true_eq] at h
  unfold short
  omega

theorem below_of_grown {w w1 w' : World} {b : Nat} (h : Below w.heap.size w w1) (hg : w1.grownBy w' (some b)) (hb : w.heap.size ≤ b) : Below w.heap.size w w' :=
  h.grown hg h.size (fun k hk => by cases hk; exact hb)

set_option maxRecDepth 100000 in
set_option maxHeartbeats 1000000 in
theorem of_yes (v : Value) (l : List At) (w : World) (hr : RulesAt w) (hv : SliceOf w v l) (hs : ∀ a ∈ l, short a) (hlen : l.length ≤ 1099511627776) (hall : l.all mayB = true) :
    Calls Tryz.prog 152 #[v] w fun e w' => ∃ b, e = .returned (.tuple #[.map (some b), .int .i64 0]) ∧ w.heap.size ≤ b ∧ StMap w' b l.length (addTo (fun _ => none) l) ∧ Below w.heap.size w w' := by
  have hcon := allMayBe_any v l w hr hv hs (by omega)
  have hmay : ∀ a ∈ l, mayB a = true := List.all_eq_true.1 hall
  rw [hall] at hcon
  have HR : Hid (RulesAt w) := hr
  have HV : Hid (SliceOf w v l) := hv
  have HS : Hid (∀ a ∈ l, mayB a = true) := hmay
  clear hr hv hs hmay hall
  have hmm := @run_makeMap Tryz.prog
  go_enter Tryz.func152, Tryz.ntmps152
  go_wp2_with fail
  refine hcon.mono ?_
  rintro e w1 ⟨rfl, hb1⟩
  clear hcon
  go_wp2_with fail
  have hb2 : Below w.heap.size w (w1.alloc (.map #[] 0)) := below_alloc hb1 _
  refine (add_any v l w1.heap.size 0 (fun _ => none) _ (HR.out.below hb2 HR.out.1) (stMap_made w1) (HV.out.below hb2) HS.out (by omega)).mono ?_
  rintro e w2 ⟨rfl, hst, hg⟩
  rw [Nat.zero_add] at hst
  have hb3 := below_of_grown hb2 hg hb1.size
  have HB : Hid (StMap w2 w1.heap.size l.length (addTo (fun _ => none) l)) := hst
  have hsz := hb1.size
  clear hst hg hb2
  go_wp2
  go_ret2
  exact ⟨_, rfl, hsz, HB, hb3⟩

set_option maxHeartbeats 1000000 in
theorem of_no (v : Value) (l : List At) (w : World) (hr : RulesAt w) (hv : SliceOf w v l) (hs : ∀ a ∈ l, short a) (hlen : l.length ≤ 1099511627776) (hall : l.all mayB = false) :
    Calls Tryz.prog 152 #[v] w fun e w' => e = .returned (.tuple #[.map none, .int .i64 1]) ∧ Below w.heap.size w w' := by
  have hcon := allMayBe_any v l w hr hv hs (by omega)
  rw [hall] at hcon
  clear hr hv hs hall
  go_enter Tryz.func152, Tryz.ntmps152
  go_wp2_with fail
  refine hcon.mono ?_
  rintro e w1 ⟨rfl, hb1⟩
  clear hcon
  go_wp2
  go_ret2
  exact ⟨rfl, hb1⟩
end Go.Proofs.YtahdlejgjcjeoabGreatDoor

namespace Go.Proofs.YtahdlejgjcjeoabGreatDoor
open Go.RowKit
/-- No neighbour lies beyond the replicas. -/
def Clu.far (c : Clu) : Prop := ∀ i j, c.reps.length ≤ j → c.near i j = false
theorem far_of {c c' : Clu} (h : c.far) (h1 : c'.near = c.near) (h2 : c'.reps.length = c.reps.length) : c'.far := fun i j hj => by rw [h1]; exact h i j (by omega)
theorem setRep_len (c : Clu) (i : Nat) (p : Rep) : (c.setRep i p).reps.length = c.reps.length := by simp [Clu.setRep]
theorem put_keep (c : Clu) (f : Frm) : (c.put f).near = c.near ∧ (c.put f).reps.length = c.reps.length := by
  unfold Clu.put
  split <;> exact ⟨rfl, rfl⟩
theorem far_send {c : Clu} (h : c.far) (r q : Int) : (c.send r q).far := by
  unfold Clu.send
  split
  · unfold Clu.sent
    obtain ⟨h1, h2⟩ := put_keep (c.setRep r.toNat { c.rep r.toNat with frames := (c.rep r.toNat).frames + 1, weight := (c.rep r.toNat).weight + ((c.rep r.toNat).frame c.bp r.toNat q.toNat).d.length }) ((c.rep r.toNat).frame c.bp r.toNat q.toNat)
    exact far_of h (h1.trans rfl) (h2.trans (setRep_len _ _ _))
  · exact h
theorem far_drop {c : Clu} (h : c.far) (k : Int) : (c.dropF k).far := by
  unfold Clu.dropF
  split
  · exact far_of h rfl rfl
  · exact h
theorem far_copy {c : Clu} (h : c.far) (k : Int) : (c.copyF k).far := by
  unfold Clu.copyF
  split
  · obtain ⟨h1, h2⟩ := put_keep c (c.frm k.toNat)
    exact far_of h h1 h2
  · exact h
theorem far_arrived {c : Clu} (h : c.far) (f : Frm) : (c.arrived f).far := by
  unfold Clu.arrived
  split
  · exact h
  · split
    · exact far_of h rfl (setRep_len _ _ _)
    · obtain ⟨h1, h2⟩ := put_keep (c.setRep f.dst ((c.rep f.dst).arrive c.room c.rr f.d f.src)) ⟨3, f.dst, f.src, f.upto, []⟩
      exact far_of h (h1.trans rfl) (h2.trans (setRep_len _ _ _))
theorem far_deliver {c : Clu} (h : c.far) (k : Int) : (c.deliver k).far := by
  unfold Clu.deliver
  split
  · exact far_arrived (c := c.out k.toNat) (far_of h rfl rfl) _
  · exact h
section
variable {N : Nat} {U : List At} {c : Clu}
theorem ok_tell (hok : c.ok U N) (hL : Lim U N) {r : Int} (hw : c.works r = 0) : (∀ a ∈ tell (c.rep r.toNat).atoms, short a) ∧ (tell (c.rep r.toNat).atoms).length ≤ 131072 := by
  rcases works_cases c r with ⟨h5, _⟩ | ⟨i, rfl, hi, _⟩
  · rw [h5] at hw; cases hw
  have hrep := hok.rep hi
  have htt := tell_told (c.rep i).atoms
  exact ⟨fun a ha => short_of_may (hok.may a (hrep.sub a (htt.great a ha).1)), Nat.le_trans (length_le_of_sub (sorted_ne htt.sorted) (fun a ha => hrep.sub a (htt.great a ha).1)) hL.2⟩
end
end Go.Proofs.YtahdlejgjcjeoabGreatDoor

namespace Go.Proofs.YtahdlejgjcjeoabGreatDoor
open Go.Shelf

def sortAtoms_ren : Go.Shelf.Ren := ⟨fun | 6 => 149 | 15 => 186 | 14 => 185 | 28 => 210 | 29 => 211 | 20 => 202 | 21 => 203 | 22 => 204 | 23 => 205 | 24 => 206 | 25 => 207 | 26 => 208 | 27 => 209 | 46 => 220 | 47 => 221 | 48 => 222 | 49 => 223 | 50 => 224 | 57 => 235 | n => n, fun | 22 => 53 | 24 => 76 | 25 => 191 | 3 => 3 | 39 => 238 | 0 => 0 | 53 => 97 | 55 => 274 | 4 => 4 | 46 => 266 | 45 => 265 | 50 => 270 | 5 => 5 | 9 => 9 | 66 => 280 | 70 => 284 | 76 => 293 | 77 => 294 | n => n, fun | n => n⟩

theorem sortAtoms : Go.Proofs.SlLaysF0.n6 Tryz.prog sortAtoms_ren := {
  mixed := by kernel_rfl,
  f6 := ⟨Tryz.f149.name, by decide, Tryz.func149.trans (congrArg some (by kernel_rfl))⟩,
  f14 := ⟨Tryz.f185.name, by decide, Tryz.func185.trans (congrArg some (by kernel_rfl))⟩,
  f15 := Tryz.func186.trans (congrArg some (by kernel_rfl)),
  f20 := ⟨Tryz.f202.name, by decide, Tryz.func202.trans (congrArg some (by kernel_rfl))⟩,
  f21 := ⟨Tryz.f203.name, by decide, Tryz.func203.trans (congrArg some (by kernel_rfl))⟩,
  f22 := ⟨Tryz.f204.name, by decide, Tryz.func204.trans (congrArg some (by kernel_rfl))⟩,
  f23 := ⟨Tryz.f205.name, by decide, Tryz.func205.trans (congrArg some (by kernel_rfl))⟩,
  f24 := ⟨Tryz.f206.name, by decide, Tryz.func206.trans (congrArg some (by kernel_rfl))⟩,
  f25 := ⟨Tryz.f207.name, by decide, Tryz.func207.trans (congrArg some (by kernel_rfl))⟩,
  f26 := ⟨Tryz.f208.name, by decide, Tryz.func208.trans (congrArg some (by kernel_rfl))⟩,
  f27 := ⟨Tryz.f209.name, by decide, Tryz.func209.trans (congrArg some (by kernel_rfl))⟩,
  f28 := Tryz.func210.trans (congrArg some (by kernel_rfl)),
  f29 := Tryz.func211.trans (congrArg some (by kernel_rfl)),
  f46 := ⟨Tryz.f220.name, by decide, Tryz.func220.trans (congrArg some (by kernel_rfl))⟩,
  f47 := Tryz.func221.trans (congrArg some (by kernel_rfl)),
  f48 := Tryz.func222.trans (congrArg some (by kernel_rfl)),
  f49 := ⟨Tryz.f223.name, by decide, Tryz.func223.trans (congrArg some (by kernel_rfl))⟩,
  f50 := ⟨Tryz.f224.name, by decide, Tryz.func224.trans (congrArg some (by kernel_rfl))⟩,
  f57 := ⟨Tryz.f235.name, by decide, Tryz.func235.trans (congrArg some (by kernel_rfl))⟩,
  t0 := Tryz.underlying0,
  a0 := Tryz.isAgg0,
  z0 := Tryz.sizeOf0,
  v0 := Tryz.zeroValue0,
  t3 := Tryz.underlying3,
  a3 := Tryz.isAgg3,
  z3 := Tryz.sizeOf3,
  v3 := Tryz.zeroValue3,
  t4 := Tryz.underlying4,
  a4 := Tryz.isAgg4,
  z4 := Tryz.sizeOf4,
  v4 := Tryz.zeroValue4,
  t5 := Tryz.underlying5,
  a5 := Tryz.isAgg5,
  z5 := Tryz.sizeOf5,
  v5 := Tryz.zeroValue5,
  t9 := Tryz.underlying9,
  a9 := Tryz.isAgg9,
  z9 := Tryz.sizeOf9,
  v9 := Tryz.zeroValue9,
  t22 := Tryz.underlying53,
  a22 := Tryz.isAgg53,
  z22 := Tryz.sizeOf53,
  v22 := Tryz.zeroValue53,
  t25 := Tryz.underlying191,
  a25 := Tryz.isAgg191,
  z25 := Tryz.sizeOf191,
  v25 := Tryz.zeroValue191,
  t39 := Tryz.underlying238,
  a39 := Tryz.isAgg238,
  z39 := Tryz.sizeOf238,
  v39 := Tryz.zeroValue238,
  t45 := Tryz.underlying265,
  a45 := Tryz.isAgg265,
  z45 := Tryz.sizeOf265,
  v45 := Tryz.zeroValue265,
  t46 := Tryz.underlying266,
  a46 := Tryz.isAgg266,
  z46 := Tryz.sizeOf266,
  v46 := Tryz.zeroValue266,
  t50 := Tryz.underlying270,
  a50 := Tryz.isAgg270,
  z50 := Tryz.sizeOf270,
  v50 := Tryz.zeroValue270,
  t53 := Tryz.underlying97,
  a53 := Tryz.isAgg97,
  z53 := Tryz.sizeOf97,
  v53 := Tryz.zeroValue97,
  t55 := Tryz.underlying274,
  a55 := Tryz.isAgg274,
  z55 := Tryz.sizeOf274,
  v55 := Tryz.zeroValue274,
  t66 := Tryz.underlying280,
  a66 := Tryz.isAgg280,
  z66 := Tryz.sizeOf280,
  v66 := Tryz.zeroValue280,
  t70 := Tryz.underlying284,
  a70 := Tryz.isAgg284,
  z70 := Tryz.sizeOf284,
  v70 := Tryz.zeroValue284,
  t76 := Tryz.underlying293,
  a76 := Tryz.isAgg293,
  z76 := Tryz.sizeOf293,
  v76 := Tryz.zeroValue293,
  t77 := Tryz.underlying294,
  a77 := Tryz.isAgg294,
  z77 := Tryz.sizeOf294,
  v77 := Tryz.zeroValue294 }

end Go.Proofs.YtahdlejgjcjeoabGreatDoor
