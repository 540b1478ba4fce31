/- Walks of the law's alike: Read and Replica. -/
import Derived.Test.YtahdlejgjcjeoabGreatDoorS32
namespace Go.Proofs.YtahdlejgjcjeoabGreatDoor
open Go.RowKit
theorem act_all {w : World} {b : Nat} {k r q n ty sd on : Int} {ky el key : ByteArray} (h : w.heap[b]? = some (actB k r q n ty ky sd el on key)) : w.cell? ⟨b, 1, none⟩ = some (.int .i64 r) ∧ w.cell? ⟨b, 2, none⟩ = some (.int .i64 q) ∧ w.cell? ⟨b, 3, none⟩ = some (.int .i64 n) ∧ w.cell? ⟨b, 4, none⟩ = some (.int .i64 ty) ∧ w.cell? ⟨b, 5, none⟩ = some (.string ky) ∧ w.cell? ⟨b, 6, none⟩ = some (.int .i64 sd) ∧ w.cell? ⟨b, 7, none⟩ = some (.string el) ∧ w.cell? ⟨b, 8, none⟩ = some (.int .i64 on) ∧ w.cell? ⟨b, 9, none⟩ = some (.string key) :=
  ⟨(blk_cell h 1).trans rfl, (blk_cell h 2).trans rfl, (blk_cell h 3).trans rfl, (blk_cell h 4).trans rfl, (blk_cell h 5).trans rfl, (blk_cell h 6).trans rfl, (blk_cell h 7).trans rfl, (blk_cell h 8).trans rfl, (blk_cell h 9).trans rfl⟩
section
variable {Z : Snap} {w w' : World} {x y M N : Nat} {b : Bool} {c0 cx cy : Clu}
set_option maxRecDepth 100000 in
set_option maxHeartbeats 4000000 in
theorem Sm.lAlike1 (h : Sm Z w x y b M N c0 cx cy) (hM : M ≤ 131071) (hN : N + 20 ≤ 2097152) (r q n ty : Int) (ky : ByteArray) (sd : Int) (el : ByteArray) (on : Int) (key : ByteArray) (hop : (⟨ty, ky, sd, el, on⟩ : OpV).short) :
    Calls Tryz.prog 20 #[.pointer (some ⟨x, 0, none⟩), .pointer (some ⟨y, 0, none⟩), .agg #[.int .i64 1, .int .i64 r, .int .i64 q, .int .i64 n, .int .i64 ty, .string ky, .int .i64 sd, .string el, .int .i64 on, .string key], .bool b] w (SmQ Z x y b M N) := by
  obtain ⟨U, U', k1, l1, k2, l2⟩ := h.lim (by omega) (by omega)
  obtain ⟨Z1, hg, back⟩ := h.act (k := 1) (r := r) (q := q) (n := n) (ty := ty) (ky := ky) (sd := sd) (el := el) (on := on) (key := key)
  have HER := Hid.mk (h.opErr r ⟨ty, ky, sd, el, on⟩)
  have HX := Hid.mk (fun W (hW : Bi Z1 W 2 x cx 3 y cy) => hW.cUpdate k1 l1 r ⟨ty, ky, sd, el, on⟩ hop)
  have HY := Hid.mk (fun W cx' (hW : Bi Z1 W 2 x cx' 3 y cy) => hW.dUpdate k2 l2 r ⟨ty, ky, sd, el, on⟩ hop)
  rw [HER.out] at HY
  have HKP : Hid (∀ W c' d', Bi Z1 W 2 x c' 3 y d' → W.heap[w.heap.size]? = some (actB 1 r q n ty ky sd el on key)) := fun W c' d' hW => (back W c' d' hW).2
  have HFIN : Hid (∀ W, Bi Z1 W 2 x (cx.update r ⟨ty, ky, sd, el, on⟩) 3 y (cy.update r ⟨ty, ky, sd, el, on⟩) → SmQ Z x y b M N (.returned (.bool true)) W) := fun W hW => (h.update r ⟨ty, ky, sd, el, on⟩ (back W _ _ hW).1).done rfl
  have HG : Hid (Bi Z1 (w.alloc (.cells #[.int .i64 1, .int .i64 r, .int .i64 q, .int .i64 n, .int .i64 ty, .string ky, .int .i64 sd, .string el, .int .i64 on, .string key] 33)) 2 x cx 3 y cy) := hg.bi
  clear h hg back k1 l1 k2 l2 HER
  unfold OpV.val at HX HY
  simp only at HX HY
  generalize cx.opErr r ⟨ty, ky, sd, el, on⟩ = E at *
  go_enter Tryz.func20, Tryz.ntmps20
  go_wp2_with fail
  refine (HX.out _ HG.out).mono ?_
  rintro e w3 ⟨rfl, h3⟩
  obtain ⟨a1, a2, a3, a4, a5, a6, a7, a8, a9⟩ := act_all (HKP.out _ _ _ h3)
  have HB3 := Hid.mk h3
  clear h3 HX HKP HG
  go_wp2_with fail
  refine (HY.out _ _ HB3.out).mono ?_
  rintro e w4 ⟨rfl, h4⟩
  have HF := Hid.mk (HFIN.out _ h4)
  clear h4 HY HB3 HFIN a1 a2 a3 a4 a5 a6 a7 a8 a9
  go_wp2
  go_ret
  simp
  exact HF.out
set_option maxRecDepth 100000 in
set_option maxHeartbeats 4000000 in
theorem Sm.lAlike2 (h : Sm Z w x y b M N c0 cx cy) (hM : M ≤ 131071) (hN : N + 20 ≤ 2097152) (r q n ty : Int) (ky : ByteArray) (sd : Int) (el : ByteArray) (on : Int) (key : ByteArray) (hop : (⟨ty, ky, sd, el, on⟩ : OpV).short) :
    Calls Tryz.prog 20 #[.pointer (some ⟨x, 0, none⟩), .pointer (some ⟨y, 0, none⟩), .agg #[.int .i64 2, .int .i64 r, .int .i64 q, .int .i64 n, .int .i64 ty, .string ky, .int .i64 sd, .string el, .int .i64 on, .string key], .bool b] w (SmQ Z x y b M N) := by
  obtain ⟨U, U', k1, l1, k2, l2⟩ := h.lim (by omega) (by omega)
  obtain ⟨Z1, hg, back⟩ := h.act (k := 2) (r := r) (q := q) (n := n) (ty := ty) (ky := ky) (sd := sd) (el := el) (on := on) (key := key)
  have HER := Hid.mk (h.opErr r ⟨ty, ky, sd, el, on⟩)
  have HX := Hid.mk (fun W (hW : Bi Z1 W 2 x cx 3 y cy) => hW.cTorn k1 l1 r ⟨ty, ky, sd, el, on⟩ hop n)
  have HY := Hid.mk (fun W cx' (hW : Bi Z1 W 2 x cx' 3 y cy) => hW.dTorn k2 l2 r ⟨ty, ky, sd, el, on⟩ hop n)
  rw [HER.out] at HY
  have HKP : Hid (∀ W c' d', Bi Z1 W 2 x c' 3 y d' → W.heap[w.heap.size]? = some (actB 2 r q n ty ky sd el on key)) := fun W c' d' hW => (back W c' d' hW).2
  have HFIN : Hid (∀ W, Bi Z1 W 2 x (cx.tornOp r ⟨ty, ky, sd, el, on⟩ n) 3 y (cy.tornOp r ⟨ty, ky, sd, el, on⟩ n) → SmQ Z x y b M N (.returned (.bool true)) W) := fun W hW => (h.tornOp r ⟨ty, ky, sd, el, on⟩ n (back W _ _ hW).1).done rfl
  have HG : Hid (Bi Z1 (w.alloc (.cells #[.int .i64 2, .int .i64 r, .int .i64 q, .int .i64 n, .int .i64 ty, .string ky, .int .i64 sd, .string el, .int .i64 on, .string key] 33)) 2 x cx 3 y cy) := hg.bi
  clear h hg back k1 l1 k2 l2 HER
  unfold OpV.val at HX HY
  simp only at HX HY
  generalize cx.opErr r ⟨ty, ky, sd, el, on⟩ = E at *
  go_enter Tryz.func20, Tryz.ntmps20
  go_wp2_with fail
  refine (HX.out _ HG.out).mono ?_
  rintro e w3 ⟨rfl, h3⟩
  obtain ⟨a1, a2, a3, a4, a5, a6, a7, a8, a9⟩ := act_all (HKP.out _ _ _ h3)
  have HB3 := Hid.mk h3
  clear h3 HX HKP HG
  go_wp2_with fail
  refine (HY.out _ _ HB3.out).mono ?_
  rintro e w4 ⟨rfl, h4⟩
  have HF := Hid.mk (HFIN.out _ h4)
  clear h4 HY HB3 HFIN a1 a2 a3 a4 a5 a6 a7 a8 a9
  go_wp2
  go_ret
  simp
  exact HF.out
set_option maxRecDepth 100000 in
set_option maxHeartbeats 4000000 in
theorem Sm.lAlike3 (h : Sm Z w x y b M N c0 cx cy) (hM : M ≤ 131071) (hN : N + 20 ≤ 2097152) (r q n ty : Int) (ky : ByteArray) (sd : Int) (el : ByteArray) (on : Int) (key : ByteArray) :
    Calls Tryz.prog 20 #[.pointer (some ⟨x, 0, none⟩), .pointer (some ⟨y, 0, none⟩), .agg #[.int .i64 3, .int .i64 r, .int .i64 q, .int .i64 n, .int .i64 ty, .string ky, .int .i64 sd, .string el, .int .i64 on, .string key], .bool b] w (SmQ Z x y b M N) := by
  obtain ⟨U, U', k1, l1, k2, l2⟩ := h.lim (by omega) (by omega)
  obtain ⟨Z1, hg, back⟩ := h.act (k := 3) (r := r) (q := q) (n := n) (ty := ty) (ky := ky) (sd := sd) (el := el) (on := on) (key := key)
  have HER := Hid.mk (h.works r)
  have HX := Hid.mk (fun W (hW : Bi Z1 W 2 x cx 3 y cy) => hW.cCrash k1 l1 r)
  have HY := Hid.mk (fun W cx' (hW : Bi Z1 W 2 x cx' 3 y cy) => hW.dCrash k2 l2 r)
  rw [HER.out] at HY
  have HKP : Hid (∀ W c' d', Bi Z1 W 2 x c' 3 y d' → W.heap[w.heap.size]? = some (actB 3 r q n ty ky sd el on key)) := fun W c' d' hW => (back W c' d' hW).2
  have HFIN : Hid (∀ W, Bi Z1 W 2 x (cx.crash r) 3 y (cy.crash r) → SmQ Z x y b M N (.returned (.bool true)) W) := fun W hW => (h.crash r (back W _ _ hW).1).done rfl
  have HG : Hid (Bi Z1 (w.alloc (.cells #[.int .i64 3, .int .i64 r, .int .i64 q, .int .i64 n, .int .i64 ty, .string ky, .int .i64 sd, .string el, .int .i64 on, .string key] 33)) 2 x cx 3 y cy) := hg.bi
  clear h hg back k1 l1 k2 l2 HER
  generalize cx.works r = E at *
  go_enter Tryz.func20, Tryz.ntmps20
  go_wp2_with fail
  refine (HX.out _ HG.out).mono ?_
  rintro e w3 ⟨rfl, h3⟩
  obtain ⟨a1, a2, a3, a4, a5, a6, a7, a8, a9⟩ := act_all (HKP.out _ _ _ h3)
  have HB3 := Hid.mk h3
  clear h3 HX HKP HG
  go_wp2_with fail
  refine (HY.out _ _ HB3.out).mono ?_
  rintro e w4 ⟨rfl, h4⟩
  have HF := Hid.mk (HFIN.out _ h4)
  clear h4 HY HB3 HFIN a1 a2 a3 a4 a5 a6 a7 a8 a9
  go_wp2
  go_ret
  simp
  exact HF.out
set_option maxRecDepth 100000 in
set_option maxHeartbeats 4000000 in
theorem Sm.lAlike4 (h : Sm Z w x y b M N c0 cx cy) (hM : M ≤ 131071) (hN : N + 20 ≤ 2097152) (r q n ty : Int) (ky : ByteArray) (sd : Int) (el : ByteArray) (on : Int) (key : ByteArray) :
    Calls Tryz.prog 20 #[.pointer (some ⟨x, 0, none⟩), .pointer (some ⟨y, 0, none⟩), .agg #[.int .i64 4, .int .i64 r, .int .i64 q, .int .i64 n, .int .i64 ty, .string ky, .int .i64 sd, .string el, .int .i64 on, .string key], .bool b] w (SmQ Z x y b M N) := by
  obtain ⟨U, U', k1, l1, k2, l2⟩ := h.lim (by omega) (by omega)
  obtain ⟨Z1, hg, back⟩ := h.act (k := 4) (r := r) (q := q) (n := n) (ty := ty) (ky := ky) (sd := sd) (el := el) (on := on) (key := key)
  have HER := Hid.mk (h.startErr r)
  have HX := Hid.mk (fun W (hW : Bi Z1 W 2 x cx 3 y cy) => hW.cStart k1 l1 r)
  have HY := Hid.mk (fun W cx' (hW : Bi Z1 W 2 x cx' 3 y cy) => hW.dStart k2 l2 r)
  rw [HER.out] at HY
  have HKP : Hid (∀ W c' d', Bi Z1 W 2 x c' 3 y d' → W.heap[w.heap.size]? = some (actB 4 r q n ty ky sd el on key)) := fun W c' d' hW => (back W c' d' hW).2
  have HFIN : Hid (∀ W, Bi Z1 W 2 x (cx.start r) 3 y (cy.start r) → SmQ Z x y b M N (.returned (.bool true)) W) := fun W hW => (h.start r (back W _ _ hW).1).done rfl
  have HG : Hid (Bi Z1 (w.alloc (.cells #[.int .i64 4, .int .i64 r, .int .i64 q, .int .i64 n, .int .i64 ty, .string ky, .int .i64 sd, .string el, .int .i64 on, .string key] 33)) 2 x cx 3 y cy) := hg.bi
  clear h hg back k1 l1 k2 l2 HER
  generalize cx.startErr r = E at *
  go_enter Tryz.func20, Tryz.ntmps20
  go_wp2_with fail
  refine (HX.out _ HG.out).mono ?_
  rintro e w3 ⟨rfl, h3⟩
  obtain ⟨a1, a2, a3, a4, a5, a6, a7, a8, a9⟩ := act_all (HKP.out _ _ _ h3)
  have HB3 := Hid.mk h3
  clear h3 HX HKP HG
  go_wp2_with fail
  refine (HY.out _ _ HB3.out).mono ?_
  rintro e w4 ⟨rfl, h4⟩
  have HF := Hid.mk (HFIN.out _ h4)
  clear h4 HY HB3 HFIN a1 a2 a3 a4 a5 a6 a7 a8 a9
  go_wp2
  go_ret
  simp
  exact HF.out
set_option maxRecDepth 100000 in
set_option maxHeartbeats 4000000 in
theorem Sm.lAlike5 (h : Sm Z w x y b M N c0 cx cy) (hM : M ≤ 131071) (hN : N + 20 ≤ 2097152) (r q n ty : Int) (ky : ByteArray) (sd : Int) (el : ByteArray) (on : Int) (key : ByteArray) :
    Calls Tryz.prog 20 #[.pointer (some ⟨x, 0, none⟩), .pointer (some ⟨y, 0, none⟩), .agg #[.int .i64 5, .int .i64 r, .int .i64 q, .int .i64 n, .int .i64 ty, .string ky, .int .i64 sd, .string el, .int .i64 on, .string key], .bool b] w (SmQ Z x y b M N) := by
  obtain ⟨U, U', k1, l1, k2, l2⟩ := h.lim (by omega) (by omega)
  obtain ⟨Z1, hg, back⟩ := h.act (k := 5) (r := r) (q := q) (n := n) (ty := ty) (ky := ky) (sd := sd) (el := el) (on := on) (key := key)
  have HER := Hid.mk (h.works r)
  have HX := Hid.mk (fun W (hW : Bi Z1 W 2 x cx 3 y cy) => hW.cCompact k1 l1 r)
  have HY := Hid.mk (fun W cx' (hW : Bi Z1 W 2 x cx' 3 y cy) => hW.dCompact k2 l2 r)
  rw [HER.out] at HY
  have HKP : Hid (∀ W c' d', Bi Z1 W 2 x c' 3 y d' → W.heap[w.heap.size]? = some (actB 5 r q n ty ky sd el on key)) := fun W c' d' hW => (back W c' d' hW).2
  have HFIN : Hid (∀ W, Bi Z1 W 2 x (cx.compact r) 3 y (cy.compact r) → SmQ Z x y b M N (.returned (.bool true)) W) := fun W hW => (h.compact r (back W _ _ hW).1).done rfl
  have HG : Hid (Bi Z1 (w.alloc (.cells #[.int .i64 5, .int .i64 r, .int .i64 q, .int .i64 n, .int .i64 ty, .string ky, .int .i64 sd, .string el, .int .i64 on, .string key] 33)) 2 x cx 3 y cy) := hg.bi
  clear h hg back k1 l1 k2 l2 HER
  generalize cx.works r = E at *
  go_enter Tryz.func20, Tryz.ntmps20
  go_wp2_with fail
  refine (HX.out _ HG.out).mono ?_
  rintro e w3 ⟨rfl, h3⟩
  obtain ⟨a1, a2, a3, a4, a5, a6, a7, a8, a9⟩ := act_all (HKP.out _ _ _ h3)
  have HB3 := Hid.mk h3
  clear h3 HX HKP HG
  go_wp2_with fail
  refine (HY.out _ _ HB3.out).mono ?_
  rintro e w4 ⟨rfl, h4⟩
  have HF := Hid.mk (HFIN.out _ h4)
  clear h4 HY HB3 HFIN a1 a2 a3 a4 a5 a6 a7 a8 a9
  go_wp2
  go_ret
  simp
  exact HF.out
set_option maxRecDepth 100000 in
set_option maxHeartbeats 4000000 in
theorem Sm.lAlike6 (h : Sm Z w x y b M N c0 cx cy) (hM : M ≤ 131071) (hN : N + 20 ≤ 2097152) (r q n ty : Int) (ky : ByteArray) (sd : Int) (el : ByteArray) (on : Int) (key : ByteArray) :
    Calls Tryz.prog 20 #[.pointer (some ⟨x, 0, none⟩), .pointer (some ⟨y, 0, none⟩), .agg #[.int .i64 6, .int .i64 r, .int .i64 q, .int .i64 n, .int .i64 ty, .string ky, .int .i64 sd, .string el, .int .i64 on, .string key], .bool b] w (SmQ Z x y b M N) := by
  obtain ⟨U, U', k1, l1, k2, l2⟩ := h.lim (by omega) (by omega)
  obtain ⟨Z1, hg, back⟩ := h.act (k := 6) (r := r) (q := q) (n := n) (ty := ty) (ky := ky) (sd := sd) (el := el) (on := on) (key := key)
  have HER := Hid.mk (h.sendErr r q)
  have HX := Hid.mk (fun W (hW : Bi Z1 W 2 x cx 3 y cy) => hW.cSend k1 l1 r q)
  have HY := Hid.mk (fun W cx' (hW : Bi Z1 W 2 x cx' 3 y cy) => hW.dSend k2 l2 r q)
  rw [HER.out] at HY
  have HKP : Hid (∀ W c' d', Bi Z1 W 2 x c' 3 y d' → W.heap[w.heap.size]? = some (actB 6 r q n ty ky sd el on key)) := fun W c' d' hW => (back W c' d' hW).2
  have HFIN : Hid (∀ W, Bi Z1 W 2 x (cx.send r q) 3 y (cy.send r q) → SmQ Z x y b M N (.returned (.bool true)) W) := fun W hW => (h.send r q (back W _ _ hW).1).done rfl
  have HG : Hid (Bi Z1 (w.alloc (.cells #[.int .i64 6, .int .i64 r, .int .i64 q, .int .i64 n, .int .i64 ty, .string ky, .int .i64 sd, .string el, .int .i64 on, .string key] 33)) 2 x cx 3 y cy) := hg.bi
  clear h hg back k1 l1 k2 l2 HER
  generalize cx.sendErr r q = E at *
  go_enter Tryz.func20, Tryz.ntmps20
  go_wp2_with fail
  refine (HX.out _ HG.out).mono ?_
  rintro e w3 ⟨rfl, h3⟩
  obtain ⟨a1, a2, a3, a4, a5, a6, a7, a8, a9⟩ := act_all (HKP.out _ _ _ h3)
  have HB3 := Hid.mk h3
  clear h3 HX HKP HG
  go_wp2_with fail
  refine (HY.out _ _ HB3.out).mono ?_
  rintro e w4 ⟨rfl, h4⟩
  have HF := Hid.mk (HFIN.out _ h4)
  clear h4 HY HB3 HFIN a1 a2 a3 a4 a5 a6 a7 a8 a9
  go_wp2
  go_ret
  simp
  exact HF.out
end
end Go.Proofs.YtahdlejgjcjeoabGreatDoor

namespace Go.Proofs.YtahdlejgjcjeoabGreatDoor
open Go.RowKit
/-- A slice of these numbers. -/
def IntsAt (w : World) (v : Value) (l : List Nat) : Prop :=
  ∃ ad cap, v = .slice ad l.length cap ∧ (0 < l.length → ∃ b off, ad = some ⟨b, off, none⟩ ∧ b < w.heap.size ∧ ∀ i (h : i < l.length), w.cell? ⟨b, off + i, none⟩ = some (.int .i64 (l[i] : Nat)))
theorem intsAt_owns {w : World} {base : Nat} {e : TypeId} {v : Value} {l : List Nat} (h : w.ownsRow base e 1 v l.length (ints l)) : IntsAt w v l := by
  rcases h.2 with ⟨rfl, h0⟩ | ⟨g, cap, cur, rfl, hg, hb, h1, h2, h3, h4⟩
  · exact ⟨none, 0, by rw [h0], fun h => by omega⟩
  · refine ⟨_, cap, rfl, fun _ => ⟨g, 0, rfl, (Array.getElem?_eq_some_iff.1 hb).1, fun i hi => ?_⟩⟩
    have hx : (ints l)[i]? = some (.int .i64 (l[i] : Nat)) := by simp [ints, hi]
    rw [← h4, List.getElem?_take, if_pos (by omega), Array.getElem?_toList] at hx
    rw [Nat.zero_add]
    simp [World.cell?, hb, hx]
theorem IntsAt.below {w w' : World} {v : Value} {l : List Nat} (h : IntsAt w v l) (hb : Below w.heap.size w w') : IntsAt w' v l := by
  obtain ⟨ad, cap, rfl, H⟩ := h
  refine ⟨ad, cap, rfl, fun h0 => ?_⟩
  obtain ⟨b, off, e, hlt, hc⟩ := H h0
  exact ⟨b, off, e, Nat.lt_of_lt_of_le hlt hb.size, fun i hi => by rw [hb.cell (p := ⟨b, off + i, none⟩) hlt]; exact hc i hi⟩
set_option maxRecDepth 100000 in
theorem sameInts_two (v1 v2 : Value) (l : List Nat) (w : World) (h1 : IntsAt w v1 l) (h2 : IntsAt w v2 l) (hlen : l.length ≤ 281474976710656) :
    Calls Tryz.prog 60 #[v1, v2] w fun e w' => e = .returned (.bool true) ∧ Below w.heap.size w w' := by
  obtain ⟨ad1, cap1, rfl, H1⟩ := h1
  obtain ⟨ad2, cap2, rfl, H2⟩ := h2
  have HR1 := Hid.mk H1
  have HR2 := Hid.mk H2
  clear H1 H2
  go_enter Tryz.func60, Tryz.ntmps60
  go_wp2
  go_loopw [5] (fun j wr => ∃ k : Nat, k ≤ l.length ∧ j = .int .i64 k ∧ Below w.heap.size w wr) (fun j _ => l.length - (intOf j).toNat)
  case atStart => exact ⟨0, Nat.zero_le _, rfl, Below.refl _ _⟩
  case round =>
    obtain ⟨k, hk, rfl, hbw⟩ := hrel
    by_cases hl : k < l.length
    · obtain ⟨b1, off1, rfl, hb1, hrow1⟩ := HR1.out (by omega)
      obtain ⟨b2, off2, rfl, hb2, hrow2⟩ := HR2.out (by omega)
      have c0 := (hbw.cell (p := ⟨b1, off1 + k, none⟩) hb1).trans (hrow1 k hl)
      have d0 := (hbw.cell (p := ⟨b2, off2 + k, none⟩) hb2).trans (hrow2 k hl)
      clear hrow1 hrow2 HR1 HR2
      generalize ((l[k] : Nat) : Int) = x at *
      have q1 : (0 : Int) ≤ (k : Int) := by omega
      have q2 : (k : Int) < (l.length : Int) := by omega
      go_wp2
      go_quiet (fail)
      go_wp2
      exact ⟨⟨k + 1, by omega, by go_num, below_drewN hbw _⟩, by simp [intOf]; omega⟩
    · go_wp2
      go_ret
      exact ⟨rfl, hbw⟩
section
variable {Z : Snap} {w w' : World} {x y M N : Nat} {b : Bool} {c0 cx cy : Clu}
theorem Sm.told (h : Sm Z w x y b M N c0 cx cy) {r : Int} (hw : cx.works r = 0) : tell (cy.rep r.toNat).atoms = tell (cx.rep r.toNat).atoms := by
  obtain ⟨S, s1⟩ := h.s1
  obtain ⟨S', s2⟩ := h.s2
  obtain ⟨U0, o0, l0⟩ := h.k0
  obtain ⟨U1, o1, l1⟩ := h.k1
  obtain ⟨U2, o2, l2⟩ := h.k2
  rw [s1.works] at hw
  obtain ⟨⟨-, h1⟩, h2⟩ := works_zero hw
  rw [s1.tell o0 o1 h1 h2, s2.tell o0 o2 h1 h2]
theorem Sm.stateIs (h : Sm Z w x y b M N c0 cx cy) (r : Int) : (if cy.works r = 0 then tell (cy.rep r.toNat).atoms else []) = if cx.works r = 0 then tell (cx.rep r.toNat).atoms else [] := by
  rw [h.works]
  split
  · rename_i hw
    exact h.told hw
  · rfl
set_option maxRecDepth 100000 in
set_option maxHeartbeats 4000000 in
theorem Sm.lAlike13 (h : Sm Z w x y b M N c0 cx cy) (hM : M ≤ 131071) (hN : N + 20 ≤ 2097152) (r q n ty : Int) (ky : ByteArray) (sd : Int) (el : ByteArray) (on : Int) (key : ByteArray) :
    Calls Tryz.prog 20 #[.pointer (some ⟨x, 0, none⟩), .pointer (some ⟨y, 0, none⟩), .agg #[.int .i64 13, .int .i64 r, .int .i64 q, .int .i64 n, .int .i64 ty, .string ky, .int .i64 sd, .string el, .int .i64 on, .string key], .bool b] w (SmQ Z x y b M N) := by
  obtain ⟨U, U', k1, l1, k2, l2⟩ := h.lim (by omega) (by omega)
  obtain ⟨O, HO⟩ : ∃ O, Hid (O = if cx.works r = 0 then tell (cx.rep r.toNat).atoms else []) := ⟨_, rfl⟩
  have hOl : O.length ≤ 281474976710656 := by
    rw [HO.out]
    split
    · rename_i hw
      have := (ok_tell k1 l1 hw).2
      omega
    · simp
  have HX := Hid.mk (fun W (hW : Bi Z W 2 x cx 3 y cy) => hW.cState k1 r)
  have HY := Hid.mk (fun W (hW : Bi Z W 2 x cx 3 y cy) => hW.swap.cState k2 r)
  rw [h.stateIs r, ← HO.out, h.works] at HY
  rw [← HO.out] at HX
  have HG := Hid.mk h
  clear h k1 l1 k2 l2 HO
  generalize cx.works r = E at *
  go_enter Tryz.func20, Tryz.ntmps20
  go_wp2_with fail
  refine (HX.out _ (HG.out.same (below_alloc (Below.refl _ _) _)).bi).mono ?_
  rintro e w3 ⟨ad1, cp1, out1, rfl, hO1, hS1, hb3⟩
  have hO1 := hO1.out
  subst hO1
  have a1 : w3.cell? ⟨w.heap.size, 1, none⟩ = some (.int .i64 r) := cell_kept ((blk_cell (heap_alloc_new w _) 1).trans rfl) hb3
  have HG3 := Hid.mk ((HG.out.same (below_alloc (Below.refl _ _) _)).same hb3)
  have HS1 := Hid.mk hS1
  clear hS1 HG HX hb3
  go_wp2_with fail
  refine (HY.out _ HG3.out.bi).mono ?_
  rintro e w4 ⟨ad2, cp2, out2, rfl, hO2, hS2, hb4⟩
  have hO2 := hO2.out
  subst hO2
  have HSM := Hid.mk (sameAtoms_any _ _ _ w4 (HS1.out.below hb4) hS2 hOl)
  have HG4 := Hid.mk (HG3.out.same hb4)
  clear hS2 HG3 HY hb4 HS1 a1
  go_wp2_with fail
  refine HSM.out.mono ?_
  rintro e w5 ⟨rfl, hb5⟩
  have HF := Hid.mk ((HG4.out.same hb5).still (e := .returned (.bool true)) rfl)
  clear HSM HG4 hb5
  go_wp2
  go_ret
  simp
  exact HF.out
end
end Go.Proofs.YtahdlejgjcjeoabGreatDoor

namespace Go.Proofs.YtahdlejgjcjeoabGreatDoor
open Go.RowKit
section
variable {Z : Snap} {w w' : World} {x y M N : Nat} {b : Bool} {c0 cx cy : Clu}
theorem readSpec_len {l : List At} {kind : Int} {key : ByteArray} {n : Int} {es : List ByteArray} (h : ReadSpec l kind key n es) (hlen : l.length ≤ 4194304) : es.length ≤ 4194304 := by
  rcases h with ⟨_, _, T, hT, _, rfl⟩ | ⟨_, _, rfl⟩
  · have h1 := valE_length T T kind key
    have h2 := told_len hT
    omega
  · simp
/-- What a Read says. -/
def RdP (c : Clu) (r kind : Int) (key : ByteArray) (n : Int) (es : List ByteArray) : Prop := if c.works r = 0 then ReadSpec (tell (c.rep r.toNat).atoms) kind key n es else n = 0 ∧ es = []
theorem rdP_one {c : Clu} {r kind n m : Int} {key : ByteArray} {es fs : List ByteArray} (h : RdP c r kind key n es) (k : RdP c r kind key m fs) : n = m ∧ es = fs := by
  unfold RdP at h k
  split at h
  · rename_i hw
    rw [if_pos hw] at k
    exact h.unique k
  · rename_i hw
    rw [if_neg hw] at k
    exact ⟨h.1.trans k.1.symm, h.2.trans k.2.symm⟩
theorem rdP_len {c : Clu} {U : List At} {r kind n : Int} {key : ByteArray} {es : List ByteArray} (h : RdP c r kind key n es) (hok : c.ok U N) (hL : Lim U N) : es.length ≤ 4194304 := by
  unfold RdP at h
  split at h
  · rename_i hw
    have := (ok_tell hok hL hw).2
    exact readSpec_len h (by omega)
  · rw [h.2]; simp
theorem Sm.readIs (h : Sm Z w x y b M N c0 cx cy) (r kind : Int) (key : ByteArray) : RdP cy r kind key = RdP cx r kind key := by
  funext n es
  unfold RdP
  rw [h.works]
  by_cases hw : cx.works r = 0
  · rw [if_pos hw, if_pos hw, h.told hw]
  · rw [if_neg hw, if_neg hw]
theorem Sm.rdErr (h : Sm Z w x y b M N c0 cx cy) (r kind : Int) : readErr cy r kind = readErr cx r kind := by
  unfold readErr
  rw [h.works]
  by_cases hw : cx.works r = 0
  · rw [if_neg (fun e => e hw), if_neg (fun e => e hw), h.told hw]
  · rw [if_pos hw, if_pos hw]
set_option maxRecDepth 100000 in
set_option maxHeartbeats 4000000 in
theorem Sm.lAlike14 (h : Sm Z w x y b M N c0 cx cy) (hM : M ≤ 131071) (hN : N + 20 ≤ 2097152) (r q n ty : Int) (ky : ByteArray) (sd : Int) (el : ByteArray) (on : Int) (key : ByteArray) (hkey : key.size ≤ 1099511627776) :
    Calls Tryz.prog 20 #[.pointer (some ⟨x, 0, none⟩), .pointer (some ⟨y, 0, none⟩), .agg #[.int .i64 14, .int .i64 r, .int .i64 q, .int .i64 n, .int .i64 ty, .string ky, .int .i64 sd, .string el, .int .i64 on, .string key], .bool b] w (SmQ Z x y b M N) := by
  obtain ⟨U, U', k1, l1, k2, l2⟩ := h.lim (by omega) (by omega)
  have HX : Hid (∀ W, Bi Z W 2 x cx 3 y cy → Calls Tryz.prog 56 #[.pointer (some ⟨x, 0, none⟩), .int .i64 r, .int .i64 q, .string key] W fun e w' => ∃ m ad cp es, e = .returned (.tuple #[.agg #[.int .i64 m, .slice ad es.length cp], .int .i64 (readErr cx r q)]) ∧ Hid (StrsOf w' (.slice ad es.length cp) es) ∧ Hid (RdP cx r q key m es) ∧ Below W.heap.size W w') := fun W hW => hW.cRead k1 l1 r q key hkey
  have HY : Hid (∀ W, Bi Z W 2 x cx 3 y cy → Calls Tryz.prog 56 #[.pointer (some ⟨y, 0, none⟩), .int .i64 r, .int .i64 q, .string key] W fun e w' => ∃ m ad cp es, e = .returned (.tuple #[.agg #[.int .i64 m, .slice ad es.length cp], .int .i64 (readErr cy r q)]) ∧ Hid (StrsOf w' (.slice ad es.length cp) es) ∧ Hid (RdP cy r q key m es) ∧ Below W.heap.size W w') := fun W hW => hW.swap.cRead k2 l2 r q key hkey
  have HLN : Hid (∀ m es, RdP cx r q key m es → es.length ≤ 4194304) := fun m es hp => rdP_len hp k1 l1
  rw [h.rdErr, h.readIs] at HY
  have HG := Hid.mk h
  clear h k1 l1 k2 l2
  generalize readErr cx r q = E at *
  obtain ⟨Q, HQ⟩ : ∃ Q, Hid (RdP cx r q key = Q) := ⟨_, rfl⟩
  have HU : Hid (∀ n m es fs, Q n es → Q m fs → n = m ∧ es = fs) := by
    rw [← HQ.out]
    exact fun n m es fs h k => rdP_one h k
  rw [HQ.out] at HX HY HLN
  clear HQ
  go_enter Tryz.func20, Tryz.ntmps20
  go_wp2_with fail
  refine (HX.out _ (HG.out.same (below_alloc (Below.refl _ _) _)).bi).mono ?_
  rintro e w3 ⟨n1, ad1, cp1, es1, rfl, hS1, hP1, hb3⟩
  have HBW := heap_alloc_new w (.cells #[.int .i64 14, .int .i64 r, .int .i64 q, .int .i64 n, .int .i64 ty, .string ky, .int .i64 sd, .string el, .int .i64 on, .string key] 33)
  have a1 : w3.cell? ⟨w.heap.size, 1, none⟩ = some (.int .i64 r) := cell_kept ((blk_cell HBW 1).trans rfl) hb3
  have a2 : w3.cell? ⟨w.heap.size, 2, none⟩ = some (.int .i64 q) := cell_kept ((blk_cell HBW 2).trans rfl) hb3
  have a9 : w3.cell? ⟨w.heap.size, 9, none⟩ = some (.string key) := cell_kept ((blk_cell HBW 9).trans rfl) hb3
  have hlt : w.heap.size < w3.heap.size := Nat.lt_of_lt_of_le (blk_lt HBW) hb3.size
  have HG3 := Hid.mk ((HG.out.same (below_alloc (Below.refl _ _) _)).same hb3)
  clear HG HX hb3 HBW
  go_wp2_with fail
  have HV := Hid.mk (heap_alloc_new w3 (.cells #[.int .i64 n1, .slice ad1 es1.length cp1] 129))
  refine (HY.out _ (HG3.out.same (below_alloc (Below.refl _ _) _)).bi).mono ?_
  rintro e w4 ⟨n2, ad2, cp2, es2, rfl, hS2, hP2, hb4⟩
  obtain ⟨e1, e2⟩ := HU.out _ _ _ _ hP1.out hP2.out
  subst e1 e2
  have hle := HLN.out _ _ hP1.out
  have v0 : w4.cell? ⟨w3.heap.size, 0, none⟩ = some (.int .i64 n1) := cell_kept ((blk_cell HV.out 0).trans rfl) hb4
  have v1 : w4.cell? ⟨w3.heap.size, 1, none⟩ = some (.slice ad1 es1.length cp1) := cell_kept ((blk_cell HV.out 1).trans rfl) hb4
  have hl3 : w3.heap.size < w4.heap.size := Nat.lt_of_lt_of_le (blk_lt HV.out) hb4.size
  have HB34 : Hid (Below w3.heap.size w3 w4) := (below_alloc (Below.refl _ _) _).trans (hb4.mono (by simp))
  have HSV : Hid (∀ W, Below w4.heap.size w4 W → Calls Tryz.prog 58 #[.agg #[.int .i64 n1, .slice ad1 es1.length cp1], .agg #[.int .i64 n1, .slice ad2 es1.length cp2]] W fun e w' => e = .returned (.bool true) ∧ Below W.heap.size W w') := fun W hW => sameValues_any n1 _ _ es1 W (hS1.out.below (HB34.out.trans (hW.mono HB34.out.size))) (hS2.out.below hW) (by omega)
  have HG4 := Hid.mk (HG3.out.same HB34.out)
  clear hS1 hS2 hP1 hP2 HG3 HY HU HLN hb4 HV a1 a2 a9 HB34
  go_wp2_with fail
  refine (HSV.out _ (below_alloc (Below.refl _ _) _)).mono ?_
  rintro e w5 ⟨rfl, hb5⟩
  have HF := Hid.mk (((HG4.out.same (below_alloc (Below.refl _ _) _)).same hb5).still (e := .returned (.bool true)) rfl)
  clear HSV HG4 hb5 v0 v1
  go_wp2
  go_ret
  simp
  exact HF.out
theorem Sm.repIs (h : Sm Z w x y b M N c0 cx cy) (r : Int) : (cy.repAt r).down = (cx.repAt r).down ∧ (cy.repAt r).num = (cx.repAt r).num ∧ (cy.repAt r).base = (cx.repAt r).base ∧ (cy.repAt r).acked = (cx.repAt r).acked ∧ (cy.repAt r).frames = (cx.repAt r).frames ∧ cy.thereErr r = cx.thereErr r ∧ (b = true → (cy.repAt r).weight ≤ (cx.repAt r).weight) ∧ (cx.repAt r).acked.length ≤ 6 := by
  obtain ⟨S, s1⟩ := h.s1
  obtain ⟨S', s2⟩ := h.s2
  obtain ⟨U1, o1, l1⟩ := h.k1
  unfold Clu.repAt Clu.thereErr
  rw [s1.there, s2.there]
  cases ht : c0.there r
  · simp
  · obtain ⟨h0, hr⟩ := there_lt ht
    have r1 := s1.reps _ hr
    have r2 := s2.reps _ hr
    have hl := (o1.rep (r := r.toNat) (by rw [s1.len]; exact hr)).ackL
    have h6 := o1.n6
    simp only [if_true]
    refine ⟨r2.down.trans r1.down.symm, r2.num.trans r1.num.symm, r2.base.trans r1.base.symm, r2.acked.trans r1.acked.symm, r2.frames.trans r1.frames.symm, trivial, fun e => ?_, by omega⟩
    rw [h.bo e]
    exact r2.weight
set_option maxRecDepth 100000 in
set_option maxHeartbeats 4000000 in
theorem Sm.lAlike17 (h : Sm Z w x y b M N c0 cx cy) (hM : M ≤ 131071) (hN : N + 20 ≤ 2097152) (r q n ty : Int) (ky : ByteArray) (sd : Int) (el : ByteArray) (on : Int) (key : ByteArray) :
    Calls Tryz.prog 20 #[.pointer (some ⟨x, 0, none⟩), .pointer (some ⟨y, 0, none⟩), .agg #[.int .i64 17, .int .i64 r, .int .i64 q, .int .i64 n, .int .i64 ty, .string ky, .int .i64 sd, .string el, .int .i64 on, .string key], .bool b] w (SmQ Z x y b M N) := by
  obtain ⟨U, U', k1, l1, k2, l2⟩ := h.lim (by omega) (by omega)
  obtain ⟨i1, i2, i3, i4, i5, i6, i7, i8⟩ := h.repIs r
  have HX := Hid.mk (fun W (hW : Bi Z W 2 x cx 3 y cy) => hW.cReplica k1 r)
  have HY := Hid.mk (fun W (hW : Bi Z W 2 x cx 3 y cy) => hW.swap.cReplica k2 r)
  rw [i1, i2, i3, i4, i5, i6] at HY
  have HWT : Hid (b = true → ((cy.repAt r).weight : Int) ≤ ((cx.repAt r).weight : Int)) := fun e => by have := i7 e; omega
  have HG := Hid.mk h
  clear h k1 l1 k2 l2 i1 i2 i3 i4 i5 i6 i7
  generalize (cx.repAt r).down = dn at *
  generalize (cx.repAt r).num = nu at *
  generalize (cx.repAt r).base = ba at *
  generalize (cx.repAt r).acked = ak at *
  generalize (cx.repAt r).frames = fr at *
  generalize cx.thereErr r = E at *
  generalize ((cx.repAt r).weight : Int) = wx at *
  generalize ((cy.repAt r).weight : Int) = wy at *
  go_enter Tryz.func20, Tryz.ntmps20
  go_wp2_with fail
  refine (HX.out _ (HG.out.same (below_alloc (Below.refl _ _) _)).bi).mono ?_
  rintro e w3 ⟨ad1, cp1, rfl, hS1, hb3⟩
  have HBW := heap_alloc_new w (.cells #[.int .i64 17, .int .i64 r, .int .i64 q, .int .i64 n, .int .i64 ty, .string ky, .int .i64 sd, .string el, .int .i64 on, .string key] 33)
  have a1 : w3.cell? ⟨w.heap.size, 1, none⟩ = some (.int .i64 r) := cell_kept ((blk_cell HBW 1).trans rfl) hb3
  have hlt : w.heap.size < w3.heap.size := Nat.lt_of_lt_of_le (blk_lt HBW) hb3.size
  have HG3 := Hid.mk ((HG.out.same (below_alloc (Below.refl _ _) _)).same hb3)
  have HS1 := Hid.mk (intsAt_owns hS1)
  clear HG HX hb3 HBW hS1
  go_wp2_with fail
  have HV := Hid.mk (heap_alloc_new w3 (.cells #[.bool !dn, .int .i64 nu, .int .i64 ba, .slice ad1 ak.length cp1, .int .i64 fr, .int .i64 wx] 134))
  refine (HY.out _ (HG3.out.same (below_alloc (Below.refl _ _) _)).bi).mono ?_
  rintro e w4 ⟨ad2, cp2, rfl, hS2, hb4⟩
  have v0 : w4.cell? ⟨w3.heap.size, 0, none⟩ = some (.bool !dn) := cell_kept ((blk_cell HV.out 0).trans rfl) hb4
  have v1 : w4.cell? ⟨w3.heap.size, 1, none⟩ = some (.int .i64 nu) := cell_kept ((blk_cell HV.out 1).trans rfl) hb4
  have v2 : w4.cell? ⟨w3.heap.size, 2, none⟩ = some (.int .i64 ba) := cell_kept ((blk_cell HV.out 2).trans rfl) hb4
  have v3 : w4.cell? ⟨w3.heap.size, 3, none⟩ = some (.slice ad1 ak.length cp1) := cell_kept ((blk_cell HV.out 3).trans rfl) hb4
  have v4 : w4.cell? ⟨w3.heap.size, 4, none⟩ = some (.int .i64 fr) := cell_kept ((blk_cell HV.out 4).trans rfl) hb4
  have v5 : w4.cell? ⟨w3.heap.size, 5, none⟩ = some (.int .i64 wx) := cell_kept ((blk_cell HV.out 5).trans rfl) hb4
  have hl3 : w3.heap.size < w4.heap.size := Nat.lt_of_lt_of_le (blk_lt HV.out) hb4.size
  have HB34 : Hid (Below w3.heap.size w3 w4) := (below_alloc (Below.refl _ _) _).trans (hb4.mono (by simp))
  have HSI : Hid (∀ W, Below w4.heap.size w4 W → Calls Tryz.prog 60 #[.slice ad1 ak.length cp1, .slice ad2 ak.length cp2] W fun e w' => e = .returned (.bool true) ∧ Below W.heap.size W w') := fun W hW => sameInts_two _ _ ak W (HS1.out.below (HB34.out.trans (hW.mono HB34.out.size))) ((intsAt_owns hS2).below hW) (by omega)
  have HG4 := Hid.mk (HG3.out.same HB34.out)
  clear HS1 hS2 HG3 HY hb4 HV a1 HB34
  go_wp2_with fail
  have HV2 := Hid.mk (heap_alloc_new w4 (.cells #[.bool !dn, .int .i64 nu, .int .i64 ba, .slice ad2 ak.length cp2, .int .i64 fr, .int .i64 wy] 134))
  refine (HSI.out _ (below_alloc (Below.refl _ _) _)).mono ?_
  rintro e w5 ⟨rfl, hb5⟩
  have HB45 : Hid (Below w4.heap.size w4 w5) := (below_alloc (Below.refl _ _) _).trans (hb5.mono (by simp))
  replace v0 := cell_kept v0 HB45.out
  replace v1 := cell_kept v1 HB45.out
  replace v2 := cell_kept v2 HB45.out
  replace v3 := cell_kept v3 HB45.out
  replace v4 := cell_kept v4 HB45.out
  replace v5 := cell_kept v5 HB45.out
  have u0 : w5.cell? ⟨w4.heap.size, 0, none⟩ = some (.bool !dn) := cell_kept ((blk_cell HV2.out 0).trans rfl) hb5
  have u1 : w5.cell? ⟨w4.heap.size, 1, none⟩ = some (.int .i64 nu) := cell_kept ((blk_cell HV2.out 1).trans rfl) hb5
  have u2 : w5.cell? ⟨w4.heap.size, 2, none⟩ = some (.int .i64 ba) := cell_kept ((blk_cell HV2.out 2).trans rfl) hb5
  have u3 : w5.cell? ⟨w4.heap.size, 3, none⟩ = some (.slice ad2 ak.length cp2) := cell_kept ((blk_cell HV2.out 3).trans rfl) hb5
  have u4 : w5.cell? ⟨w4.heap.size, 4, none⟩ = some (.int .i64 fr) := cell_kept ((blk_cell HV2.out 4).trans rfl) hb5
  have u5 : w5.cell? ⟨w4.heap.size, 5, none⟩ = some (.int .i64 wy) := cell_kept ((blk_cell HV2.out 5).trans rfl) hb5
  have HF := Hid.mk ((HG4.out.same HB45.out).still (e := .returned (.bool true)) rfl)
  clear HSI HG4 hb5 HV2 HB45
  cases b with
  | false =>
    go_wp2
    go_ret
    exact HF.out
  | true =>
    have hwt : wy ≤ wx := HWT.out rfl
    clear HWT
    go_wp2
    go_ret
    exact HF.out
end
end Go.Proofs.YtahdlejgjcjeoabGreatDoor
