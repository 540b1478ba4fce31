/- Lists of edges of one's own; copy. -/
import Derived.Test.YtahdlejgjcjeoaaGreatDoorP42
import Derived.Test.YtahdlejgjcjeoaaGreatDoorP33
namespace Go.Proofs.YtahdlejgjcjeoaaGreatDoor
open Go.RowKit
section
variable {Z w w' : World} {W x y B M N t : Nat} {U : List At} {c cR cP : Clu}

set_option maxRecDepth 100000 in
set_option maxHeartbeats 4000000 in
theorem Gm.lAct3 (h : Gm Z w W x y B M c) (hok : c.ok U N) (hL : Lim U N) (r q n ty : Int) (ky : ByteArray) (sd : Int) (el : ByteArray) (on : Int) (key : ByteArray) :
    Calls Tryz.prog 13 #[.pointer (some ⟨W, 0, none⟩), .agg #[.int .i64 3, .int .i64 r, .int .i64 q, .int .i64 n, .int .i64 ty, .string ky, .int .i64 sd, .string el, .int .i64 on, .string key]] w fun e w' => e = .returned (.bool true) ∧ Gm Z w' W x y B M (c.crash r) := by
  have HG := Hid.mk h
  have c0 := h.cell0
  have c1 := h.cell1
  have hlt : W < w.heap.size := by obtain ⟨col, KR, KP, g⟩ := h; exact blk_lt g.wb
  have HK := Hid.mk hok
  have HLM := Hid.mk hL
  have HT : Hid (∀ W', W'.heap = (w.alloc (.cells #[.int .i64 3, .int .i64 r, .int .i64 q, .int .i64 n, .int .i64 ty, .string ky, .int .i64 sd, .string el, .int .i64 on, .string key] 31)).heap → Below w.heap.size w W' → Gt Z W' W x y B M w.heap.size (actB 3 r q n ty ky sd el on key) c c) := fun W' he hb => HG.out.withT hb (by rw [he]; exact heap_alloc_new w _)
  clear h hok hL
  go_enter Tryz.func13, Tryz.ntmps13
  go_wp2_with fail
  go_region_law (first | (go_simp; go_at_call 29; refine ((HT.out _ (by rfl) (by first | exact below_alloc (Below.refl _ _) _ | exact (below_alloc (Below.refl _ _) _).drew)).pCrash HK.out HLM.out r).mono ?_; rintro e w3 ⟨rfl, h3⟩; have H3 := Hid.mk h3; have c1 := h3.cell1; have d1 := blk_cell h3.blk 1; simp [] at d1; clear h3) | fail)
  all_goals
    go_wp2_with fail
    go_region_law (first | (go_simp; go_at_call 30; refine ((by first | exact H3.out | exact H3.out.same (Below.refl _ _).drew : Gt Z _ W x y B M w.heap.size _ c _).dCrash HK.out HLM.out r).mono ?_; rintro e w4 ⟨rfl, h4⟩; have H4 := Hid.mk h4; clear h4) | fail)
    all_goals
      generalize c.works r = E at *
      go_wp2
      go_ret
      exact ⟨by simp, H4.out.gm⟩

set_option maxRecDepth 100000 in
set_option maxHeartbeats 4000000 in
theorem Gm.lAct4 (h : Gm Z w W x y B M c) (hok : c.ok U N) (hL : Lim U N) (r q n ty : Int) (ky : ByteArray) (sd : Int) (el : ByteArray) (on : Int) (key : ByteArray) :
    Calls Tryz.prog 13 #[.pointer (some ⟨W, 0, none⟩), .agg #[.int .i64 4, .int .i64 r, .int .i64 q, .int .i64 n, .int .i64 ty, .string ky, .int .i64 sd, .string el, .int .i64 on, .string key]] w fun e w' => e = .returned (.bool true) ∧ Gm Z w' W x y B M (c.start r) := by
  have HG := Hid.mk h
  have c0 := h.cell0
  have c1 := h.cell1
  have hlt : W < w.heap.size := by obtain ⟨col, KR, KP, g⟩ := h; exact blk_lt g.wb
  have HK := Hid.mk hok
  have HLM := Hid.mk hL
  have HT : Hid (∀ W', W'.heap = (w.alloc (.cells #[.int .i64 4, .int .i64 r, .int .i64 q, .int .i64 n, .int .i64 ty, .string ky, .int .i64 sd, .string el, .int .i64 on, .string key] 31)).heap → Below w.heap.size w W' → Gt Z W' W x y B M w.heap.size (actB 4 r q n ty ky sd el on key) c c) := fun W' he hb => HG.out.withT hb (by rw [he]; exact heap_alloc_new w _)
  clear h hok hL
  go_enter Tryz.func13, Tryz.ntmps13
  go_wp2_with fail
  go_region_law (first | (go_simp; go_at_call 19; refine ((HT.out _ (by rfl) (by first | exact below_alloc (Below.refl _ _) _ | exact (below_alloc (Below.refl _ _) _).drew)).pStart HK.out HLM.out r).mono ?_; rintro e w3 ⟨rfl, h3⟩; have H3 := Hid.mk h3; have c1 := h3.cell1; have d1 := blk_cell h3.blk 1; simp [] at d1; clear h3) | fail)
  all_goals
    go_wp2_with fail
    go_region_law (first | (go_simp; go_at_call 31; refine ((by first | exact H3.out | exact H3.out.same (Below.refl _ _).drew : Gt Z _ W x y B M w.heap.size _ c _).dStart HK.out HLM.out r).mono ?_; rintro e w4 ⟨rfl, h4⟩; have H4 := Hid.mk h4; clear h4) | fail)
    all_goals
      generalize c.startErr r = E at *
      go_wp2
      go_ret
      exact ⟨by simp, H4.out.gm⟩

set_option maxRecDepth 100000 in
set_option maxHeartbeats 4000000 in
theorem Gm.lAct5 (h : Gm Z w W x y B M c) (hok : c.ok U N) (hL : Lim U N) (r q n ty : Int) (ky : ByteArray) (sd : Int) (el : ByteArray) (on : Int) (key : ByteArray) :
    Calls Tryz.prog 13 #[.pointer (some ⟨W, 0, none⟩), .agg #[.int .i64 5, .int .i64 r, .int .i64 q, .int .i64 n, .int .i64 ty, .string ky, .int .i64 sd, .string el, .int .i64 on, .string key]] w fun e w' => e = .returned (.bool true) ∧ Gm Z w' W x y B M (c.compact r) := by
  have HG := Hid.mk h
  have c0 := h.cell0
  have c1 := h.cell1
  have hlt : W < w.heap.size := by obtain ⟨col, KR, KP, g⟩ := h; exact blk_lt g.wb
  have HK := Hid.mk hok
  have HLM := Hid.mk hL
  have HT : Hid (∀ W', W'.heap = (w.alloc (.cells #[.int .i64 5, .int .i64 r, .int .i64 q, .int .i64 n, .int .i64 ty, .string ky, .int .i64 sd, .string el, .int .i64 on, .string key] 31)).heap → Below w.heap.size w W' → Gt Z W' W x y B M w.heap.size (actB 5 r q n ty ky sd el on key) c c) := fun W' he hb => HG.out.withT hb (by rw [he]; exact heap_alloc_new w _)
  clear h hok hL
  go_enter Tryz.func13, Tryz.ntmps13
  go_wp2_with fail
  go_region_law (first | (go_simp; go_at_call 32; refine ((HT.out _ (by rfl) (by first | exact below_alloc (Below.refl _ _) _ | exact (below_alloc (Below.refl _ _) _).drew)).pCompact HK.out HLM.out r).mono ?_; rintro e w3 ⟨rfl, h3⟩; have H3 := Hid.mk h3; have c1 := h3.cell1; have d1 := blk_cell h3.blk 1; simp [] at d1; clear h3) | fail)
  all_goals
    go_wp2_with fail
    go_region_law (first | (go_simp; go_at_call 33; refine ((by first | exact H3.out | exact H3.out.same (Below.refl _ _).drew : Gt Z _ W x y B M w.heap.size _ c _).dCompact HK.out HLM.out r).mono ?_; rintro e w4 ⟨rfl, h4⟩; have H4 := Hid.mk h4; clear h4) | fail)
    all_goals
      generalize c.works r = E at *
      go_wp2
      go_ret
      exact ⟨by simp, H4.out.gm⟩
end
end Go.Proofs.YtahdlejgjcjeoaaGreatDoor

namespace Go.Proofs.YtahdlejgjcjeoaaGreatDoor
open Go.RowKit
section
variable {Z w w' : World} {W x y B M N t : Nat} {U : List At} {c cR cP : Clu}

set_option maxRecDepth 100000 in
set_option maxHeartbeats 4000000 in
theorem Gm.lActNet (h : Gm Z w W x y B M c) (hok : c.ok U N) (hL : Lim U N) (hnet : c.net = []) (hM : M ≤ 15000000) (k r q n ty : Int) (ky : ByteArray) (sd : Int) (el : ByteArray) (on : Int) (key : ByteArray) (hn0 : -9223372036854775808 ≤ n) (hn1 : n ≤ 9223372036854775807) (hk : k = 7 ∨ k = 8 ∨ k = 9 ∨ k = 10 ∨ k = 12) :
    Calls Tryz.prog 13 #[.pointer (some ⟨W, 0, none⟩), .agg #[.int .i64 k, .int .i64 r, .int .i64 q, .int .i64 n, .int .i64 ty, .string ky, .int .i64 sd, .string el, .int .i64 on, .string key]] w fun e w' => e = .returned (.bool true) ∧ Gm Z w' W x y B (M + 36) c := by
  have HNet := Hid.mk (fun W' (hg : Gm Z W' W x y B M c) => hg.lNet hok hL hnet hM ⟨k, r, q, n, ⟨ty, ky, sd, el, on⟩, key⟩ hn0 hn1)
  have HG := Hid.mk h
  unfold ActV.val at HNet
  simp only at HNet
  clear h hok hL hnet hn0 hn1
  rcases hk with rfl | rfl | rfl | rfl | rfl
  all_goals
    go_enter Tryz.func13, Tryz.ntmps13
    go_wp2_with fail
    refine (HNet.out _ (HG.out.same (by first | exact below_alloc (Below.refl _ _) _ | exact (below_alloc (Below.refl _ _) _).drew))).mono ?_
    rintro e w3 ⟨rfl, h3⟩
    have H3 := Hid.mk h3
    clear h3 HNet
    go_wp2
    go_ret
    exact ⟨rfl, H3.out⟩

set_option maxRecDepth 100000 in
set_option maxHeartbeats 4000000 in
theorem Gm.lActAsks (h : Gm Z w W x y B M c) (hok : c.ok U N) (hL : Lim U N) (hM : M ≤ 15000000) (k r q n ty : Int) (ky : ByteArray) (sd : Int) (el : ByteArray) (on : Int) (key : ByteArray) (hky : key.size ≤ 1099511627776) (hk : k = 11 ∨ k = 13 ∨ k = 14 ∨ k = 15 ∨ k = 16 ∨ k = 17) :
    Calls Tryz.prog 13 #[.pointer (some ⟨W, 0, none⟩), .agg #[.int .i64 k, .int .i64 r, .int .i64 q, .int .i64 n, .int .i64 ty, .string ky, .int .i64 sd, .string el, .int .i64 on, .string key]] w fun e w' => e = .returned (.bool true) ∧ Gm Z w' W x y B (M + 36) c := by
  have HAsk := Hid.mk (fun W' (hg : Gm Z W' W x y B M c) => hg.lAsks hok hL hM ⟨k, r, q, n, ⟨ty, ky, sd, el, on⟩, key⟩ hky)
  have HG := Hid.mk h
  unfold ActV.val at HAsk
  simp only at HAsk
  clear h hok hL hky
  rcases hk with rfl | rfl | rfl | rfl | rfl | rfl
  all_goals
    go_enter Tryz.func13, Tryz.ntmps13
    go_wp2_with fail
    refine (HAsk.out _ (HG.out.same (by first | exact below_alloc (Below.refl _ _) _ | exact (below_alloc (Below.refl _ _) _).drew))).mono ?_
    rintro e w3 ⟨rfl, h3⟩
    have H3 := Hid.mk h3
    clear h3 HAsk
    go_wp2
    go_ret
    exact ⟨rfl, H3.out⟩

set_option maxRecDepth 100000 in
set_option maxHeartbeats 4000000 in
theorem Gm.lActOth (h : Gm Z w W x y B M c) (k r q n ty : Int) (ky : ByteArray) (sd : Int) (el : ByteArray) (on : Int) (key : ByteArray) (hk : k ≠ 1 ∧ k ≠ 2 ∧ k ≠ 3 ∧ k ≠ 4 ∧ k ≠ 5 ∧ k ≠ 6 ∧ k ≠ 7 ∧ k ≠ 8 ∧ k ≠ 9 ∧ k ≠ 10 ∧ k ≠ 11 ∧ k ≠ 12 ∧ k ≠ 13 ∧ k ≠ 14 ∧ k ≠ 15 ∧ k ≠ 16 ∧ k ≠ 17) :
    Calls Tryz.prog 13 #[.pointer (some ⟨W, 0, none⟩), .agg #[.int .i64 k, .int .i64 r, .int .i64 q, .int .i64 n, .int .i64 ty, .string ky, .int .i64 sd, .string el, .int .i64 on, .string key]] w fun e w' => e = .returned (.bool true) ∧ Gm Z w' W x y B (M + 36) c := by
  obtain ⟨k1, k2, k3, k4, k5, k6, k7, k8, k9, k10, k11, k12, k13, k14, k15, k16, k17⟩ := hk
  have HG := Hid.mk h
  clear h
  go_enter Tryz.func13, Tryz.ntmps13
  go_wp2
  go_ret
  exact ⟨rfl, (HG.out.same (by first | exact below_alloc (Below.refl _ _) _ | exact (below_alloc (Below.refl _ _) _).drew)).mono (by omega)⟩
end
end Go.Proofs.YtahdlejgjcjeoaaGreatDoor

namespace Go.Proofs.YtahdlejgjcjeoaaGreatDoor
open Go.RowKit
/-- The cluster after an act that sends nothing, while nothing is in flight. -/
def Clu.acted (c : Clu) (a : ActV) : Clu :=
  if a.k = 1 then c.update a.r a.op else if a.k = 2 then c.tornOp a.r a.op a.n else if a.k = 3 then c.crash a.r else if a.k = 4 then c.start a.r else if a.k = 5 then c.compact a.r else c
theorem acted_net {c : Clu} (a : ActV) (h : c.net = []) : (c.acted a).net = [] := by
  unfold Clu.acted
  split
  · unfold Clu.update; split <;> simpa [Clu.setRep] using h
  split
  · unfold Clu.tornOp; split <;> simpa [Clu.setRep] using h
  split
  · unfold Clu.crash; split <;> simpa [Clu.setRep] using h
  split
  · unfold Clu.start; split <;> simpa [Clu.setRep] using h
  split
  · unfold Clu.compact; split <;> simpa [Clu.setRep] using h
  · exact h
theorem acted_grows {c : Clu} {U : List At} {N : Nat} (a : ActV) (h : c.ok U N) : (c.acted a).grows U N := by
  unfold Clu.acted
  split
  · exact h.update _ _
  split
  · exact h.tornOp _ _ _
  split
  · exact ((h.crash _).later (by omega)).grows
  split
  · exact ((h.start _).later (by omega)).grows
  split
  · exact ((h.compact _).later (by omega)).grows
  · exact (h.later (by omega)).grows
section
variable {Z w w' : World} {W x y B M N : Nat} {U : List At} {c : Clu}
theorem Gm.lAct (h : Gm Z w W x y B M c) (hok : c.ok U N) (hL : Lim U N) (hnet : c.net = []) (hM : M ≤ 15000000) (a : ActV) (hf : a.fit) (h6 : a.k ≠ 6) :
    Calls Tryz.prog 13 #[.pointer (some ⟨W, 0, none⟩), a.val] w fun e w' => e = .returned (.bool true) ∧ Gm Z w' W x y B (M + 36) (c.acted a) := by
  obtain ⟨k, r, q, n, ⟨ty, ky, sd, el, on⟩, key⟩ := a
  have hop := hf.op
  have hn0 := hf.n0
  have hn1 := hf.n1
  have hky := hf.key
  simp only at hop hn0 hn1 hky h6
  have up : ∀ {e : Ending} {w' : World} {c' : Clu}, e = .returned (.bool true) ∧ Gm Z w' W x y B M c' → e = .returned (.bool true) ∧ Gm Z w' W x y B (M + 36) c' := fun ⟨h1, h2⟩ => ⟨h1, h2.mono (by omega)⟩
  unfold ActV.val
  simp only
  by_cases k1 : k = 1
  · subst k1
    rw [show c.acted ⟨1, r, q, n, ⟨ty, ky, sd, el, on⟩, key⟩ = c.update r ⟨ty, ky, sd, el, on⟩ by simp [Clu.acted]]
    exact (h.lAct1 hok hL r q n ty ky sd el on key hop).mono fun e w' => up
  by_cases k2 : k = 2
  · subst k2
    rw [show c.acted ⟨2, r, q, n, ⟨ty, ky, sd, el, on⟩, key⟩ = c.tornOp r ⟨ty, ky, sd, el, on⟩ n by simp [Clu.acted]]
    exact (h.lAct2 hok hL r q n ty ky sd el on key hop hn0 hn1).mono fun e w' => up
  by_cases k3 : k = 3
  · subst k3
    rw [show c.acted ⟨3, r, q, n, ⟨ty, ky, sd, el, on⟩, key⟩ = c.crash r by simp [Clu.acted]]
    exact (h.lAct3 hok hL r q n ty ky sd el on key).mono fun e w' => up
  by_cases k4 : k = 4
  · subst k4
    rw [show c.acted ⟨4, r, q, n, ⟨ty, ky, sd, el, on⟩, key⟩ = c.start r by simp [Clu.acted]]
    exact (h.lAct4 hok hL r q n ty ky sd el on key).mono fun e w' => up
  by_cases k5 : k = 5
  · subst k5
    rw [show c.acted ⟨5, r, q, n, ⟨ty, ky, sd, el, on⟩, key⟩ = c.compact r by simp [Clu.acted]]
    exact (h.lAct5 hok hL r q n ty ky sd el on key).mono fun e w' => up
  rw [show c.acted ⟨k, r, q, n, ⟨ty, ky, sd, el, on⟩, key⟩ = c by simp [Clu.acted, k1, k2, k3, k4, k5]]
  by_cases hn : k = 7 ∨ k = 8 ∨ k = 9 ∨ k = 10 ∨ k = 12
  · exact h.lActNet hok hL hnet hM k r q n ty ky sd el on key hn0 hn1 hn
  by_cases ha : k = 11 ∨ k = 13 ∨ k = 14 ∨ k = 15 ∨ k = 16 ∨ k = 17
  · exact h.lActAsks hok hL hM k r q n ty ky sd el on key hky ha
  exact h.lActOth k r q n ty ky sd el on key (by omega)
end
end Go.Proofs.YtahdlejgjcjeoaaGreatDoor

namespace Go.Proofs.YtahdlejgjcjeoaaGreatDoor
open Go.RowKit

section
variable {w0 w : World} {B0 W x y R n B rm M : Nat} {bp rr : Bool} {f : Nat → Nat → Bool} {col : Col} {K : RefC}
end
end Go.Proofs.YtahdlejgjcjeoaaGreatDoor

namespace Go.Proofs.YtahdlejgjcjeoaaGreatDoor
open Go.RowKit

def edC (p : Int × Int) : List Value := [.int .i64 p.1, .int .i64 p.2]
theorem edC_len (p : Int × Int) : (edC p).length = 2 := rfl
/-- A row of edges that fills its block. -/
def InAt (w : World) (g : Nat) (l : List (Int × Int)) : Prop := w.heap[g]? = some (.cells (l.flatMap edC).toArray 53 (0, 0))
theorem ed_get (l : List (Int × Int)) (k j : Nat) (h : k < l.length) (hj : j < 2) : (l.flatMap edC)[k * 2 + j]? = (edC l[k])[j]? := flatMap_get edC 2 edC_len l k j h hj
theorem ed_len (l : List (Int × Int)) : (l.flatMap edC).length = l.length * 2 := flatMap_len edC 2 edC_len l
theorem InAt.cells {w : World} {g : Nat} {l : List (Int × Int)} (h : InAt w g l) (k : Nat) (hk : k < l.length) : w.cell? ⟨g, k * 2, none⟩ = some (.int .i64 l[k].1) ∧ w.cell? ⟨g, k * 2 + 1, none⟩ = some (.int .i64 l[k].2) ∧ ∀ j, w.frozen? ⟨g, j, none⟩ = false := by
  have h0 := ed_get l k 0 hk (by omega)
  have h1 := ed_get l k 1 hk (by omega)
  refine ⟨?_, ?_, fun j => blk_thaw h j⟩
  · rw [blk_cell h, List.getElem?_toArray, ← Nat.add_zero (k * 2), h0]
    rfl
  · rw [blk_cell h, List.getElem?_toArray, h1]
    rfl
theorem InAt.set {w : World} {g : Nat} {l : List (Int × Int)} (h : InAt w g l) (k : Nat) (hk : k < l.length) (p : Int × Int) : InAt ((w.setCell ⟨g, k * 2, none⟩ (.int .i64 p.1)).setCell ⟨g, k * 2 + 1, none⟩ (.int .i64 p.2)) g (l.set k p) := by
  have := heap_setCell_at (o := k * 2 + 1) (heap_setCell_at (o := k * 2) h (.int .i64 p.1)) (.int .i64 p.2)
  unfold InAt
  rw [this]
  congr 2
  apply Array.ext_getElem?
  intro t
  rw [Array.getElem?_setIfInBounds, Array.getElem?_setIfInBounds, List.getElem?_toArray, List.getElem?_toArray]
  have hs1 : (l.flatMap edC).length = l.length * 2 := ed_len l
  have hs2 : ((l.set k p).flatMap edC).length = l.length * 2 := by rw [ed_len]; simp
  have hz : ((l.flatMap edC).toArray.setIfInBounds (k * 2) (Value.int .i64 p.1)).size = l.length * 2 := by simp [hs1]
  have hz0 : (l.flatMap edC).toArray.size = l.length * 2 := by simp [hs1]
  by_cases ht : t < l.length * 2
  · have hq : t / 2 < (l.set k p).length := by simp; omega
    have hg := ed_get (l.set k p) (t / 2) (t % 2) hq (Nat.mod_lt _ (by decide))
    rw [show t / 2 * 2 + t % 2 = t by omega] at hg
    rw [hg]
    by_cases e1 : k * 2 + 1 = t
    · rw [if_pos e1, if_pos (by omega)]
      have h1 : t / 2 = k := by omega
      have h2 : t % 2 = 1 := by omega
      rw [h2]
      simp [h1, edC]
    · rw [if_neg e1]
      by_cases e2 : k * 2 = t
      · rw [if_pos e2, if_pos (by omega)]
        have h1 : t / 2 = k := by omega
        have h2 : t % 2 = 0 := by omega
        rw [h2]
        simp [h1, edC]
      · rw [if_neg e2]
        have h1 : k ≠ t / 2 := by omega
        have hg2 := ed_get l (t / 2) (t % 2) (by omega) (Nat.mod_lt _ (by decide))
        rw [show t / 2 * 2 + t % 2 = t by omega] at hg2
        rw [hg2]
        simp [h1]
  · rw [if_neg (by omega), if_neg (by omega), List.getElem?_eq_none (by omega), List.getElem?_eq_none (by omega)]
theorem InAt.below {w w' : World} {g : Nat} {l : List (Int × Int)} (h : InAt w g l) (hb : Below w.heap.size w w') : InAt w' g l := (hb.block g (blk_lt h)).trans h
/-- The first n of them, as a slice. -/
theorem InAt.edges {w : World} {g cap : Nat} {l es : List (Int × Int)} (h : InAt w g l) (hl : es.length ≤ l.length) (he : l.take es.length = es) (hc : es.length ≤ cap) : EdgesOf w (.slice (some ⟨g, 0, none⟩) es.length cap) es := by
  refine ⟨_, cap, rfl, hc, fun _ => ⟨g, 0, rfl, blk_lt h, fun i hi => ?_⟩⟩
  have hil : i < l.length := by omega
  have hx : l[i] = es[i] := by
    have : (l.take es.length)[i]? = es[i]? := by rw [he]
    rw [List.getElem?_take, if_pos hi, List.getElem?_eq_getElem hil, List.getElem?_eq_getElem hi] at this
    exact Option.some.inj this
  obtain ⟨h1, h2, -⟩ := h.cells i hil
  rw [hx] at h1 h2
  rw [Nat.zero_add]
  exact ⟨h1, h2⟩

theorem infoEdge : (Tryz.prog.info? 53).map (fun i => (i.zero, i.size, i.bytes)) = some (some (.agg #[.int .i64 0, .int .i64 0]), 2, 16) := by kernel_rfl
theorem sizeEdge : (Tryz.prog.info? 53).map (·.size) = some 2 := by kernel_rfl
theorem make_edges (n : Nat) (h : n ≤ 1048577) (W : World) : (Instr.makeSlice 22 (.int .i64 (n : Int)) (.int .i64 (n : Int))).run Tryz.prog W = .ok (.slice (some ⟨W.heap.size, 0, none⟩) n n) (W.alloc (.cells ((List.replicate n ((0 : Int), (0 : Int))).flatMap edC).toArray 53)) := by
  obtain ⟨i, hi, hz0, hz1, hz2⟩ := info_parts infoEdge
  have hr := run_make (P := Tryz.prog) W 22 53 i _ Tryz.underlying22 hi hz0 .i64 .i64 n n (by omega) (Int.le_refl _) (by rw [hz2]; omega) (by omega)
  simp only [Int.toNat_natCast] at hr
  have hm : madeCells (Value.cells (.agg #[.int .i64 0, .int .i64 0])) (n * 2) = ((List.replicate n ((0 : Int), (0 : Int))).flatMap edC).toArray := by
    suffices hL : (madeCells (Value.cells (.agg #[.int .i64 0, .int .i64 0])) (n * 2)).toList = (List.replicate n ((0 : Int), (0 : Int))).flatMap edC by
      rw [← hL]
    apply List.ext_getElem?
    intro t
    by_cases ht : t < n * 2
    · have hg := ed_get (List.replicate n ((0 : Int), (0 : Int))) (t / 2) (t % 2) (by simp; omega) (Nat.mod_lt _ (by decide))
      rw [show t / 2 * 2 + t % 2 = t by omega] at hg
      rw [hg, List.getElem_replicate]
      have hcase : t % 2 = 0 ∨ t % 2 = 1 := by omega
      rcases hcase with e | e <;> simp [madeCells, Value.cells, ht, e, edC]
    · have h1 : ((List.replicate n ((0 : Int), (0 : Int))).flatMap edC).length ≤ t := by rw [ed_len]; simp; omega
      rw [List.getElem?_eq_none h1, List.getElem?_eq_none (by simp [madeCells]; omega)]
  rw [hr, hz1, hm]

theorem run_copy_row2 {P : Program} (w : World) (dT sT ty elem : TypeId) (g o dLen dCap : Nat) (a : Addr) (sLen sCap : Nat) (cur : Array Value) (t : TypeId) (cs : List Value)
    (hu : P.underlying dT = some (.slice elem)) (hs : (P.info? elem).map (·.size) = some 2)
    (hg : w.heap[g]? = some (.cells cur t (0, 0))) (hn : cs.length = Nat.min sLen dLen * 2)
    (hsrc : ∀ j v, cs[j]? = some v → w.cell? (a.add j) = some v) (hfit : o + cs.length ≤ cur.size) (h1 : ∀ v ∈ cs, v.oneCell' = true) :
    (Builtin.copy_ #[dT, sT] ty #[.slice (some ⟨g, o, none⟩) dLen dCap, .slice (some a) sLen sCap]).run P w =
      .ok (goInt (Nat.min sLen dLen)) (w.setRow g (cur.toList.take o ++ cs ++ cur.toList.drop (o + cs.length)).toArray) := by
  have hl := run_loadCells_list (P := P) w a cs hsrc
  have hst := run_storeCells_at P g o t cs 0 cur w hg (by simpa using hfit) h1
  cases hq : P.info? elem with
  | none => simp [hq] at hs
  | some i =>
    have hi : i.size = 2 := by simpa [hq] using hs
    simp [Builtin.copy_, run_underlying hu, Builtin.lenOf, Builtin.firstCells, sizeOf, typeInfo, hq, hi, ← hn, hl, hst]
theorem run_copy_none2 {P : Program} (w : World) (dT sT ty elem : TypeId) (g o dLen dCap : Nat) (ad : Option Addr) (sCap : Nat)
    (hu : P.underlying dT = some (.slice elem)) (hs : (P.info? elem).map (·.size) = some 2) :
    (Builtin.copy_ #[dT, sT] ty #[.slice (some ⟨g, o, none⟩) dLen dCap, .slice ad 0 sCap]).run P w = .ok (goInt 0) w := by
  cases hq : P.info? elem with
  | none => simp [hq] at hs
  | some i =>
    have hi : i.size = 2 := by simpa [hq] using hs
    have hl : ∀ (x : Addr), (loadCells x 0).run P w = .ok #[] w := fun x => by simpa using run_loadCells_list (P := P) w x [] (by simp)
    cases ad <;> simp [Builtin.copy_, run_underlying hu, Builtin.lenOf, Builtin.firstCells, sizeOf, typeInfo, hq, storeCells, hl]
theorem wpList_copy_edges {P : Program} {w : World} {ops : Array Oper} {rest : List Oper} {o : Oper} {a : Act} {Q : Exit → Act → World → Prop} (hgd : o.guard = none) (d s : Operand) (dT sT : TypeId)
    (ho : o.op = .call { callee := .builtin .copy, args := #[d, s], argTypes := #[dT, sT] }) (hu : P.underlying dT = some (.slice 53)) (hsz : (P.info? 53).map (·.size) = some 2)
    (g cap N : Nat) (l : List (Int × Int)) (hN : l.length = N) (hd : a.eval d = .slice (some ⟨g, 0, none⟩) N cap) (hin : InAt w g l)
    (v : Value) (hs : a.eval s = v) (es : List (Int × Int)) (hv : EdgesOf w v es) (hle : es.length ≤ l.length)
    (h : ∀ w', InAt w' g (es ++ l.drop es.length) → w.grownBy w' (some g) → wpList P ops Q rest (a.put o.dst (goInt es.length)) w') : wpList P ops Q (o :: rest) a w := by
  refine wpList_plain hgd fun K hK => ?_
  subst hN
  obtain ⟨ad, capS, rfl, hcap, H⟩ := hv
  by_cases h0 : 0 < es.length
  · obtain ⟨b, off, rfl, hb, hrow⟩ := H h0
    have hmin : Nat.min es.length l.length = es.length := Nat.min_eq_left hle
    have hfit : 0 + (es.flatMap edC).length ≤ (l.flatMap edC).toArray.size := by rw [List.size_toArray, ed_len, ed_len]; have := Nat.mul_le_mul_right 2 hle; omega
    have hsrc : ∀ j u, (es.flatMap edC)[j]? = some u → w.cell? ((⟨b, off, none⟩ : Addr).add j) = some u := by
      intro j u hu'
      have hadd : (⟨b, off, none⟩ : Addr).add j = ⟨b, off + j, none⟩ := by unfold Addr.add; split <;> simp_all
      have hj : j < (es.flatMap edC).length := (List.getElem?_eq_some_iff.1 hu').1
      rw [ed_len] at hj
      have hg := ed_get es (j / 2) (j % 2) (by omega) (Nat.mod_lt _ (by decide))
      rw [show j / 2 * 2 + j % 2 = j by omega, hu'] at hg
      obtain ⟨r0, r1⟩ := hrow (j / 2) (by omega)
      rw [hadd]
      rcases (show j % 2 = 0 ∨ j % 2 = 1 by omega) with e | e
      · rw [e] at hg
        rw [show off + j = off + j / 2 * 2 by omega, r0, hg]
        rfl
      · rw [e] at hg
        rw [show off + j = off + j / 2 * 2 + 1 by omega, r1, hg]
        rfl
    have h1 : ∀ u ∈ es.flatMap edC, u.oneCell' = true := by
      intro u hu'
      obtain ⟨p, _, hp⟩ := List.mem_flatMap.1 hu'
      simp only [edC, List.mem_cons, List.not_mem_nil, or_false] at hp
      rcases hp with rfl | rfl <;> rfl
    have hrun := run_copy_row2 (P := P) w dT sT o.type 53 g 0 l.length cap ⟨b, off, none⟩ es.length capS _ _ (es.flatMap edC) hu hsz hin (by rw [hmin, ed_len]) hsrc hfit h1
    rw [hmin] at hrun
    unfold Oper.wp
    simp only [execOp, ho, resolve, invoke, builtin, Sem.run_bind, Sem.run_pure, Result.andThen_ok, List.map_toArray, List.map_cons, List.map_nil, hd, hs, hrun]
    refine hK _ _ (h _ ?_ ?_)
    · unfold InAt
      rw [setRow_heap w g _ _ _ _ hin]
      congr 3
      simp only [List.take_zero, List.nil_append, Nat.zero_add, List.flatMap_append]
      congr 1
      rw [ed_len]
      apply List.ext_getElem?
      intro t
      rw [List.getElem?_drop]
      by_cases ht : t < (l.drop es.length).length * 2
      · have hg1 := ed_get (l.drop es.length) (t / 2) (t % 2) (by omega) (Nat.mod_lt _ (by decide))
        rw [show t / 2 * 2 + t % 2 = t by omega] at hg1
        have ht2 : t < (l.length - es.length) * 2 := by simpa using ht
        have hg2 := ed_get l (es.length + t / 2) (t % 2) (by omega) (Nat.mod_lt _ (by decide))
        rw [show (es.length + t / 2) * 2 + t % 2 = es.length * 2 + t by omega] at hg2
        rw [hg1, hg2, List.getElem_drop]
      · have ht2 : ¬ t < (l.length - es.length) * 2 := by simpa using ht
        rw [List.getElem?_eq_none (by rw [ed_len]; omega), List.getElem?_eq_none (by rw [ed_len]; omega)]
    · exact ⟨rfl, rfl, rfl, by simp [World.setRow], fun k _ hne => setRow_other w g k _ (fun e => hne (by rw [e]))⟩
  · obtain rfl := List.length_eq_zero_iff.1 (by omega : es.length = 0)
    have hrun := run_copy_none2 (P := P) w dT sT o.type 53 g 0 l.length cap ad capS hu hsz
    unfold Oper.wp
    simp only [execOp, ho, resolve, invoke, builtin, Sem.run_bind, Sem.run_pure, Result.andThen_ok, List.map_toArray, List.map_cons, List.map_nil, hd, hs, List.length_nil, hrun]
    exact hK _ _ (h w (by simpa using hin) ⟨rfl, rfl, rfl, Nat.le_refl _, fun _ _ _ => rfl⟩)
end Go.Proofs.YtahdlejgjcjeoaaGreatDoor
