/- Walk of the Player's torn. -/
import Derived.Test.YtahdlejgjcjeoabGreatDoorS28
import Derived.Test.YtahdlejgjcjeoabGreatDoorS06
import Derived.Test.YtahdlejgjcjeoabGreatDoorS05
import Derived.Test.YtahdlejgjcjeoabGreatDoorS09
namespace Go.Proofs.YtahdlejgjcjeoabGreatDoor
open Go.RowKit

theorem sum_bound {L : List At} (h : ∀ a ∈ L, mayB a = true ∧ (a.ty = 1 ∨ a.ty = 2)) : -(2147483647 * (L.length : Int)) ≤ (L.map fun a => a.n * (1 - 2 * a.side)).sum ∧ (L.map fun a => a.n * (1 - 2 * a.side)).sum ≤ 2147483647 * (L.length : Int) := by
  induction L with
  | nil => simp
  | cons a L ih =>
    obtain ⟨h1, h2⟩ := ih fun x hx => h x (by simp [hx])
    obtain ⟨hm, ht⟩ := h a (by simp)
    simp only [mayB, decide_eq_true_eq] at hm
    have hs : a.side = 0 ∨ a.side = 1 := by omega
    have hn : 1 ≤ a.n ∧ a.n ≤ 2147483647 := by omega
    simp only [List.map_cons, List.sum_cons, List.length_cons]
    rcases hs with hs | hs <;> rw [hs] <;> omega
theorem valN_bound {L : List At} (kind : Int) (key : ByteArray) (h : ∀ a ∈ L, mayB a = true) (hl : L.length ≤ 131072) : -1125899906842624 ≤ valN kind key L ∧ valN kind key L ≤ 1125899906842624 := by
  unfold valN
  have hlen : (ofKey L kind key).length ≤ 131072 := Nat.le_trans (List.length_filter_le _ _) hl
  split
  · rename_i hk
    have := sum_bound (L := ofKey L kind key) fun a ha => by
      obtain ⟨h1, h2, _⟩ := mem_ofKey.1 ha
      exact ⟨h a h1, by omega⟩
    omega
  · split
    · cases hg : (ofKey L kind key).getLast? with
      | none => simp
      | some a =>
        have ha := (mem_ofKey.1 (List.mem_of_getLast? hg)).1
        have := fits_of_may (h a ha)
        unfold fits at this
        simp
        omega
    · omega

def hasB (l : List ByteArray) (s : ByteArray) : Bool := l.any fun y => decide (ordS y s = 0)
theorem hasB_iff (l : List ByteArray) (s : ByteArray) : hasB l s = true ↔ s ∈ l := by
  unfold hasB
  rw [List.any_eq_true]
  simp only [decide_eq_true_eq, ordS_zero]
  constructor
  · rintro ⟨y, hy, rfl⟩; exact hy
  · intro h; exact ⟨s, h, rfl⟩
set_option maxRecDepth 100000 in
set_option maxHeartbeats 1000000 in
theorem has_is (v : Value) (l : List ByteArray) (s : ByteArray) (w : World) (h : StrsOf w v l) (hlen : l.length ≤ 4194304) :
    Calls Tryz.prog 151 #[v, .string s] w fun e w' => e = .returned (.bool (hasB l s)) ∧ Below w.heap.size w w' := by
  obtain ⟨ad, cap, rfl, H⟩ := h
  have HI := Hid.mk (hasB_iff l s)
  generalize hasB l s = B at *
  have HR : Hid (0 < l.length → ∃ b off, ad = some ⟨b, off, none⟩ ∧ b < w.heap.size ∧ ∀ i (h : i < l.length), w.cell? ⟨b, off + i, none⟩ = some (.string l[i])) := H
  clear H
  go_enter Tryz.func151, Tryz.ntmps151
  go_wp2
  go_loopw [5] (fun j wr => ∃ k : Nat, k ≤ l.length ∧ j = .int .i64 k ∧ Hid (s ∉ l.take k) ∧ Below w.heap.size w wr) (fun j _ => l.length - (intOf j).toNat)
  case atStart => exact ⟨0, Nat.zero_le _, rfl, by simp [Hid], Below.refl _ _⟩
  case round =>
    obtain ⟨k, hk, rfl, hn, hbw⟩ := hrel
    by_cases hl : k < l.length
    · obtain ⟨b, off, rfl, hb, hrow⟩ := HR.out (by omega)
      have c0 : wr.cell? ⟨b, off + k, none⟩ = some (.string l[k]) := by rw [hbw.cell (p := ⟨b, off + k, none⟩) hb]; exact hrow k hl
      have q1 : (0 : Int) ≤ (k : Int) := by omega
      have q2 : (k : Int) < (l.length : Int) := by omega
      by_cases he : l[k] = s
      · have HD : Hid (s ∈ l) := by rw [← he]; exact List.getElem_mem hl
        rw [he] at c0
        clear hrow HR hn he
        go_wp2
        all_goals go_ret
        all_goals exact ⟨by rw [HI.out.2 HD.out]; simp, hbw⟩
      · have HN : Hid (s ∉ l.take (k + 1)) := by
          show s ∉ _
          rw [List.take_succ_eq_append_getElem hl, List.mem_append]
          rintro (h | h)
          · exact hn.out h
          · exact he (List.mem_singleton.1 h).symm
        have hne : (l[k].toList == s.toList) = false := by
          rw [sameS, decide_eq_false_iff_not, ordS_zero]
          exact he
        clear hrow HR hn
        generalize l[k] = y at *
        go_wp2
        exact ⟨⟨k + 1, by omega, by go_num, HN, hbw⟩, by simp [intOf]; omega⟩
    · have HD : Hid (s ∉ l) := by
        have := hn.out
        rwa [List.take_of_length_le (by omega)] at this
      have q2 : ¬ (k : Int) < (l.length : Int) := by omega
      go_wp2
      go_ret
      exact ⟨by rw [Bool.eq_false_iff.2 (fun e => HD.out (HI.out.1 e))]; rfl, hbw⟩

theorem three_blocks (w : World) (o1 o2 o3 : Obj) : (((w.alloc o1).alloc o2).alloc o3).heap[w.heap.size]? = some o1 ∧ (((w.alloc o1).alloc o2).alloc o3).heap[w.heap.size + 1]? = some o2 ∧ (((w.alloc o1).alloc o2).alloc o3).heap[w.heap.size + 1 + 1]? = some o3 := by
  have e1 := heap_alloc_new w o1
  have e2 := heap_alloc_new (w.alloc o1) o2
  have e3 := heap_alloc_new ((w.alloc o1).alloc o2) o3
  have b2 := below_alloc (Below.refl _ (w.alloc o1)) o2
  have b3 := below_alloc (Below.refl _ ((w.alloc o1).alloc o2)) o3
  have f1 := (b3.block _ (blk_lt ((b2.block _ (blk_lt e1)).trans e1))).trans ((b2.block _ (blk_lt e1)).trans e1)
  have f2 := (b3.block _ (blk_lt e2)).trans e2
  have s1 : (w.alloc o1).heap.size = w.heap.size + 1 := by simp
  have s2 : ((w.alloc o1).alloc o2).heap.size = w.heap.size + 1 + 1 := by simp
  rw [s1] at f2
  rw [s2] at e3
  exact ⟨f1, f2, e3⟩
set_option maxRecDepth 100000 in
set_option maxHeartbeats 2000000 in
theorem counts_true (o : OpV) (n n' : Int) (v v' : Value) (es es' : List ByteArray) (w : World) (hf : fineOp o = true) (hC : Counts o n es n' es') (h : StrsOf w v es) (h' : StrsOf w v' es') (hlen : es'.length ≤ 4194304) (hn0 : -1125899906842624 ≤ n) (hn1 : n ≤ 1125899906842624) :
    Calls Tryz.prog 105 #[o.val, .agg #[.int .i64 n, v], .agg #[.int .i64 n', v']] w fun e w' => e = .returned (.bool true) ∧ Below w.heap.size w w' := by
  simp only [fineOp, decide_eq_true_eq] at hf
  obtain ⟨t1, t2, _, _, _, hf⟩ := hf
  have HC := Hid.mk hC
  have HH := Hid.mk (fun W (hb : Below w.heap.size w W) => has_is v' es' o.elem W (by
    obtain ⟨ad, cap, rfl, H⟩ := h'
    refine ⟨ad, cap, rfl, fun h0 => ?_⟩
    obtain ⟨b, off, e, hlt, hc⟩ := H h0
    exact ⟨b, off, e, Nat.lt_of_lt_of_le hlt hb.size, fun i hi => by rw [hb.cell (p := ⟨b, off + i, none⟩) hlt]; exact hc i hi⟩) hlen)
  obtain ⟨ad, cap, rfl, -⟩ := h
  obtain ⟨ad', cap', rfl, -⟩ := h'
  obtain ⟨ty, key, side, elem, on⟩ := o
  unfold OpV.val
  simp only at *
  have HB := Hid.mk (fun o1 o2 o3 => below_alloc (below_alloc (below_alloc (Below.refl _ w) o1) o2) o3)
  obtain ⟨m, HM⟩ : ∃ m, Hid (es'.length = m) := ⟨_, rfl⟩
  rw [HM.out] at HH ⊢
  clear hC hlen
  go_enter Tryz.func105, Tryz.ntmps105
  go_wp2_with fail
  refine (HH.out _ (HB.out _ _ _)).mono ?_
  rintro e w1 ⟨rfl, hb1⟩
  have hB := Hid.mk (hasB_iff es' elem)
  generalize hasB es' elem = B at *
  have HB1 := Hid.mk ((HB.out _ _ _).trans (hb1.mono (HB.out _ _ _).size))
  obtain ⟨m1, m2, m3⟩ := three_blocks w (.cells #[.int .i64 ty, .string key, .int .i64 side, .string elem, .int .i64 on] 31) (.cells #[.int .i64 n, .slice ad es.length cap] 129) (.cells #[.int .i64 n', .slice ad' m cap'] 129)
  have n1 := (hb1.block _ (blk_lt m1)).trans m1
  have n2 := (hb1.block _ (blk_lt m2)).trans m2
  have n3 := (hb1.block _ (blk_lt m3)).trans m3
  have k00 : w1.cell? ⟨w.heap.size, 0, none⟩ = some (.int .i64 ty) := (blk_cell n1 0).trans rfl
  have k02 : w1.cell? ⟨w.heap.size, 2, none⟩ = some (.int .i64 side) := (blk_cell n1 2).trans rfl
  have k04 : w1.cell? ⟨w.heap.size, 4, none⟩ = some (.int .i64 on) := (blk_cell n1 4).trans rfl
  have k10 : w1.cell? ⟨w.heap.size + 1, 0, none⟩ = some (.int .i64 n) := (blk_cell n2 0).trans rfl
  have k20 : w1.cell? ⟨w.heap.size + 1 + 1, 0, none⟩ = some (.int .i64 n') := (blk_cell n3 0).trans rfl
  have k21 : w1.cell? ⟨w.heap.size + 1 + 1, 1, none⟩ = some (.slice ad' m cap') := (blk_cell n3 1).trans rfl
  clear m1 m2 m3 n1 n2 n3
  clear hb1 HH HB
  have hw1 : IntKind.i64.wrap (n + on) = n + on := by
    simp [IntKind.wrap, IntKind.signed, IntKind.bits]
    omega
  have hw2 : IntKind.i64.wrap (n + 1) = n + 1 := by
    simp [IntKind.wrap, IntKind.signed, IntKind.bits]
    omega
  rcases hf with ⟨rfl, -, -, z1, z2⟩ | ⟨rfl, -, -, -, z1, z2⟩ | ⟨rfl, -, -⟩ | ⟨rfl, z1, -⟩ | ⟨rfl, -, -⟩
  · obtain ⟨e1, e2⟩ := HC.out.num (.inl rfl)
    have hm0 : m = 0 := by rw [← HM.out, e2]; rfl
    simp only at e1
    subst e1 hm0
    clear HC HM hB
    go_wp2
    all_goals go_ret
    all_goals exact ⟨by simp, HB1.out⟩
  · obtain ⟨e1, e2⟩ := HC.out.num (.inr rfl)
    have hm0 : m = 0 := by rw [← HM.out, e2]; rfl
    simp only at e1
    subst e1 hm0
    clear HC HM hB
    go_wp2
    all_goals go_ret
    all_goals exact ⟨by simp, HB1.out⟩
  · have hBt : B = true := hB.out.2 (HC.out.grow rfl)
    subst hBt
    clear HC HM hB
    go_wp2
    all_goals go_ret
    all_goals exact ⟨by simp, HB1.out⟩
  · rcases z1 with rfl | rfl
    · clear HC HM hB
      go_wp2
      all_goals go_ret
      all_goals exact ⟨by simp, HB1.out⟩
    · have hBt : B = false := Bool.eq_false_iff.2 (fun e => HC.out.two rfl rfl (hB.out.1 e))
      subst hBt
      clear HC HM hB
      go_wp2
      all_goals go_ret
      all_goals exact ⟨by simp, HB1.out⟩
  · obtain ⟨e1, e2⟩ := HC.out.last rfl
    have hBt : B = true := hB.out.2 (by rw [e1]; exact List.mem_singleton.2 rfl)
    have hm1 : m = 1 := by rw [← HM.out, e1]; rfl
    subst e2 hBt hm1
    clear HC HM hB
    go_wp2
    all_goals go_ret
    all_goals exact ⟨by simp, HB1.out⟩
end Go.Proofs.YtahdlejgjcjeoabGreatDoor

namespace Go.Proofs.YtahdlejgjcjeoabGreatDoor
open Go.RowKit
theorem strs_keep {w1 w' : World} {base : Nat} {e : TypeId} {v : Value} {l : List ByteArray} (h : w1.ownsRow base e 1 v l.length (l.map Value.string)) (hs : w1.heap.size ≤ w'.heap.size) (hk : ∀ q, base ≤ q → q < w1.heap.size → w'.heap[q]? = w1.heap[q]?) : StrsOf w' v l := by
  rcases h.2 with ⟨rfl, h0⟩ | ⟨g, cap, cur, rfl, hg, hb, h1, h2, h3, h4⟩
  · exact ⟨none, 0, by rw [h0], fun h => by omega⟩
  · have hlt := (Array.getElem?_eq_some_iff.1 hb).1
    have hb' := (hk g hg hlt).trans hb
    refine ⟨_, cap, rfl, fun _ => ⟨g, 0, rfl, Nat.lt_of_lt_of_le hlt hs, fun i hi => ?_⟩⟩
    have hx : (l.map Value.string)[i]? = some (.string l[i]) := by simp [hi]
    rw [← h4, List.getElem?_take, if_pos (by omega), Array.getElem?_toList] at hx
    rw [Nat.zero_add]
    simp [World.cell?, hb', hx]
theorem StrsOf.below {w w' : World} {v : Value} {l : List ByteArray} (h : StrsOf w v l) (hb : Below w.heap.size w w') : StrsOf w' v l := by
  obtain ⟨ad, cap, rfl, H⟩ := h
  refine ⟨ad, cap, rfl, fun h0 => ?_⟩
  obtain ⟨b, off, e, hlt, hc⟩ := H h0
  exact ⟨b, off, e, Nat.lt_of_lt_of_le hlt hb.size, fun i hi => by rw [hb.cell (p := ⟨b, off + i, none⟩) hlt]; exact hc i hi⟩
theorem update_rep {c : Clu} {r : Nat} {o : OpV} (hr : r < c.reps.length) (he : c.opErr r o = 0) (q : Nat) : (c.update r o).rep q = if q = r then (c.rep r).take c.room [opAtom (c.rep r).atoms r o] r else c.rep q := by
  unfold Clu.update
  rw [if_pos he]
  simp only [Int.toNat_natCast]
  exact rep_setRep c r q _ hr
theorem update_down (c : Clu) (r : Nat) (o : OpV) (hr : r < c.reps.length) (q : Nat) : ((c.update r o).rep q).down = (c.rep q).down := by
  by_cases he : c.opErr r o = 0
  · rw [update_rep hr he]
    split
    · rename_i e; rw [e, take_down]
    · rfl
  · unfold Clu.update
    rw [if_neg he]
theorem opErr_of {c : Clu} {r : Nat} {o : OpV} (hr : r < c.reps.length) (hf : fineOp o = true) : c.opErr r o = if (c.rep r).down then 8 else if 2147483647 < (opAtom (c.rep r).atoms r o).n then 2 else 0 := by
  unfold Clu.opErr
  rw [works_rep hr, hf]
  cases (c.rep r).down <;> simp
theorem readCode_ok {l : List At} {kind : Int} (h : ∀ a ∈ l, mayB a = true) (h1 : 1 ≤ kind) (h5 : kind ≤ 5) : readCode l kind = 0 := by
  unfold readCode
  rw [if_pos (List.all_eq_true.2 h), if_pos ⟨h1, h5⟩]
section
variable {Z : Snap} {w w' : World} {P x N : Nat} {g : Cf} {c : Clu} {D : List Bool} {L : List (List At)} {U : List At}
theorem Pm.pRead (h : Pm Z w P x g c D L) (hok : c.ok U N) (hL : Lim U N) (r kind : Int) (key : ByteArray) (hk : key.size ≤ 1099511627776) :
    Calls Tryz.prog 56 #[.pointer (some ⟨x, 0, none⟩), .int .i64 r, .int .i64 kind, .string key] w fun e w' => ∃ n ad cp es, e = .returned (.tuple #[.agg #[.int .i64 n, .slice ad es.length cp], .int .i64 (readErr c r kind)]) ∧ Hid (w'.ownsRow w.heap.size 9 1 (.slice ad es.length cp) es.length (es.map Value.string)) ∧ Hid (if c.works r = 0 then ReadSpec (tell (c.rep r.toNat).atoms) kind key n es else n = 0 ∧ es = []) ∧ Below w.heap.size w w' := by
  obtain ⟨col, K, vd, vh, H, p, hl⟩ := h
  refine (prgRead p.prg (by decide) p.tab hok hL r kind key hk).mono fun e w' ⟨n, v, es, h1, h2, h3, h4⟩ => ?_
  obtain ⟨ad, cp, hv⟩ := own_form h2
  subst hv
  exact ⟨n, ad, cp, es, h1, h2, h3, h4⟩
theorem Pm.ltP (h : Pm Z w P x g c D L) : P < w.heap.size := by
  obtain ⟨col, K, vd, vh, H, p, hl⟩ := h
  exact blk_lt p.blk
/-- What a Read of one that is up tells. -/
theorem read_is {A : List At} {kind : Int} {key : ByteArray} {n : Int} {es : List ByteArray} (hm : ∀ a ∈ A, mayB a = true) (h1 : 1 ≤ kind) (h5 : kind ≤ 5) (h : ReadSpec (tell A) kind key n es) : n = valN kind key (tell A) ∧ es = valE (tell A) kind key (tell A) := by
  have hmt : ∀ a ∈ tell A, mayB a = true := fun a ha => hm a ((tell_told A).great a ha).1
  have hc := readCode_ok (kind := kind) hmt h1 h5
  have hT : IsTold (tell A) (tell A) := told_again (tell_told A)
  exact h.unique (.inl ⟨hc, hmt, tell A, hT, rfl, rfl⟩)
theorem opc_blk {w : World} {P b x : Nat} {ty side on : Int} {key elem : ByteArray} (h0 : w.cell? ⟨P, 0, none⟩ = some (.pointer (some ⟨x, 0, none⟩))) (h : w.heap[b]? = some (.cells #[.int .i64 ty, .string key, .int .i64 side, .string elem, .int .i64 on] 31 (0, 0))) :
    w.cell? ⟨P, 0, none⟩ = some (.pointer (some ⟨x, 0, none⟩)) ∧ w.cell? ⟨b, 0, none⟩ = some (.int .i64 ty) ∧ w.cell? ⟨b, 1, none⟩ = some (.string key) ∧ w.cell? ⟨b, 2, none⟩ = some (.int .i64 side) ∧ w.cell? ⟨b, 3, none⟩ = some (.string elem) ∧ w.cell? ⟨b, 4, none⟩ = some (.int .i64 on) :=
  ⟨h0, (blk_cell h 0).trans rfl, (blk_cell h 1).trans rfl, (blk_cell h 2).trans rfl, (blk_cell h 3).trans rfl, (blk_cell h 4).trans rfl⟩
/-- Behind a Read: the value that was read, in a block of its own. -/
structure ReadIn (Q : Int → List ByteArray → Prop) (W0 wc : World) (b : Nat) : Prop where
  bel : Below W0.heap.size W0 wc
  b1 : W0.heap.size ≤ b
  was : ∃ (n : Int) (ad : Option Addr) (cp : Nat) (es : List ByteArray), wc.heap[b]? = some (.cells #[.int .i64 n, .slice ad es.length cp] 129 (0, 0)) ∧ wc.ownsRow W0.heap.size 9 1 (.slice ad es.length cp) es.length (es.map Value.string) ∧ Q n es
theorem rd_cells {W w1 : World} {v0 v1 : Value} {e : TypeId} {b : Nat} (hbb : b = W.heap.size) (hb : Below ((W.alloc (.cells #[v0, v1] e)).drew).heap.size ((W.alloc (.cells #[v0, v1] e)).drew) w1) : w1.cell? ⟨b, 0, none⟩ = some v0 ∧ w1.cell? ⟨b, 1, none⟩ = some v1 ∧ w1.frozen? ⟨b, 0, none⟩ = false ∧ w1.frozen? ⟨b, 1, none⟩ = false := by
  subst hbb
  have h0 := ((Below.refl _ (W.alloc (.cells #[v0, v1] e))).drew.block _ (blk_lt (heap_alloc_new W (.cells #[v0, v1] e)))).trans (heap_alloc_new W (.cells #[v0, v1] e))
  have h1 := (hb.block _ (blk_lt h0)).trans h0
  exact ⟨(blk_cell h1 0).trans rfl, (blk_cell h1 1).trans rfl, blk_thaw h1 0, blk_thaw h1 1⟩
theorem was_at1 {Q : Int → List ByteArray → Prop} {W0 w1 : World} {ad : Option Addr} {cp : Nat} {es : List ByteArray} (hb1 : Below W0.drew.heap.size W0.drew w1) (ho : w1.ownsRow W0.drew.heap.size 9 1 (.slice ad es.length cp) es.length (es.map Value.string)) {n : Int} (hq : Q n es) :
    Hid (ReadIn Q W0 (w1.alloc (.cells #[.int .i64 n, .slice ad es.length cp] 129)) w1.heap.size) := by
  have hw1 : Below W0.heap.size W0 w1 := (Below.refl _ W0).drew.trans hb1
  exact ⟨hw1.alloc hw1.size _, hw1.size, n, ad, cp, es, heap_alloc_new _ _, owns_below ho (below_alloc (Below.refl _ _) _), hq⟩
theorem was_at2 {Q : Int → List ByteArray → Prop} {W0 w1 : World} {ad : Option Addr} {cp : Nat} {es : List ByteArray} {v0 v1 : Value} {b : Nat} (hbb : b = W0.heap.size) (hb1 : Below ((W0.alloc (.cells #[v0, v1] 129)).drew).heap.size ((W0.alloc (.cells #[v0, v1] 129)).drew) w1) (ho : w1.ownsRow ((W0.alloc (.cells #[v0, v1] 129)).drew).heap.size 9 1 (.slice ad es.length cp) es.length (es.map Value.string)) {n : Int} (hq : Q n es) :
    Hid (ReadIn Q W0 ((w1.setCell ⟨b, 0, none⟩ (.int .i64 n)).setCell ⟨b, 1, none⟩ (.slice ad es.length cp)) b) := by
  subst hbb
  have ha := (Below.refl _ (W0.alloc (.cells #[v0, v1] 129))).drew.trans hb1
  have hsz : (W0.alloc (.cells #[v0, v1] 129)).heap.size = W0.heap.size + 1 := by simp
  have hw1 : Below W0.heap.size W0 w1 := (below_alloc (Below.refl _ W0) _).trans (ha.mono (by simp))
  have hv := (ha.block _ (blk_lt (heap_alloc_new W0 (.cells #[v0, v1] 129)))).trans (heap_alloc_new W0 (.cells #[v0, v1] 129))
  have hv1 := heap_setCell_at hv (o := 0) (.int .i64 n)
  have hv2 := heap_setCell_at hv1 (o := 1) (.slice ad es.length cp)
  refine ⟨(hw1.setCell (by simp only; omega) _).setCell (by simp only; omega) _, Nat.le_refl _, n, ad, cp, es, ?_, ?_, hq⟩
  · simpa using hv2
  · have hne : ∀ q, (Value.slice ad es.length cp).ownBlock = some q → ¬ q = W0.heap.size := fun q hq e => by
      have h1 := owns_base ho q hq
      have h2 : ((W0.alloc (.cells #[v0, v1] 129)).drew).heap.size = W0.heap.size + 1 := hsz
      omega
    have hfr : Fr (fun q => q = W0.heap.size) w1 ((w1.setCell ⟨W0.heap.size, 0, none⟩ (.int .i64 n)).setCell ⟨W0.heap.size, 1, none⟩ (.slice ad es.length cp)) := ((Fr.refl _ w1).step (grown_setCell w1 ⟨W0.heap.size, 0, none⟩ (.int .i64 n)) (fun q hq => by cases hq; exact .inr rfl)).step (grown_setCell _ ⟨W0.heap.size, 1, none⟩ (.slice ad es.length cp)) (fun q hq => by cases hq; exact .inr rfl)
    exact owns_mono (owns_fr ho hfr hne) (by show W0.heap.size ≤ (W0.alloc (.cells #[v0, v1] 129)).heap.size; omega)
end
end Go.Proofs.YtahdlejgjcjeoabGreatDoor

namespace Go.Proofs.YtahdlejgjcjeoabGreatDoor
open Go.RowKit
section
variable {Z : Snap} {w w' : World} {P x N : Nat} {g : Cf} {c : Clu} {D : List Bool} {L : List (List At)} {U : List At}
set_option maxRecDepth 100000 in
set_option maxHeartbeats 4000000 in
theorem Pm.lUpdate (h : Pm Z w P x g c D L) (hok : c.ok U N) (hL1 : N + 1 ≤ 2097152 ∧ U.length + 1 ≤ 131072) (hi : c.inv) (ht : Tells c D) {r : Nat} (hr : r < g.n) (op : OpV) (hf : fineOp op = true) :
    Calls Tryz.prog 55 #[.pointer (some ⟨P, 0, none⟩), .int .i64 r, op.val] w fun e w' => e = .returned (.bool true) ∧ ∃ L', Pm Z w' P x g (c.update r op) D L' := by
  have hL : Lim U N := ⟨by omega, by omega⟩
  have HLM := Hid.mk hL1
  clear hL1
  have hrc : r < c.reps.length := by rw [h.len]; exact hr
  have htr := ht r hrc
  have hsh := fine_short hf
  have hkz : op.key.size ≤ 1099511627776 := by simp only [fineOp, decide_eq_true_eq] at hf; omega
  have HRD := Hid.mk (fun W (hW : Pm Z W P x g c D L) => hW.pRead hok hL r op.ty op.key hkz)
  have HUP := Hid.mk (fun (Z : Snap) W (hW : Pm Z W P x g c D L) => hW.pUpdate hok hL hi r op hsh)
  have hn6 : g.n ≤ 6 := by rw [← h.len]; exact hok.n6
  have q0 : (0 : Int) ≤ (r : Int) := by omega
  have q1 : (r : Int) < (g.n : Int) := by omega
  have HFX := Hid.mk (And.intro hok (And.intro hL (And.intro hi (And.intro ht (And.intro hf hrc)))))
  obtain ⟨F, HF⟩ : ∃ F, Hid (readErr c r op.ty = F) := ⟨_, rfl⟩
  obtain ⟨E, HE⟩ : ∃ E, Hid (c.opErr r op = E) := ⟨_, rfl⟩
  obtain ⟨Q, HQ⟩ : ∃ Q : Int → List ByteArray → Prop, Hid (Q = fun n es => if c.works (r : Int) = 0 then ReadSpec (tell (c.rep ((r : Int)).toNat).atoms) op.ty op.key n es else n = 0 ∧ es = []) := ⟨_, rfl⟩
  rw [HF.out] at HRD
  rw [HE.out] at HUP
  have HRD' : Hid (∀ W, Pm Z W P x g c D L → Calls Tryz.prog 56 #[.pointer (some ⟨x, 0, none⟩), .int .i64 r, .int .i64 op.ty, .string op.key] W fun e w' => ∃ n ad cp es, e = .returned (.tuple #[.agg #[.int .i64 n, .slice ad es.length cp], .int .i64 F]) ∧ Hid (w'.ownsRow W.heap.size 9 1 (.slice ad es.length cp) es.length (es.map Value.string)) ∧ Hid (Q n es) ∧ Below W.heap.size W w') := by
    rw [HQ.out]
    exact HRD
  clear hok hL hi ht hsh hf hkz HRD
  obtain ⟨cu, HCU⟩ : ∃ cu, Hid (c.update r op = cu) := ⟨_, rfl⟩
  rw [HCU.out] at HUP ⊢
  have HOPV := Hid.mk (rfl : op = op)
  generalize hop : op = op' at *
  obtain ⟨ty, key, side, elem, on⟩ := op'
  unfold OpV.val at *
  simp only at HRD' HUP ⊢
  have HW0 := Hid.mk (h.same (below_alloc (Below.refl _ _) (.cells #[.int .i64 ty, .string key, .int .i64 side, .string elem, .int .i64 on] 31)))
  have hS0 := opc_blk HW0.out.cell0 (heap_alloc_new w (.cells #[.int .i64 ty, .string key, .int .i64 side, .string elem, .int .i64 on] 31))
  have HB0 := Hid.mk (below_alloc (Below.refl _ w) (.cells #[.int .i64 ty, .string key, .int .i64 side, .string elem, .int .i64 on] 31))
  have HS1 := Hid.mk (heap_alloc_new w (.cells #[.int .i64 ty, .string key, .int .i64 side, .string elem, .int .i64 on] 31))
  obtain ⟨-, s1, s2, s3, s4, s5⟩ := hS0
  have c0 := h.cell0
  have hlt : P < w.heap.size := h.ltP
  have HPM := Hid.mk h
  clear h hop
  go_enter Tryz.func55, Tryz.ntmps55
  go_wp2_with fail
  go_cut [7, 8] from 15 (fun t f wc => ∃ b : Nat, t = .pointer (some ⟨b, 0, none⟩) ∧ f = .int .i64 F ∧ Hid (ReadIn Q (w.alloc (.cells #[.int .i64 ty, .string key, .int .i64 side, .string elem, .int .i64 on] 31)) wc b))
  case first =>
    go_region_law (first | (go_simp; go_at_call 56; refine (HRD'.out _ (by first | exact HW0.out.same (Below.refl _ _).drew)).mono ?_; rintro e w1 ⟨n1, ad1, cp1, es1, rfl, ho1, hsp1, hb1⟩; have hfin := was_at1 hb1 ho1.out hsp1.out) | (go_simp; go_at_call 56; refine (HRD'.out _ (by first | exact HW0.out.same (below_alloc (Below.refl _ _) _).drew)).mono ?_; rintro e w1 ⟨n1, ad1, cp1, es1, rfl, ho1, hsp1, hb1⟩; obtain ⟨z0, z1, z2, z3⟩ := rd_cells (b := w.heap.size + 1) (by simp) hb1; have hfin := was_at2 (b := w.heap.size + 1) (by simp) hb1 ho1.out hsp1.out) | fail)
    all_goals clear HRD' HUP HFX HF HE HQ HCU HOPV HPM HW0 HB0 HS1
    all_goals go_wp2
    all_goals go_meet
    all_goals (case rel => exact ⟨_, rfl, rfl, hfin⟩)
  case rest =>
    obtain ⟨b, rfl, rfl, hwas⟩ := hcut
    obtain ⟨wA, hwA⟩ : ∃ wA, wA = wc := ⟨_, rfl⟩
    subst hwA
    have HBC := Hid.mk (HB0.out.trans (hwas.out.bel.mono HB0.out.size))
    obtain ⟨Z1, hZ1, -, back1⟩ := HPM.out.rebase HBC.out
    have HZ1 := Hid.mk hZ1
    have HK1 := Hid.mk back1
    have hl0 := blk_lt HS1.out
    have hopc := (hwas.out.bel.block _ hl0).trans HS1.out
    have HOC := Hid.mk hopc
    obtain ⟨c0', t1, t2, t3, t4, t5⟩ := opc_blk hZ1.cell0 hopc
    clear s1 s2 s3 s4 s5 c0 HW0 HB0 HS1 hZ1 back1 hopc
    go_wp2_with fail
    go_cut [9] from 15 (fun t wd => t = .int .i64 E ∧ Hid (Pm Z1 wd P x g cu D L))
    case first =>
      go_region_law (first | (go_simp; go_at_call 22; refine (HUP.out _ _ (by first | exact HZ1.out.same (Below.refl _ _).drew | exact HZ1.out)).mono ?_; rintro e w2 ⟨rfl, h2⟩; have HZ2 := Hid.mk h2) | fail)
      all_goals clear HUP HFX HF HE HQ HCU HOPV HPM HK1 HBC HOC hwas HRD'
      all_goals go_wp2
      all_goals go_meet
      all_goals (case rel => exact ⟨rfl, HZ2⟩)
    case rest =>
      obtain ⟨rfl, hz2⟩ := hcut
      obtain ⟨wB, hwB⟩ : ∃ wB, wB = wc := ⟨_, rfl⟩
      subst hwB
      obtain ⟨-, hsz1, hsame1⟩ := HK1.out _ _ _ _ hz2.out
      have HSM1 := Hid.mk hsame1
      obtain ⟨dB, dcap, k6, d0, -⟩ := hz2.out.downC hr
      obtain ⟨hok, hL, hi, ht, hf, hrc⟩ := HFX.out
      rw [htr] at d0
      clear HUP HRD' t1 t2 t3 t4 t5 c0' hsame1
      cases hdn : (c.rep r).down
      · rw [hdn] at d0
        have hF0 : F = 0 := by
          rw [← HF.out]
          unfold readErr
          rw [works_rep hrc, hdn]
          simp only [Bool.false_eq_true, if_false, ne_eq, not_true_eq_false, Int.toNat_natCast]
          exact readCode_ok (fun a ha => hok.may a ((hok.rep hrc).sub a ((tell_told _).great a ha).1)) (by simp only [fineOp, decide_eq_true_eq] at hf; omega) (by simp only [fineOp, decide_eq_true_eq] at hf; omega)
        subst hF0
        have hE01 : E = 0 ∨ E = 2 := by
          rw [← HE.out, opErr_of hrc hf, hdn]
          simp only [Bool.false_eq_true, if_false]
          split
          · exact .inr rfl
          · exact .inl rfl
        obtain ⟨U', hU', -, hok'⟩ := hok.update r ⟨ty, key, side, elem, on⟩
        have hLim' : Lim U' (N + 1) := ⟨by have := HLM.out.1; omega, by have := HLM.out.2; omega⟩
        rw [HCU.out] at hok'
        have hi' := (hi.update hok r ⟨ty, key, side, elem, on⟩).1
        rw [HCU.out] at hi'
        have ht' : Tells cu D := ht.same (by rw [← HCU.out]; exact len_update _ _ _) (fun q => by rw [← HCU.out]; exact update_down c r _ hrc q)
        have hrc' : r < cu.reps.length := by rw [← HCU.out, len_update]; exact hrc
        have hdn' : (cu.rep r).down = false := by rw [← HCU.out, update_down c r _ hrc]; exact hdn
        have hw' : cu.works (r : Int) = 0 := by rw [works_rep hrc', hdn']; rfl
        have hG : readErr cu r ty = 0 := by
          unfold readErr
          rw [hw']
          simp only [ne_eq, not_true_eq_false, if_false, Int.toNat_natCast]
          exact readCode_ok (fun a ha => hok'.may a ((hok'.rep hrc').sub a ((tell_told _).great a ha).1)) (by simp only [fineOp, decide_eq_true_eq] at hf; omega) (by simp only [fineOp, decide_eq_true_eq] at hf; omega)
        have hkz : key.size ≤ 1099511627776 := by simp only [fineOp, decide_eq_true_eq] at hf; omega
        have HRD2 := Hid.mk (fun W (hW : Pm Z1 W P x g cu D L) => hW.pRead hok' hLim' r ty key hkz)
        rw [hG] at HRD2
        simp only [hw', if_true] at HRD2
        have HST := Hid.mk (fun (Zx : Snap) W (hW : Pm Zx W P x g cu D L) => hW.lState hok' hLim' hi' ht' hr)
        have HM1 : Hid (∀ a ∈ (c.rep r).atoms, mayB a = true) := fun a ha => hok.may a ((hok.rep hrc).sub a ha)
        have HM2 : Hid (∀ a ∈ (cu.rep r).atoms, mayB a = true) := fun a ha => hok'.may a ((hok'.rep hrc').sub a ha)
        have HTL : Hid ((tell (cu.rep r).atoms).length ≤ 131072 ∧ (tell (c.rep r).atoms).length ≤ 131072) := ⟨(ok_tell hok' hLim' hw').2, (ok_tell hok hL (r := (r : Int)) (by rw [works_rep hrc, hdn]; rfl)).2⟩
        have HQ1 : Hid (Q = fun n es => ReadSpec (tell (c.rep r).atoms) ty key n es) := by
          show Q = _
          rw [HQ.out, works_rep hrc, hdn]
          rfl
        have HFN := Hid.mk hf
        have HHR := Hid.mk hrc
        have HHD := Hid.mk hdn
        simp only [Int.toNat_natCast] at HRD2
        clear hok hL hi ht hf HFX HF HQ hU' hok' hLim' hi' ht' hrc' hdn' hw' hG hkz
        obtain ⟨Q2, HQ2⟩ : ∃ Q2 : Int → List ByteArray → Prop, Hid (Q2 = fun n es => ReadSpec (tell (cu.rep r).atoms) ty key n es) := ⟨_, rfl⟩
        have HRD2' : Hid (∀ W, Pm Z1 W P x g cu D L → Calls Tryz.prog 56 #[.pointer (some ⟨x, 0, none⟩), .int .i64 r, .int .i64 ty, .string key] W fun e w' => ∃ n ad cp es, e = .returned (.tuple #[.agg #[.int .i64 n, .slice ad es.length cp], .int .i64 0]) ∧ Hid (w'.ownsRow W.heap.size 9 1 (.slice ad es.length cp) es.length (es.map Value.string)) ∧ Hid (Q2 n es) ∧ Below W.heap.size W w') := by
          rw [HQ2.out]
          exact HRD2
        clear HRD2
        have hlt2 := hz2.out.ltP
        have hl1 : w.heap.size < wA.heap.size := blk_lt HOC.out
        have hop2 := (HSM1.out _ (Nat.le_refl _) hl1).trans HOC.out
        have HOP2 := Hid.mk hop2
        have hl2 := blk_lt hop2
        obtain ⟨k0, t1, t2, t3, t4, t5⟩ := opc_blk hz2.out.cell0 hop2
        clear hop2
        rcases hE01 with rfl | rfl
        · go_wp2_with fail
          go_cut [10, 11] from 15 (fun t f we => ∃ b2 : Nat, t = .pointer (some ⟨b2, 0, none⟩) ∧ f = .int .i64 0 ∧ Hid (ReadIn Q2 wB we b2))
          case first =>
            go_region_law (first | (go_simp; go_at_call 56; refine (HRD2'.out _ (by first | exact hz2.out.same (Below.refl _ _).drew)).mono ?_; rintro e w1 ⟨n1, ad1, cp1, es1, rfl, ho1, hsp1, hb1⟩; have hfin := was_at1 hb1 ho1.out hsp1.out) | (go_simp; go_at_call 56; refine (HRD2'.out _ (by first | exact hz2.out.same (below_alloc (Below.refl _ _) _).drew)).mono ?_; rintro e w1 ⟨n1, ad1, cp1, es1, rfl, ho1, hsp1, hb1⟩; obtain ⟨z0, z1, z2, z3⟩ := rd_cells (b := wB.heap.size) rfl hb1; have hfin := was_at2 (b := wB.heap.size) rfl hb1 ho1.out hsp1.out) | fail)
            all_goals clear HRD2' HST HM1 HM2 HTL HQ1 HFN HQ2 HE HCU HOPV HPM HK1 HBC HOC hwas HSM1 hz2 hsz1 HOP2
            all_goals go_wp2
            all_goals go_meet
            all_goals (case rel => exact ⟨_, rfl, rfl, hfin⟩)
          case rest =>
            obtain ⟨b2, rfl, rfl, hv2⟩ := hcut
            obtain ⟨wC, hwC⟩ : ∃ wC, wC = wc := ⟨_, rfl⟩
            subst hwC
            obtain ⟨Z2, hZ2, -, back2⟩ := hz2.out.rebase hv2.out.bel
            have HK2 := Hid.mk back2
            have HS4 := Hid.mk (HST.out Z2 _ hZ2)
            clear k0 t1 t2 t3 t4 t5 hZ2 back2
            go_wp2_with fail
            refine HS4.out.mono ?_
            rintro e w4 ⟨rfl, h4⟩
            obtain ⟨h41, hsz2, hsame2⟩ := HK2.out _ _ _ _ h4
            obtain ⟨h40, hsz1', hsame1'⟩ := HK1.out _ _ _ _ h41
            have HF4 := Hid.mk h40
            obtain ⟨n, ad, cp, es, hwb, hwo, hwq⟩ := hwas.out.was
            obtain ⟨n2, ad2, cp2, es2, hvb, hvo, hvq⟩ := hv2.out.was
            have hW0 : w.heap.size ≤ (w.alloc (.cells #[.int .i64 ty, .string key, .int .i64 side, .string elem, .int .i64 on] 31)).heap.size := by simp
            have o4 := (hsame1' _ (Nat.le_refl _) hl1).trans HOC.out
            have b4 := (hsame1' b (Nat.le_trans hW0 hwas.out.b1) (blk_lt hwb)).trans hwb
            have v4 := (hsame2 b2 hv2.out.b1 (blk_lt hvb)).trans hvb
            have S1 : StrsOf w4 (.slice ad es.length cp) es := strs_keep hwo hsz1' (fun q h1 h2 => hsame1' q (Nat.le_trans hW0 h1) h2)
            have S2 : StrsOf w4 (.slice ad2 es2.length cp2) es2 := strs_keep hvo hsz2 hsame2
            obtain ⟨-, x1, x2, x3, x4, x5⟩ := opc_blk h40.cell0 o4
            have y0 := blk_cell b4 0
            have y1 := blk_cell b4 1
            have y2 := blk_cell v4 0
            have y3 := blk_cell v4 1
            simp at y0 y1 y2 y3
            clear h4 h41 h40 hsame1' hsame2 o4 b4 v4 HS4
            have hup := update_rep HHR.out HE.out r
            rw [if_pos rfl, HCU.out] at hup
            have hat : (cu.rep r).atoms = (c.rep r).atoms ++ [opAtom (c.rep r).atoms r ⟨ty, key, side, elem, on⟩] := by rw [hup, take_atoms]
            have hty : 1 ≤ ty ∧ ty ≤ 5 := by have := HFN.out; simp only [fineOp, decide_eq_true_eq] at this; omega
            rw [HQ1.out] at hwq
            rw [HQ2.out] at hvq
            have r1 := read_is HM1.out hty.1 hty.2 hwq
            have r2 := read_is HM2.out hty.1 hty.2 hvq
            have hm2 := HM2.out
            have htl2 := HTL.out.1
            rw [hat] at r2 hm2 htl2
            have hct := counts_of (r := r) HFN.out hm2
            simp only at hct
            rw [← r1.1, ← r1.2, ← r2.1, ← r2.2] at hct
            have hvb1 : -1125899906842624 ≤ n ∧ n ≤ 1125899906842624 := by
              rw [r1.1]
              exact valN_bound _ _ (fun a ha => HM1.out a ((tell_told _).great a ha).1) HTL.out.2
            have hle2 : es2.length ≤ 4194304 := by
              rw [r2.2]
              exact Nat.le_trans (valE_length _ _ _ _) (by omega)
            have HSV := Hid.mk (fun W (hW : Below w4.heap.size w4 W) => counts_true ⟨ty, key, side, elem, on⟩ n n2 (.slice ad es.length cp) (.slice ad2 es2.length cp2) es es2 W HFN.out hct (S1.below hW) (S2.below hW) hle2 hvb1.1 hvb1.2)
            unfold OpV.val at HSV
            simp only at HSV
            clear HRD2' HST HM1 HM2 HTL HQ1 HFN HQ2 HE HCU HOPV HPM HK1 HBC HOC hwas HSM1 hz2 hsz1 HOP2 HK2 hv2 S1 S2 hwq hvq hwo hvo hwb hvb hct r1 r2 hm2 htl2 hup hat hvb1 hle2
            go_wp2_with fail
            refine (HSV.out _ (by first | exact Below.refl _ _ | exact (Below.refl _ _).drew)).mono ?_
            rintro e w5 ⟨rfl, hb5⟩
            have HF5 := Hid.mk (HF4.out.same (by first | exact hb5 | exact (Below.refl _ _).drew.trans hb5))
            clear HSV HF4 hb5
            go_wp2
            go_ret
            exact ⟨rfl, _, HF5.out⟩
        · go_wp2_with fail
          go_cut [10, 11] from 15 (fun t f we => ∃ b2 : Nat, t = .pointer (some ⟨b2, 0, none⟩) ∧ f = .int .i64 0 ∧ Hid (ReadIn Q2 wB we b2))
          case first =>
            go_region_law (first | (go_simp; go_at_call 56; refine (HRD2'.out _ (by first | exact hz2.out.same (Below.refl _ _).drew)).mono ?_; rintro e w1 ⟨n1, ad1, cp1, es1, rfl, ho1, hsp1, hb1⟩; have hfin := was_at1 hb1 ho1.out hsp1.out) | (go_simp; go_at_call 56; refine (HRD2'.out _ (by first | exact hz2.out.same (below_alloc (Below.refl _ _) _).drew)).mono ?_; rintro e w1 ⟨n1, ad1, cp1, es1, rfl, ho1, hsp1, hb1⟩; obtain ⟨z0, z1, z2, z3⟩ := rd_cells (b := wB.heap.size) rfl hb1; have hfin := was_at2 (b := wB.heap.size) rfl hb1 ho1.out hsp1.out) | fail)
            all_goals clear HRD2' HST HM1 HM2 HTL HQ1 HFN HQ2 HE HCU HOPV HPM HK1 HBC HOC hwas HSM1 hz2 hsz1 HOP2
            all_goals go_wp2
            all_goals go_meet
            all_goals (case rel => exact ⟨_, rfl, rfl, hfin⟩)
          case rest =>
            obtain ⟨b2, rfl, rfl, hv2⟩ := hcut
            obtain ⟨wC, hwC⟩ : ∃ wC, wC = wc := ⟨_, rfl⟩
            subst hwC
            obtain ⟨Z2, hZ2, -, back2⟩ := hz2.out.rebase hv2.out.bel
            have HK2 := Hid.mk back2
            have HS4 := Hid.mk (HST.out Z2 _ hZ2)
            clear k0 t1 t2 t3 t4 t5 hZ2 back2
            go_wp2_with fail
            refine HS4.out.mono ?_
            rintro e w4 ⟨rfl, h4⟩
            obtain ⟨h41, hsz2, hsame2⟩ := HK2.out _ _ _ _ h4
            obtain ⟨h40, hsz1', hsame1'⟩ := HK1.out _ _ _ _ h41
            have HF4 := Hid.mk h40
            obtain ⟨n, ad, cp, es, hwb, hwo, hwq⟩ := hwas.out.was
            obtain ⟨n2, ad2, cp2, es2, hvb, hvo, hvq⟩ := hv2.out.was
            have hW0 : w.heap.size ≤ (w.alloc (.cells #[.int .i64 ty, .string key, .int .i64 side, .string elem, .int .i64 on] 31)).heap.size := by simp
            have o4 := (hsame1' _ (Nat.le_refl _) hl1).trans HOC.out
            have b4 := (hsame1' b (Nat.le_trans hW0 hwas.out.b1) (blk_lt hwb)).trans hwb
            have v4 := (hsame2 b2 hv2.out.b1 (blk_lt hvb)).trans hvb
            have S1 : StrsOf w4 (.slice ad es.length cp) es := strs_keep hwo hsz1' (fun q h1 h2 => hsame1' q (Nat.le_trans hW0 h1) h2)
            have S2 : StrsOf w4 (.slice ad2 es2.length cp2) es2 := strs_keep hvo hsz2 hsame2
            obtain ⟨-, x1, x2, x3, x4, x5⟩ := opc_blk h40.cell0 o4
            have y0 := blk_cell b4 0
            have y1 := blk_cell b4 1
            have y2 := blk_cell v4 0
            have y3 := blk_cell v4 1
            simp at y0 y1 y2 y3
            clear h4 h41 h40 hsame1' hsame2 o4 b4 v4 HS4
            have hcc : cu = c := by
              rw [← HCU.out]
              unfold Clu.update
              rw [if_neg (by rw [HE.out]; decide)]
            have hnn : n = n2 ∧ es = es2 := by
              rw [HQ1.out] at hwq
              rw [HQ2.out, hcc] at hvq
              exact hwq.unique hvq
            obtain ⟨rfl, rfl⟩ := hnn
            have HLE : Hid (es.length ≤ 281474976710656) := by
              rw [HQ1.out] at hwq
              have := (read_is HM1.out (by have := HFN.out; simp only [fineOp, decide_eq_true_eq] at this; omega) (by have := HFN.out; simp only [fineOp, decide_eq_true_eq] at this; omega) hwq).2
              rw [this]
              exact Nat.le_trans (valE_length _ _ _ _) (by have := HTL.out.2; omega)
            have HSV := Hid.mk (fun W (hW : Below w4.heap.size w4 W) => sameValues_any n (.slice ad es.length cp) (.slice ad2 es.length cp2) es W (S1.below hW) (S2.below hW) HLE.out)
            clear HRD2' HST HM1 HM2 HTL HQ1 HFN HQ2 HE HCU HOPV HPM HK1 HBC HOC hwas HSM1 hz2 hsz1 HOP2 HK2 hv2 S1 S2 hwq hvq hwo hvo hwb hvb hcc HLE
            go_wp2_with fail
            refine (HSV.out _ (by first | exact Below.refl _ _ | exact (Below.refl _ _).drew)).mono ?_
            rintro e w5 ⟨rfl, hb5⟩
            have HF5 := Hid.mk (HF4.out.same (by first | exact hb5 | exact (Below.refl _ _).drew.trans hb5))
            clear HSV HF4 hb5
            go_wp2
            go_ret
            exact ⟨rfl, _, HF5.out⟩
      · rw [hdn] at d0
        have hFE : F = 8 ∧ E = 8 := by
          constructor
          · rw [← HF.out]; unfold readErr; rw [works_rep hrc, hdn]; rfl
          · rw [← HE.out, opErr_of hrc hf, hdn]; rfl
        obtain ⟨rfl, rfl⟩ := hFE
        have HFIN := Hid.mk (HK1.out _ _ _ _ hz2.out).1
        clear hok hL hi ht hf HFX HF HE HQ HCU HOPV HPM HK1 HBC HOC hwas HSM1 hz2 hsz1
        go_wp2
        go_ret
        exact ⟨rfl, _, HFIN.out⟩
end
end Go.Proofs.YtahdlejgjcjeoabGreatDoor

namespace Go.Proofs.YtahdlejgjcjeoabGreatDoor
open Go.RowKit
end Go.Proofs.YtahdlejgjcjeoabGreatDoor

namespace Go.Proofs.YtahdlejgjcjeoabGreatDoor
open Go.RowKit
section
variable {Z : Snap} {w w' : World} {P x N : Nat} {g : Cf} {c : Clu} {D : List Bool} {L : List (List At)} {U : List At}
end
end Go.Proofs.YtahdlejgjcjeoabGreatDoor
