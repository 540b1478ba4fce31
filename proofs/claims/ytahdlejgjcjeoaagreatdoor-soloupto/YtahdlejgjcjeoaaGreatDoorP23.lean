/- The program's cluster: what a replica's calls make of it, step by step. No walk. -/
import Derived.Test.YtahdlejgjcjeoaaGreatDoorP09
import Derived.Test.YtahdlejgjcjeoaaGreatDoorP22
import Derived.Deep.RegionLaw
import Derived.Deep.DeepAppendRoom
import Derived.Test.YtahdlejgjcjeoaaGreatDoorP10
namespace Go.Proofs.YtahdlejgjcjeoaaGreatDoor
open Go.RowKit

/-- The cells of one step of the table. -/
def stepAt (w : World) (o : Nat) (ms n0 n1 me : Int) (mv : Bool) : Prop :=
  w.cell? ⟨1, o, none⟩ = some (.int .i64 ms) ∧ w.cell? ⟨1, o + 1, none⟩ = some (.int .i64 n0) ∧ w.cell? ⟨1, o + 2, none⟩ = some (.int .i64 n1) ∧ w.cell? ⟨1, o + 3, none⟩ = some (.int .i64 me) ∧ w.cell? ⟨1, o + 4, none⟩ = some (.bool mv)
/-- THE TABLE IS LAID. -/
def StepsAt (w : World) : Prop := 1 < w.heap.size ∧ stepAt w 0 0 1 1000 0 false ∧ stepAt w 5 0 (-1000) 1000 0 true ∧ stepAt w 10 0 0 0 8 false ∧ stepAt w 15 1 0 0 8 false ∧ stepAt w 20 0 0 0 8 false
theorem stepAt.block {w w' : World} (hb : w'.heap[1]? = w.heap[1]?) {o : Nat} {a b c d : Int} {r : Bool} (h : stepAt w o a b c d r) : stepAt w' o a b c d r := by
  obtain ⟨c0, c1, c2, c3, c4⟩ := h
  refine ⟨?_, ?_, ?_, ?_, ?_⟩ <;> (rw [World.cell?_of_block (w := w) hb]; assumption)
theorem StepsAt.block {w w' : World} (h : StepsAt w) (hb : w'.heap[1]? = w.heap[1]?) (hs : w.heap.size ≤ w'.heap.size) : StepsAt w' := by
  obtain ⟨h1, r1, r2, r3, r4, r5⟩ := h
  exact ⟨Nat.lt_of_lt_of_le h1 hs, r1.block hb, r2.block hb, r3.block hb, r4.block hb, r5.block hb⟩
theorem StepsAt.below {w w' : World} (h : StepsAt w) {B : Nat} (hb : Below B w w') (h1 : 1 < B) : StepsAt w' := h.block (hb.block 1 h1) hb.size

set_option maxHeartbeats 2000000 in
theorem isOp_any (o : OpV) (w : World) (h : StepsAt w) (ho : o.short) :
    Calls Tryz.prog 165 #[o.val] w fun e w' => e = .returned (.bool (fineOp o)) ∧ Below w.heap.size w w' := by
  obtain ⟨ty, key, side, elem, n⟩ := o
  simp only [OpV.short] at ho
  obtain ⟨hk, he⟩ := ho
  obtain ⟨h0, r1, r2, r3, r4, r5⟩ := h
  unfold OpV.val
  simp only
  by_cases ht : 1 ≤ ty ∧ ty ≤ 5
  · have hwt : wi ty 1 5 = true := (wi_iff _ _ _).2 ht
    rcases kinds5 ht.1 ht.2 with rfl | rfl | rfl | rfl | rfl
    · obtain ⟨c0, c1, c2, c3, c4⟩ := r1
      clear r2 r3 r4 r5
      go_enter Tryz.func165, Tryz.ntmps165
      go_wp2_with (first | (go_at_call 140; refine (isType_any _ _).mono ?_; rintro e w' ⟨rfl, rfl⟩) | (go_at_call 180; refine (within_any _ _ _ _).mono ?_; rintro e w' ⟨rfl, rfl⟩))
      all_goals go_ret
      all_goals go_light
      all_goals refine ⟨ret_bool ?_, by repeat (first | exact Below.refl _ _ | refine below_drewN ?_ _ | refine Below.setCell ?_ (by simp) _ | refine Below.alloc ?_ (by simp) _)⟩
      all_goals clear c0 c1 c2 c3 c4
      all_goals rw [Bool.eq_iff_iff]
      all_goals unfold fineOp
      all_goals dsimp only
      all_goals generalize key.size = ks at *
      all_goals generalize elem.size = es at *
      all_goals simp only [decide_eq_true_eq, Bool.false_eq_true, wi_iff, false_iff] at *
      all_goals first | omega | (simp_all; done) | (simp_all; omega) | (simp_all [wi_iff]; omega)
    · obtain ⟨c0, c1, c2, c3, c4⟩ := r2
      clear r1 r3 r4 r5
      go_enter Tryz.func165, Tryz.ntmps165
      go_wp2_with (first | (go_at_call 140; refine (isType_any _ _).mono ?_; rintro e w' ⟨rfl, rfl⟩) | (go_at_call 180; refine (within_any _ _ _ _).mono ?_; rintro e w' ⟨rfl, rfl⟩))
      all_goals go_ret
      all_goals go_light
      all_goals refine ⟨ret_bool ?_, by repeat (first | exact Below.refl _ _ | refine below_drewN ?_ _ | refine Below.setCell ?_ (by simp) _ | refine Below.alloc ?_ (by simp) _)⟩
      all_goals clear c0 c1 c2 c3 c4
      all_goals rw [Bool.eq_iff_iff]
      all_goals unfold fineOp
      all_goals dsimp only
      all_goals generalize key.size = ks at *
      all_goals generalize elem.size = es at *
      all_goals simp only [decide_eq_true_eq, Bool.false_eq_true, wi_iff, false_iff] at *
      all_goals first | omega | (simp_all; done) | (simp_all; omega) | (simp_all [wi_iff]; omega)
    · obtain ⟨c0, c1, c2, c3, c4⟩ := r3
      clear r1 r2 r4 r5
      go_enter Tryz.func165, Tryz.ntmps165
      go_wp2_with (first | (go_at_call 140; refine (isType_any _ _).mono ?_; rintro e w' ⟨rfl, rfl⟩) | (go_at_call 180; refine (within_any _ _ _ _).mono ?_; rintro e w' ⟨rfl, rfl⟩))
      all_goals go_ret
      all_goals go_light
      all_goals refine ⟨ret_bool ?_, by repeat (first | exact Below.refl _ _ | refine below_drewN ?_ _ | refine Below.setCell ?_ (by simp) _ | refine Below.alloc ?_ (by simp) _)⟩
      all_goals clear c0 c1 c2 c3 c4
      all_goals rw [Bool.eq_iff_iff]
      all_goals unfold fineOp
      all_goals dsimp only
      all_goals generalize key.size = ks at *
      all_goals generalize elem.size = es at *
      all_goals simp only [decide_eq_true_eq, Bool.false_eq_true, wi_iff, false_iff] at *
      all_goals first | omega | (simp_all; done) | (simp_all; omega) | (simp_all [wi_iff]; omega)
    · obtain ⟨c0, c1, c2, c3, c4⟩ := r4
      clear r1 r2 r3 r5
      go_enter Tryz.func165, Tryz.ntmps165
      go_wp2_with (first | (go_at_call 140; refine (isType_any _ _).mono ?_; rintro e w' ⟨rfl, rfl⟩) | (go_at_call 180; refine (within_any _ _ _ _).mono ?_; rintro e w' ⟨rfl, rfl⟩))
      all_goals go_ret
      all_goals go_light
      all_goals refine ⟨ret_bool ?_, by repeat (first | exact Below.refl _ _ | refine below_drewN ?_ _ | refine Below.setCell ?_ (by simp) _ | refine Below.alloc ?_ (by simp) _)⟩
      all_goals clear c0 c1 c2 c3 c4
      all_goals rw [Bool.eq_iff_iff]
      all_goals unfold fineOp
      all_goals dsimp only
      all_goals generalize key.size = ks at *
      all_goals generalize elem.size = es at *
      all_goals simp only [decide_eq_true_eq, Bool.false_eq_true, wi_iff, false_iff] at *
      all_goals first | omega | (simp_all; done) | (simp_all; omega) | (simp_all [wi_iff]; omega)
    · obtain ⟨c0, c1, c2, c3, c4⟩ := r5
      clear r1 r2 r3 r4
      go_enter Tryz.func165, Tryz.ntmps165
      go_wp2_with (first | (go_at_call 140; refine (isType_any _ _).mono ?_; rintro e w' ⟨rfl, rfl⟩) | (go_at_call 180; refine (within_any _ _ _ _).mono ?_; rintro e w' ⟨rfl, rfl⟩))
      all_goals go_ret
      all_goals go_light
      all_goals refine ⟨ret_bool ?_, by repeat (first | exact Below.refl _ _ | refine below_drewN ?_ _ | refine Below.setCell ?_ (by simp) _ | refine Below.alloc ?_ (by simp) _)⟩
      all_goals clear c0 c1 c2 c3 c4
      all_goals rw [Bool.eq_iff_iff]
      all_goals unfold fineOp
      all_goals dsimp only
      all_goals generalize key.size = ks at *
      all_goals generalize elem.size = es at *
      all_goals simp only [decide_eq_true_eq, Bool.false_eq_true, wi_iff, false_iff] at *
      all_goals first | omega | (simp_all; done) | (simp_all; omega) | (simp_all [wi_iff]; omega)
  · have hwt : wi ty 1 5 = false := (wi_false _ _ _).2 ht
    clear r1 r2 r3 r4 r5
    go_enter Tryz.func165, Tryz.ntmps165
    go_wp2_with (first | (go_at_call 140; refine (isType_any _ _).mono ?_; rintro e w' ⟨rfl, rfl⟩) | (go_at_call 180; refine (within_any _ _ _ _).mono ?_; rintro e w' ⟨rfl, rfl⟩))
    go_ret
    go_light
    refine ⟨ret_bool ?_, by repeat (first | exact Below.refl _ _ | refine below_drewN ?_ _ | refine Below.setCell ?_ (by simp) _ | refine Below.alloc ?_ (by simp) _)⟩
    rw [Bool.eq_iff_iff]
    simp only [fineOp, decide_eq_true_eq, Bool.false_eq_true, false_iff] at *
    omega
end Go.Proofs.YtahdlejgjcjeoaaGreatDoor

namespace Go.Proofs.YtahdlejgjcjeoaaGreatDoor
open Go.RowKit

def zeroE : List Value := [.int .i64 0, .int .i64 0, .slice none 0 0]
theorem infoEnt : (Tryz.prog.info? 86).map (fun i => (i.zero, i.size, i.bytes)) = some (some (.agg zeroE.toArray), 3, 40) := by kernel_rfl
theorem zeroEnt (w : World) : (zeroValue 86).run Tryz.prog w = .ok (.agg zeroE.toArray) w := by kernel_rfl
theorem three_oneP {a b : Int} {ad : Option Addr} {n c : Nat} : ∀ u ∈ [Value.int .i64 a, .int .i64 b, .slice ad n c], u.oneCell' = true := by
  intro u hu
  simp at hu
  rcases hu with rfl | rfl | rfl <;> rfl
/-- clear of one element. -/
theorem clear_one (w : World) (t e ty : TypeId) (z : List Value) (ht : Tryz.prog.underlying t = some (.slice e)) (hv : ∀ w, (zeroValue e).run Tryz.prog w = .ok (.agg z.toArray) w) (h1 : ∀ u ∈ z, u.oneCell' = true) (b o c : Nat)
    (hc : ∀ j, j < z.length → (w.cell? ⟨b, o + j, none⟩).isSome = true) (hf : ∀ j, j < z.length → w.frozen? ⟨b, o + j, none⟩ = false) :
    (Builtin.clear_ #[t] ty #[.slice (some ⟨b, o, none⟩) 1 c]).run Tryz.prog w = .ok (.tuple #[]) (w.setCells b o z) := by
  have hz : (Builtin.zeroCells (Value.agg z.toArray).cells 1).toList = z := by
    simp [Builtin.zeroCells, Value.cells]
    apply List.ext_getElem
    · simp
    · intro n h1 h2
      have : n < z.length := h2
      simp [Nat.mod_eq_of_lt this, this]
  have hst := run_storeCells_cells (P := Tryz.prog) b o z 0 w (by simpa using hc) (by simpa using hf) h1
  simp only [Nat.add_zero] at hst
  simp [Builtin.clear_, run_underlying ht, hv, hz, hst]
theorem own_cells {w : World} {base g cap n s : Nat} {e : TypeId} {xs : List Value} (h : w.ownsRow base e s (.slice (some ⟨g, 0, none⟩) n cap) n xs) : (∀ k u, xs[k]? = some u → w.cell? ⟨g, k, none⟩ = some u) ∧ n ≤ cap ∧ cap ≤ maxLen ∧ xs.length = n * s ∧ ∀ k, w.frozen? ⟨g, k, none⟩ = false := by
  rcases h.2 with ⟨h0, _⟩ | ⟨g', cap', cur, hv, hg, hb, h1, h2, h3, h4⟩
  · cases h0
  · cases hv
    refine ⟨fun k u hu => ?_, h1, h2, h.1, fun k => by simp [World.frozen?, hb]⟩
    have := h.cells (g := g) rfl k u hu
    rwa [Addr.add_lit, Nat.zero_add] at this
theorem cells_some (vs : List Value) {b o : Nat} (k : Nat) {w : World} (h : (w.cell? ⟨b, k, none⟩).isSome = true) : ((w.setCells b o vs).cell? ⟨b, k, none⟩).isSome = true := by
  induction vs generalizing o w with
  | nil => exact h
  | cons v r ih =>
    refine ih ?_
    by_cases e : o = k
    · subst e
      obtain ⟨u, hu⟩ := Option.isSome_iff_exists.1 h
      rw [World.cell?_setCell_same _ _ _ hu]
      rfl
    · rw [World.cell?_setCell_other _ _ _ _ (by simp only [ne_eq, Addr.mk.injEq, true_and, and_true]; omega)]
      exact h
theorem frozen_setCells (vs : List Value) {b o : Nat} (a : Addr) {w : World} : (w.setCells b o vs).frozen? a = w.frozen? a := by
  induction vs generalizing o w with
  | nil => rfl
  | cons v r ih => exact (ih (o := o + 1) (w := w.setCell ⟨b, o, none⟩ v)).trans (World.frozen?_setCell ..)

set_option maxHeartbeats 1000000 in
set_option maxRecDepth 100000 in
theorem delEnt (g cap n i j : Nat) (xs : List Value) (w : World) (own : w.ownsRow 0 86 3 (.slice (some ⟨g, 0, none⟩) n cap) n xs) (h1 : ∀ u ∈ xs, u.oneCell' = true) (hj : j = i + 1) (hi : i < n) :
    Calls Tryz.prog 108 #[.slice (some ⟨g, 0, none⟩) n cap, .int .i64 i, .int .i64 j] w fun e w' => e = .returned (.slice (some ⟨g, 0, none⟩) (n - 1) cap) ∧ w' = (w.drew.setCells g (i * 3) (xs.drop (j * 3))).setCells g ((n - 1) * 3) zeroE := by
  obtain ⟨i0, hi0, hz0, hz1, hz2⟩ := info_parts infoEnt
  obtain ⟨hc, hlc, hm, hxl, hfz⟩ := own_cells own
  have hnc : n ≤ cap := hlc
  have hcm : cap ≤ 9223372036854775807 := by unfold maxLen at hm; omega
  generalize hnews : xs.drop (j * 3) = news
  have hlen : news.length = (n - j) * 3 := by rw [← hnews, List.length_drop, hxl, ← Nat.sub_mul]
  obtain ⟨A, hA, hsrc⟩ : ∃ A : Addr, (if cap = j then some (⟨g, 0, none⟩ : Addr) else some ⟨g, j * 3, none⟩) = some A ∧ Hid (∀ t u, news[t]? = some u → w.drew.cell? (A.add t) = some u) := by
    by_cases h : cap = j
    · refine ⟨⟨g, 0, none⟩, by simp [h], fun t u hu => ?_⟩
      have h0 : news.length = 0 := by rw [hlen]; omega
      rw [List.length_eq_zero_iff.1 h0] at hu
      simp at hu
    · refine ⟨⟨g, j * 3, none⟩, by simp [h], fun t u hu => ?_⟩
      rw [← hnews, List.getElem?_drop] at hu
      rw [Addr.add_lit]
      exact hc _ u hu
  have s1 : Hid (news.length = (n - j) * 3) := hlen
  have s2 : Hid (∀ u ∈ news, u.oneCell' = true) := fun u hu => h1 u (by rw [← hnews] at hu; exact List.mem_of_mem_drop hu)
  have s3 : Hid (∀ t, t < news.length → (w.drew.cell? ⟨g, 0 + i * 3 + t, none⟩).isSome = true ∧ w.drew.frozen? ⟨g, 0 + i * 3 + t, none⟩ = false) := by
    intro t ht
    rw [hlen] at ht
    have hlt : 0 + i * 3 + t < xs.length := by rw [hxl]; omega
    refine ⟨?_, hfz _⟩
    show (w.cell? _).isSome = true
    rw [hc _ _ (List.getElem?_eq_getElem hlt)]
    rfl
  obtain ⟨W1, hW1⟩ : ∃ W1, W1 = w.drew.setCells g (0 + i * 3) news := ⟨_, rfl⟩
  have hsome : ∀ t, t < xs.length → (W1.cell? ⟨g, t, none⟩).isSome = true := fun t ht => by
    rw [hW1]
    exact cells_some news _ (by show (w.cell? _).isSome = true; rw [hc _ _ (List.getElem?_eq_getElem ht)]; rfl)
  have hnj : i + (n - j) = n - 1 := by omega
  have hcl : ∀ ty, (Builtin.clear_ #[82] ty #[.slice (some ⟨g, (i + (n - j)) * 3, none⟩) (n - (i + (n - j))) (cap - (i + (n - j)))]).run Tryz.prog W1 = .ok (.tuple #[]) (W1.setCells g ((n - 1) * 3) zeroE) := by
    intro ty
    rw [hnj, show n - (n - 1) = 1 by omega]
    exact clear_one W1 82 86 ty zeroE Tryz.underlying82 zeroEnt (by decide) g _ _ (fun t ht => hsome _ (by rw [hxl]; have : t < 3 := ht; omega)) (fun t _ => by rw [hW1, frozen_setCells]; exact hfz _)
  have hW : Hid (W1 = w.drew.setCells g (0 + i * 3) news) := hW1
  have hic : i ≤ cap := by omega
  have hjc : j ≤ cap := by omega
  have hlt : i < j := by omega
  have hjn : j ≤ n := by omega
  have HN : Hid (i + (n - j) = n - 1) := hnj
  clear hnj hsome hlen hnews hW1 hc own hfz hj hi hxl hm hlc
  go_enter Tryz.func108, Tryz.ntmps108
  go_wp2_with fail
  go_region_law (refine step_append_room rfl (.tmp 22) (.tmp 25) 82 rfl 86 i0 3 Tryz.underlying82 hi0 hz1 g 0 i cap (by simp [Act.eval, Act.put]) A (n - j) (cap - j) news (by simp [Act.eval, Act.put]) s1.out hsrc.out s2.out (by omega) s3.out ?_; rw [← hW.out])
  go_wp2
  go_ret
  refine ⟨by rw [HN.out]; rfl, ?_⟩
  rw [hW.out, Nat.zero_add]

/-- The cells of a block, some of them written anew. -/
def putA (cur : Array Value) (o : Nat) : List Value → Array Value
  | [] => cur
  | v :: r => putA (cur.setIfInBounds o v) (o + 1) r
theorem heap_putA {g : Nat} {e : TypeId} {fz : Nat × Nat} (vs : List Value) : ∀ {w : World} {cur : Array Value} (o : Nat), w.heap[g]? = some (.cells cur e fz) → (w.setCells g o vs).heap[g]? = some (.cells (putA cur o vs) e fz) := by
  induction vs with
  | nil => intro w cur o h; exact h
  | cons v r ih => intro w cur o h; exact ih (o + 1) (heap_setCell_at h v)
theorem putA_size (vs : List Value) : ∀ (cur : Array Value) (o : Nat), (putA cur o vs).size = cur.size := by
  induction vs with
  | nil => intro cur o; rfl
  | cons v r ih => intro cur o; rw [putA, ih]; simp
theorem putA_get (vs : List Value) : ∀ (cur : Array Value) (o k : Nat), o + vs.length ≤ cur.size → (putA cur o vs)[k]? = if o ≤ k ∧ k < o + vs.length then vs[k - o]? else cur[k]? := by
  induction vs with
  | nil => intro cur o k h; simp [putA]; omega
  | cons v r ih =>
    intro cur o k h
    rw [List.length_cons] at h
    rw [putA, ih _ _ _ (by simp; omega), List.length_cons]
    by_cases h1 : k = o
    · subst h1
      have : k < cur.size := by omega
      rw [if_neg (by omega), if_pos (by omega)]
      simp [this]
    · by_cases h2 : o + 1 ≤ k ∧ k < o + 1 + r.length
      · rw [if_pos h2, if_pos (by omega), show k - o = (k - (o + 1)) + 1 by omega, List.getElem?_cons_succ]
      · rw [if_neg h2, if_neg (by omega)]
        simp [Ne.symm h1]
theorem RowC.del {w : World} {col : Col} {κ : Nat × Nat} {e : TypeId} {s n g cap i : Nat} {xs zl : List Value} (h : RowC w col κ e s (.slice (some ⟨g, 0, none⟩) n cap) n xs) (hi : i < n) (hz : zl.length = s) :
    RowC ((w.drew.setCells g (i * s) (xs.drop ((i + 1) * s))).setCells g ((n - 1) * s) zl) col κ e s (.slice (some ⟨g, 0, none⟩) (n - 1) cap) (n - 1) (xs.take (i * s) ++ xs.drop ((i + 1) * s)) ∧ FrC (fun x => x = κ) col col w ((w.drew.setCells g (i * s) (xs.drop ((i + 1) * s))).setCells g ((n - 1) * s) zl) := by
  have hcg : col g = κ := h.col g rfl
  have hgr : w.grownBy ((w.drew.setCells g (i * s) (xs.drop ((i + 1) * s))).setCells g ((n - 1) * s) zl) (some g) :=
    grown_trans (grown_dry (grown_setCells _ _ _)) (grown_setCells _ _ _)
  refine ⟨⟨?_, fun q hq => by cases hq; exact hcg⟩, ⟨(Fr.refl _ w).step hgr (fun q hq => by cases hq; exact .inr hcg), fun _ _ => rfl⟩⟩
  rcases h.own.2 with ⟨h0, _⟩ | ⟨g', cap', cur, hv, hg, hh, h1, h2, h3, h4⟩
  · cases h0
  cases hv
  have hxl := h.own.1
  have e1 : n * s = (n - 1) * s + s := by rw [← Nat.succ_mul]; congr 1; omega
  have e2 : (i + 1) * s = i * s + s := Nat.succ_mul i s
  have e3 : i * s ≤ (n - 1) * s := Nat.mul_le_mul_right s (by omega)
  have e4 : n * s ≤ cap * s := Nat.mul_le_mul_right s h1
  refine ⟨by rw [List.length_append, List.length_take, List.length_drop, hxl]; omega, .inr ⟨g, cap, _, rfl, hg, heap_putA zl _ (heap_putA (xs.drop ((i + 1) * s)) _ (show w.drew.heap[g]? = _ from hh)), by omega, h2, by rw [putA_size, putA_size]; exact h3, ?_⟩⟩
  apply List.ext_getElem?
  intro k
  by_cases hk : k < (n - 1) * s
  · rw [List.getElem?_take_of_lt hk, Array.getElem?_toList, putA_get _ _ _ _ (by rw [putA_size, hz]; omega), if_neg (by omega), putA_get _ _ _ _ (by rw [List.length_drop, hxl]; omega), List.length_drop, hxl]
    by_cases h5 : k < i * s
    · rw [if_neg (by omega), List.getElem?_append_left (by rw [List.length_take, hxl]; omega), List.getElem?_take_of_lt h5, ← h4, List.getElem?_take_of_lt (by omega), Array.getElem?_toList]
    · rw [if_pos (by omega), List.getElem?_append_right (by rw [List.length_take, hxl]; omega), List.length_take, hxl, Nat.min_eq_left (by omega)]
  · rw [List.getElem?_eq_none (by rw [List.length_take]; omega), List.getElem?_eq_none (by rw [List.length_append, List.length_take, List.length_drop, hxl]; omega)]
end Go.Proofs.YtahdlejgjcjeoaaGreatDoor

namespace Go.Proofs.YtahdlejgjcjeoaaGreatDoor
open Go.RowKit

/-- The tables are laid, and are nobody's. -/
structure Tab (w : World) (col : Col) : Prop where
  rules : RulesAt w
  steps : StepsAt w
  c0 : col 0 = (0, 0)
  c1 : col 1 = (0, 0)
theorem RulesAt.block {w w' : World} (h : RulesAt w) (hb : w'.heap[0]? = w.heap[0]?) (hs : w.heap.size ≤ w'.heap.size) : RulesAt w' := by
  obtain ⟨h1, r1, r2, r3, r4, r5⟩ := h
  have : ∀ {o : Nat} {a b c d e : Int} {r : Bool}, ruleAt w o a b c d e r → ruleAt w' o a b c d e r := by
    intro o a b c d e r h
    obtain ⟨c0, c1, c2, c3, c4, c5⟩ := h
    refine ⟨?_, ?_, ?_, ?_, ?_, ?_⟩ <;> (rw [World.cell?_of_block (w := w) hb]; assumption)
  exact ⟨Nat.lt_of_lt_of_le h1 hs, this r1, this r2, this r3, this r4, this r5⟩
theorem Tab.kept {w w' : World} {col col' : Col} {S : Nat × Nat → Prop} (h : Tab w col) (hf : FrC S col col' w w') (hS : ¬ S (0, 0)) : Tab w' col' where
  rules := h.rules.block (hf.fr.block 0 h.rules.1 (by rw [h.c0]; exact hS)) hf.size
  steps := h.steps.block (hf.fr.block 1 h.steps.1 (by rw [h.c1]; exact hS)) hf.size
  c0 := (hf.col 0 h.rules.1).trans h.c0
  c1 := (hf.col 1 h.steps.1).trans h.c1
theorem Tab.below {w w' : World} {col : Col} (h : Tab w col) (hb : Below w.heap.size w w') : Tab w' col := h.kept (S := fun _ => False) (frC_same hb) id
theorem ofPrg_tab {o i : Nat} (ho : o ≠ 0) : ¬ ofPrg o i (0, 0) := by
  rintro (h | h)
  · exact ho (congrArg Prod.fst h).symm
  · exact ho h.1.symm
theorem ofPrg_one {o i : Nat} (_hi : i < 6) : ¬ ofPrg o i (o, 1) := by
  rintro (h | h)
  · have := congrArg Prod.snd h; simp at this
  · have := h.2.1; simp at this

/-- A replica, with all that hangs on it, in its cluster. -/
structure PrI (w : World) (col : Col) (o x i : Nat) (K : PrK) (D : PrD) : Prop where
  b : PrB w col o x (some i) (K.setD i D)
  p : PrRep w col o i D
  h6 : K.Ds.length ≤ 6
  hi : i < K.Ds.length
theorem PrI.cells {w : World} {col : Col} {o x i : Nat} {K : PrK} {D : PrD} (h : PrI w col o x i K D) : Cells14 w K.R i D := by
  have hi' : i < (K.setD i D).Ds.length := by rw [K.setD_len]; exact h.hi
  have := h.b.cells hi'
  rw [K.setD_at] at this
  exact this
theorem PrI.same {w w' : World} {col : Col} {o x i : Nat} {K : PrK} {D : PrD} (h : PrI w col o x i K D) (hb : Below w.heap.size w w') : PrI w' col o x i K D :=
  ⟨h.b.same hb, h.p.kept (S := fun _ => False) (frC_same hb) id id id id, h.h6, h.hi⟩
theorem PrI.close {w : World} {col : Col} {o x i : Nat} {K : PrK} {D : PrD} (h : PrI w col o x i K D) : PrAt w col o x (K.setD i D) := h.b.close fun _ => by rw [K.setD_at]; exact h.p
theorem PrAt.inside {w : World} {col : Col} {o x i : Nat} {K : PrK} (h : PrAt w col o x K) (h6 : K.Ds.length ≤ 6) (hi : i < K.Ds.length) : PrI w col o x i K K.Ds[i] := by
  obtain ⟨h1, h2⟩ := PrB.open h hi
  exact ⟨h1.self hi, h2, h6, hi⟩
theorem ne2 {o j : Nat} (h : j ≠ 2) : ¬ ((o, j) = (o, 2)) := fun e => h (congrArg Prod.snd e)
theorem neκ {o j k : Nat} (h : j ≠ k) : ¬ ((o, j) = (o, k)) := fun e => h (congrArg Prod.snd e)
theorem rep_of {o i k : Nat} (hi : i < 6) (hk : k = 1 ∨ k = 2 ∨ k = 5) : ∀ κ : Nat × Nat, κ = (o, k * 10 + i) → ofRep o i κ := fun κ e => by
  rw [e]
  exact ⟨rfl, by show 10 ≤ k * 10 + i; omega, by show (k * 10 + i) % 10 = i; omega⟩
/-- A number of the replica is written. -/
theorem PrI.put {w : World} {col : Col} {o x i k : Nat} {K : PrK} {D : PrD} {u : Value} (h : PrI w col o x i K D) (hk : k < 14) (D' : PrD) (hD : D.cells.set k u = D'.cells) (e1 : D'.b = D.b) (e2 : D'.n = D.n) (e3 : D'.M = D.M) (e4 : D'.vb = D.vb) (e5 : D'.es = D.es) (e6 : D'.vl = D.vl) (e7 : D'.bytes = D.bytes) :
    PrI (w.setCell ⟨K.R, i * 14 + k, none⟩ u) col o x i K D' ∧ FrC (ofPrg o i) col col w (w.setCell ⟨K.R, i * 14 + k, none⟩ u) := by
  obtain ⟨h1, hf⟩ := h.b.put2 h.hi hk D' hD
  have h2 := h.p.kept hf (ne2 (by omega)) (ne2 (by omega)) (ne2 (by omega)) (ne2 (by omega))
  refine ⟨⟨h1, ⟨by rw [e1, e2, e3]; exact h2.st, by rw [e1]; exact h2.cb, by rw [e4, e5]; exact h2.buf, by rw [e5]; exact h2.ed, by rw [e6, e7]; exact h2.log⟩, h.h6, h.hi⟩, hf.mono fun _ e => .inl e⟩
/-- The log is another. -/
theorem PrI.newLog {w w2 : World} {col col2 : Col} {o x i : Nat} {K : PrK} {D : PrD} {vl : Value} {bs : List UInt8} (h : PrI w col o x i K D) (hf : FrC (fun κ => κ = (o, 50 + i)) col col2 w w2) (hrow : RowC w2 col2 (o, 50 + i) 5 1 vl bs.length (bcells bs)) :
    PrI (w2.setCell ⟨K.R, i * 14 + 11, none⟩ vl) col2 o x i K { D with vl := vl, bytes := bs } ∧ FrC (ofPrg o i) col col2 w (w2.setCell ⟨K.R, i * 14 + 11, none⟩ vl) := by
  have hi6 : i < 6 := Nat.lt_of_lt_of_le h.hi h.h6
  have h1 := h.b.rest (by rw [K.setD_len]; exact h.h6) (by rw [K.setD_len]; exact h.hi) (hf.mono (rep_of hi6 (k := 5) (by omega)))
  have h2 : PrRep w2 col2 o i { D with vl := vl, bytes := bs } :=
    ⟨h.p.st.block (hf.fr.block _ h.p.st.lt (by rw [h.p.cb]; exact neκ (by omega))), (hf.col _ h.p.st.lt).trans h.p.cb, h.p.buf.kept hf (neκ (by omega)), fun e he => (h.p.ed e he).kept hf (neκ (by omega)), hrow⟩
  obtain ⟨h3, hf3⟩ := h1.put2 h.hi (k := 11) (u := vl) (by omega) { D with vl := vl, bytes := bs } rfl
  exact ⟨⟨h3, h2.kept hf3 (ne2 (by omega)) (ne2 (by omega)) (ne2 (by omega)) (ne2 (by omega)), h.h6, h.hi⟩, (hf.mono fun κ e => .inr (rep_of hi6 (k := 5) (by omega) κ e)).trans (hf3.mono fun _ e => .inl e)⟩
/-- The buffer is another. -/
theorem PrI.newBuf {w w2 : World} {col col2 : Col} {o x i : Nat} {K : PrK} {D : PrD} {vb : Value} {es : List Pe} (h : PrI w col o x i K D) (hf : FrC (fun κ => κ = (o, 20 + i)) col col2 w w2) (hrow : RowC w2 col2 (o, 20 + i) 86 3 vb es.length (es.flatMap Pe.cells)) (hed : ∀ e ∈ es, Held w2 col2 (o, 1) e.v e.d) :
    PrI (w2.setCell ⟨K.R, i * 14 + 4, none⟩ vb) col2 o x i K { D with vb := vb, es := es } ∧ FrC (ofPrg o i) col col2 w (w2.setCell ⟨K.R, i * 14 + 4, none⟩ vb) := by
  have hi6 : i < 6 := Nat.lt_of_lt_of_le h.hi h.h6
  have h1 := h.b.rest (by rw [K.setD_len]; exact h.h6) (by rw [K.setD_len]; exact h.hi) (hf.mono (rep_of hi6 (k := 2) (by omega)))
  have h2 : PrRep w2 col2 o i { D with vb := vb, es := es } :=
    ⟨h.p.st.block (hf.fr.block _ h.p.st.lt (by rw [h.p.cb]; exact neκ (by omega))), (hf.col _ h.p.st.lt).trans h.p.cb, hrow, hed, h.p.log.kept hf (neκ (by omega))⟩
  obtain ⟨h3, hf3⟩ := h1.put2 h.hi (k := 4) (u := vb) (by omega) { D with vb := vb, es := es } rfl
  exact ⟨⟨h3, h2.kept hf3 (ne2 (by omega)) (ne2 (by omega)) (ne2 (by omega)) (ne2 (by omega)), h.h6, h.hi⟩, (hf.mono fun κ e => .inr (rep_of hi6 (k := 2) (by omega) κ e)).trans (hf3.mono fun _ e => .inl e)⟩
/-- The state is another. -/
theorem PrI.newSt {w w2 : World} {col : Col} {o x i n : Nat} {K : PrK} {D : PrD} {M : Sl → Option Gr} (h : PrI w col o x i K D) (hg : w.grownBy w2 (some D.b)) (hst : StMap w2 D.b n M) :
    PrI w2 (paint col w.heap.size (o, 10 + i)) o x i K { D with n := n, M := M } ∧ FrC (ofPrg o i) col (paint col w.heap.size (o, 10 + i)) w w2 := by
  have hi6 : i < 6 := Nat.lt_of_lt_of_le h.hi h.h6
  have hf : FrC (fun κ => κ = (o, 10 + i)) col (paint col w.heap.size (o, 10 + i)) w w2 := ⟨(Fr.refl _ w).step hg (fun q hq => by cases hq; exact .inr h.p.cb), fun q hq => paint_old col _ hq⟩
  have h1 := (h.b.rest (by rw [K.setD_len]; exact h.h6) (by rw [K.setD_len]; exact h.hi) (hf.mono (rep_of hi6 (k := 1) (by omega)))).as { D with n := n, M := M } (fun hi => by rw [K.setD_at]; rfl)
  rw [K.setD_setD] at h1
  exact ⟨⟨h1, ⟨hst, (hf.col _ h.p.st.lt).trans h.p.cb, h.p.buf.kept hf (neκ (by omega)), fun e he => (h.p.ed e he).kept hf (neκ (by omega)), h.p.log.kept hf (neκ (by omega))⟩, h.h6, h.hi⟩, hf.mono fun κ e => .inr (rep_of hi6 (k := 1) (by omega) κ e)⟩
/-- The blocks that a replica's row is no part of. -/
theorem PrI.apart {w : World} {col : Col} {o x i : Nat} {K : PrK} {D : PrD} (h : PrI w col o x i K D) : D.b ≠ K.R ∧ (∀ q, D.vb.ownBlock = some q → q ≠ K.R) ∧ (∀ q, D.vl.ownBlock = some q → q ≠ K.R) := by
  have hR : col K.R = (o, 2) := h.b.cR
  refine ⟨fun e => ?_, fun q hq e => ?_, fun q hq e => ?_⟩
  · have := h.p.cb; rw [e, hR] at this; exact neκ (by omega) this
  · have := h.p.buf.col q hq; rw [e, hR] at this; exact neκ (by omega) this
  · have := h.p.log.col q hq; rw [e, hR] at this; exact neκ (by omega) this
theorem PrI.ltR {w : World} {col : Col} {o x i : Nat} {K : PrK} {D : PrD} (h : PrI w col o x i K D) : K.R < w.heap.size := (Array.getElem?_eq_some_iff.1 (show w.heap[K.R]? = _ from h.b.row)).1
end Go.Proofs.YtahdlejgjcjeoaaGreatDoor
