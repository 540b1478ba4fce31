/- The program's cluster: what a replica's calls make of it, step by step. No walk. -/
import Derived.Test.YtahdlejgjcjeoabGreatDoorS01
import Derived.Shelf.SlSortCmp.WholeK
import Derived.Test.YtahdlejgjcjeoabGreatDoorS07
namespace Go.Proofs.YtahdlejgjcjeoabGreatDoor
open Go.RowKit

theorem cb_range : ∀ l r, Lib.compareBytes l r = -1 ∨ Lib.compareBytes l r = 0 ∨ Lib.compareBytes l r = 1
  | [], [] => by simp [Lib.compareBytes]
  | [], _ :: _ => by simp [Lib.compareBytes]
  | _ :: _, [] => by simp [Lib.compareBytes]
  | a :: l, b :: r => by
    have := cb_range l r
    simp only [Lib.compareBytes]
    split
    · simp
    · split
      · simp
      · exact this
theorem bytesLess_cb : ∀ l r, Op.bytesLess l r = decide (Lib.compareBytes l r < 0)
  | [], [] => by simp [Op.bytesLess, Lib.compareBytes]
  | [], _ :: _ => by simp [Op.bytesLess, Lib.compareBytes]
  | _ :: _, [] => by simp [Op.bytesLess, Lib.compareBytes]
  | a :: l, b :: r => by
    have ih := bytesLess_cb l r
    simp only [Op.bytesLess, Lib.compareBytes, ih]
    by_cases h : a < b
    · simp [h]
    · by_cases h2 : b < a
      · have : ¬ a = b := fun e => h (e ▸ h2)
        simp [h, h2, this]
      · have : a = b := UInt8.toNat_inj.1 (by rw [UInt8.lt_iff_toNat_lt] at h h2; omega)
        simp [this]
theorem lessS (x y : ByteArray) : Op.bytesLess x.toList y.toList = decide (ordS x y < 0) := by
  rw [ByteArray.toList_eq, ByteArray.toList_eq, bytesLess_cb]; rfl
theorem sameS (x y : ByteArray) : (x.toList == y.toList) = decide (ordS x y = 0) := by
  rw [ByteArray.toList_eq, ByteArray.toList_eq, Bool.eq_iff_iff, beq_iff_eq, decide_eq_true_eq]
  exact (cb_zero _ _).symm
theorem ordS_range (x y : ByteArray) : ordS x y = -1 ∨ ordS x y = 0 ∨ ordS x y = 1 := cb_range _ _

set_option maxHeartbeats 400000 in
theorem isNaN_int (x : Int) (w : World) :
    Calls Tryz.prog 212 #[.int .i64 x] w fun e w' => e = .returned (.bool false) ∧ w' = w := by
  go_enter Tryz.func212, Tryz.ntmps212
  go_wp2
  go_ret
  exact ⟨ret_bool (by simp), rfl⟩
set_option maxHeartbeats 400000 in
theorem isNaN_string (x : ByteArray) (w : World) :
    Calls Tryz.prog 213 #[.string x] w fun e w' => e = .returned (.bool false) ∧ w' = w := by
  go_enter Tryz.func213, Tryz.ntmps213
  go_wp2
  go_ret
  exact ⟨ret_bool (by simp), rfl⟩
set_option maxHeartbeats 1000000 in
theorem compare_int (x y : Int) (w : World) :
    Calls Tryz.prog 188 #[.int .i64 x, .int .i64 y] w fun e w' => e = .returned (.int .i64 (ci x y)) ∧ w' = w := by
  go_enter Tryz.func188, Tryz.ntmps188
  go_wp2_with (go_at_call 212; refine (isNaN_int _ _).mono ?_; rintro e w' ⟨rfl, rfl⟩)
  all_goals go_ret
  all_goals exact ⟨ret_int (by simp only [ci, sgn]; split <;> (try split) <;> omega), rfl⟩
set_option maxHeartbeats 1000000 in
theorem compare_string (x y : ByteArray) (w : World) :
    Calls Tryz.prog 189 #[.string x, .string y] w fun e w' => e = .returned (.int .i64 (ordS x y)) ∧ w' = w := by
  go_enter Tryz.func189, Tryz.ntmps189
  go_wp2_with (go_at_call 213; refine (isNaN_string _ _).mono ?_; rintro e w' ⟨rfl, rfl⟩)
  all_goals go_ret
  all_goals go_light
  all_goals refine ⟨ret_int ?_, rfl⟩
  all_goals have hr := ordS_range x y
  all_goals simp only [lessS, sameS, decide_eq_true_eq, decide_eq_false_iff_not, Bool.not_eq_true', Bool.not_eq_false'] at *
  all_goals omega

/-- The first that is not nought. -/
def orI : List Int → Int
  | [] => 0
  | x :: r => if x ≠ 0 then x else orI r
theorem orI_skip (l : List Int) : ∀ k, k ≤ l.length → (∀ j, (h : j < l.length) → j < k → l[j] = 0) → orI l = orI (l.drop k) := by
  intro k
  induction k generalizing l with
  | zero => intros; simp
  | succ k ih =>
    intro hk h
    cases l with
    | nil => simp at hk
    | cons x l =>
      have h0 : x = 0 := h 0 (by simp) (by omega)
      simp only [orI, h0, List.drop_succ_cons]
      simp
      exact ih l (by simpa using hk) (fun j hj hjk => by have := h (j + 1) (by simpa using hj) (by omega); simpa using this)
theorem orI_hit (l : List Int) (k : Nat) (hk : k < l.length) (h : ∀ j, (h : j < l.length) → j < k → l[j] = 0) (hn : l[k] ≠ 0) : orI l = l[k] := by
  rw [orI_skip l k (by omega) h, List.drop_eq_getElem_cons hk]
  simp [orI, hn]

set_option maxHeartbeats 1000000 in
theorem or_any (b cap : Nat) (l : List Int) (w : World) (hrow : ∀ k, (h : k < l.length) → w.cell? ⟨b, k, none⟩ = some (.int .i64 l[k])) (_hcap : l.length ≤ cap) (hlen : l.length ≤ 1000) :
    Calls Tryz.prog 187 #[.slice (some ⟨b, 0, none⟩) l.length cap] w fun e w' => e = .returned (.int .i64 (orI l)) ∧ w' = w := by
  have HR : Hid (∀ k, (h : k < l.length) → w.cell? ⟨b, k, none⟩ = some (.int .i64 l[k])) := hrow
  clear hrow
  go_enter Tryz.func187, Tryz.ntmps187
  go_wp2
  go_loopw [8] (fun i wr => ∃ k : Nat, k ≤ l.length ∧ i = .int .i64 k ∧ Hid (∀ j, (h : j < l.length) → j < k → l[j] = 0) ∧ wr = w) (fun i _ => l.length - (intOf i).toNat)
  case atStart => exact ⟨0, Nat.zero_le _, rfl, fun _ _ h => by omega, rfl⟩
  case round =>
    obtain ⟨k, hk, rfl, ht, rfl⟩ := hrel
    by_cases hl : k < l.length
    · have hc := HR.out k hl
      have HH : Hid (l[k] ≠ 0 → orI l = l[k]) := fun hn => orI_hit l k hl ht.out hn
      by_cases hz : l[k] = 0
      · rw [hz] at hc
        have HT : Hid (∀ j, (h : j < l.length) → j < k + 1 → l[j] = 0) := fun j hj hjk => by
          by_cases e : j = k
          · subst e; exact hz
          · exact ht.out j hj (by omega)
        clear hz HH
        go_wp2
        go_roundw
        case rel => exact ⟨k + 1, by omega, by go_num, HT, trivial⟩
        case measure => simp [intOf]; omega
      · have HE : Hid (orI l = l[k]) := HH.out hz
        clear HH
        generalize l[k] = x at *
        have hnx : (x != 0) = true := by simp [hz]
        clear hz
        go_wp2
        go_ret
        exact ⟨ret_int HE.out.symm, rfl⟩
    · have HE : Hid (orI l = 0) := by
        have := orI_skip l k hk ht.out
        rw [List.drop_of_length_le (by omega)] at this
        exact this
      go_wp2
      go_ret
      exact ⟨ret_int HE.out.symm, rfl⟩
end Go.Proofs.YtahdlejgjcjeoabGreatDoor

namespace Go.Proofs.YtahdlejgjcjeoabGreatDoor
open Go.RowKit

theorem row_new (W : World) (l : List Int) (T : TypeId) (B : Nat) (hB : B = W.heap.size) : ∀ k, (h : k < l.length) → (W.alloc (.cells (l.map (Value.int .i64)).toArray T)).drew.cell? ⟨B, k, none⟩ = some (.int .i64 l[k]) := by
  intro k hk
  subst hB
  have hb : (W.alloc (.cells (l.map (Value.int .i64)).toArray T)).drew.heap[W.heap.size]? = some (.cells (l.map (Value.int .i64)).toArray T) := heap_alloc_new W _
  rw [cell_of_row _ _ _ _ _ _ hb]
  simp [hk]

theorem three_alloc (w : World) (a b c : Obj) : (((w.alloc a).alloc b).alloc c).drew = Go.Sort.grow (w.drewN 1) #[a, b, c] := by
  rw [Go.Sort.alloc_eq_grow, Go.Sort.alloc_eq_grow, Go.Sort.alloc_eq_grow, Go.Sort.grow_grow, Go.Sort.grow_grow]; rfl

theorem gcmp_or (g h : Gr) : gcmp g h = orI [ci g.n h.n, ci g.who h.who, ordS g.elem h.elem] := by
  simp only [gcmp, orI]
  split <;> (try split) <;> (try split) <;> simp_all

set_option maxRecDepth 100000 in
set_option maxHeartbeats 1000000 in
theorem compareGrades_any (g h : Gr) (w : World) :
    Calls Tryz.prog 195 #[g.val, h.val] w fun e w' => e = .returned (.int .i64 (gcmp g h)) ∧ Below w.heap.size w w' := by
  have HG : Hid (gcmp g h = orI [ci g.n h.n, ci g.who h.who, ordS g.elem h.elem]) := gcmp_or g h
  unfold Gr.val
  go_enter Tryz.func195, Tryz.ntmps195
  go_wp2
  go_region_held3 (fun w' => w'.cell? ⟨w.heap.size, 0, none⟩ = some (.int .i64 g.n) ∧ w'.cell? ⟨w.heap.size, 1, none⟩ = some (.int .i64 g.who) ∧ w'.cell? ⟨w.heap.size, 2, none⟩ = some (.string g.elem) ∧ w'.cell? ⟨w.heap.size + 1, 0, none⟩ = some (.int .i64 h.n) ∧ w'.cell? ⟨w.heap.size + 1, 1, none⟩ = some (.int .i64 h.who) ∧ w'.cell? ⟨w.heap.size + 1, 2, none⟩ = some (.string h.elem)) (go_keep) (first | (go_at_call 188; refine (compare_int _ _ _).mono ?_; rintro e w1 ⟨rfl, rfl⟩) | (go_at_call 189; refine (compare_string _ _ _).mono ?_; rintro e w1 ⟨rfl, rfl⟩) | (go_at_call 187; refine (or_any _ 3 [ci g.n h.n, ci g.who h.who, ordS g.elem h.elem] _ (by exact row_new _ [ci g.n h.n, ci g.who h.who, ordS g.elem h.elem] _ _ (by simp)) (by simp) (by simp)).mono ?_; rintro e w1 ⟨rfl, rfl⟩))
  go_wp2
  go_ret
  refine ⟨ret_int HG.out.symm, ?_⟩
  repeat (first | exact Below.refl _ _ | refine below_drewN ?_ _ | refine Below.drew ?_ | refine below_alloc ?_ _)

def acmp (a b : At) : Int := orI [ci a.ty b.ty, ordS a.key b.key, ci a.side b.side, ci a.who b.who, ordS a.elem b.elem]

open Go.Sort in
set_option maxRecDepth 100000 in
set_option maxHeartbeats 1000000 in
theorem compareAtoms_any (g h : At) (w : World) :
    Calls Tryz.prog 150 #[g.val, h.val] w fun e w' => e = .returned (.int .i64 (acmp g h)) ∧ ∃ q os, w' = grow (w.drewN q) os := by
  unfold At.val acmp
  go_enter Tryz.func150, Tryz.ntmps150
  go_wp2
  go_region_held3 (fun w' => w'.cell? ⟨w.heap.size, 0, none⟩ = some (.int .i64 g.ty) ∧ w'.cell? ⟨w.heap.size, 1, none⟩ = some (.string g.key) ∧ w'.cell? ⟨w.heap.size, 2, none⟩ = some (.int .i64 g.side) ∧ w'.cell? ⟨w.heap.size, 3, none⟩ = some (.int .i64 g.who) ∧ w'.cell? ⟨w.heap.size, 4, none⟩ = some (.string g.elem) ∧ w'.cell? ⟨w.heap.size + 1, 0, none⟩ = some (.int .i64 h.ty) ∧ w'.cell? ⟨w.heap.size + 1, 1, none⟩ = some (.string h.key) ∧ w'.cell? ⟨w.heap.size + 1, 2, none⟩ = some (.int .i64 h.side) ∧ w'.cell? ⟨w.heap.size + 1, 3, none⟩ = some (.int .i64 h.who) ∧ w'.cell? ⟨w.heap.size + 1, 4, none⟩ = some (.string h.elem)) (go_keep) (first | (go_at_call 188; refine (compare_int _ _ _).mono ?_; rintro e w1 ⟨rfl, rfl⟩) | (go_at_call 189; refine (compare_string _ _ _).mono ?_; rintro e w1 ⟨rfl, rfl⟩) | (go_at_call 187; refine (or_any _ 5 [ci g.ty h.ty, ordS g.key h.key, ci g.side h.side, ci g.who h.who, ordS g.elem h.elem] _ (by exact row_new _ [ci g.ty h.ty, ordS g.key h.key, ci g.side h.side, ci g.who h.who, ordS g.elem h.elem] _ _ (by simp)) (by simp) (by simp)).mono ?_; rintro e w1 ⟨rfl, rfl⟩))
  go_wp2
  go_ret
  exact ⟨rfl, 1, _, three_alloc w _ _ _⟩
end Go.Proofs.YtahdlejgjcjeoabGreatDoor

namespace Go.Proofs.YtahdlejgjcjeoabGreatDoor
open Go.RowKit

def mxG (g h : Gr) : Gr := if gcmp g h < 0 then h else g

set_option maxHeartbeats 1000000 in
theorem greater_any (g h : Gr) (w : World) :
    Calls Tryz.prog 161 #[g.val, h.val] w fun e w' => e = .returned (mxG g h).val ∧ Below w.heap.size w w' := by
  have hcon := fun W => compareGrades_any g h W
  obtain ⟨n1, w1, e1⟩ := g
  obtain ⟨n2, w2, e2⟩ := h
  have HM : Hid (mxG ⟨n1, w1, e1⟩ ⟨n2, w2, e2⟩ = if gcmp ⟨n1, w1, e1⟩ ⟨n2, w2, e2⟩ < 0 then ⟨n2, w2, e2⟩ else ⟨n1, w1, e1⟩) := rfl
  generalize gcmp ⟨n1, w1, e1⟩ ⟨n2, w2, e2⟩ = c at *
  unfold Gr.val at *
  simp only at *
  go_enter Tryz.func161, Tryz.ntmps161
  go_wp2_with fail
  refine (hcon _).mono ?_
  rintro e w3 ⟨rfl, hb3⟩
  obtain ⟨hc3, hf3⟩ := bcell hb3
  have hz : w.heap.size + 1 + 1 < w3.heap.size := by have := hb3.size; simp at this; omega
  have hbw : Below w.heap.size w w3 := (below_alloc (below_alloc (below_alloc (Below.refl _ w) _) _) _).trans (hb3.mono (by simp; omega))
  clear hcon
  by_cases hlt : c < 0
  · go_wp2
    refine bodyPost_ret (v := Gr.val ⟨n2, w2, e2⟩) (by simp [results, Tryz.results161, go_sem, Gr.val, hc3]) rfl ⟨by rw [HM.out, if_pos hlt]; rfl, ?_⟩
    refine Below.setCell (Below.setCell (Below.setCell hbw ?_ _) ?_ _) ?_ _ <;> (dsimp only; omega)
  · go_wp2
    refine bodyPost_ret (v := Gr.val ⟨n1, w1, e1⟩) (by simp [results, Tryz.results161, go_sem, Gr.val, hc3]) rfl ⟨by rw [HM.out, if_neg (by omega)]; rfl, ?_⟩
    refine Below.setCell (Below.setCell (Below.setCell hbw ?_ _) ?_ _) ?_ _ <;> (dsimp only; omega)

set_option maxHeartbeats 1000000 in
theorem unite_any (s : Sl) (g : Gr) (w : World) (h : RulesAt w) (h1 : 1 ≤ s.ty) (h5 : s.ty ≤ 5) :
    Calls Tryz.prog 148 #[s.val, g.val] w fun e w' => e = .returned (unite s g).val ∧ Below w.heap.size w w' := by
  obtain ⟨ty, key, side, who, elem⟩ := s
  obtain ⟨n, who', elem'⟩ := g
  simp only at h1 h5
  have HT : Hid (RulesAt w) := h
  clear h
  unfold Sl.val Gr.val
  simp only
  by_cases ht : ty = 5
  · subst ht
    go_enter Tryz.func148, Tryz.ntmps148
    go_wp2_with fail
    refine (isRegister_any 5 _ ?hrl (by omega) (by omega)).mono ?_
    case hrl => exact HT.out.below (B := w.heap.size) (by repeat (first | exact Below.refl _ _ | refine below_alloc ?_ _)) HT.out.1
    rintro e w1 ⟨rfl, rfl⟩
    go_wp2
    refine bodyPost_ret (v := At.val ⟨5, key, 0, who', elem', n⟩) (by simp [results, Tryz.results148, go_sem, At.val]) rfl ⟨by simp [unite], ?_⟩
    go_light
    exact below_alloc (below_alloc (below_alloc (Below.refl _ w) _) _) _
  · have hk : (ty == 5) = false := by simp [ht]
    go_enter Tryz.func148, Tryz.ntmps148
    go_wp2_with fail
    refine (isRegister_any ty _ ?hrl (by omega) (by omega)).mono ?_
    case hrl => exact HT.out.below (B := w.heap.size) (by repeat (first | exact Below.refl _ _ | refine below_alloc ?_ _)) HT.out.1
    rintro e w1 ⟨rfl, rfl⟩
    go_wp2
    refine bodyPost_ret (v := At.val ⟨ty, key, side, who, elem, n⟩) (by simp [results, Tryz.results148, go_sem, At.val]) rfl ⟨by simp [unite, ht], ?_⟩
    go_light
    exact below_alloc (below_alloc (below_alloc (Below.refl _ w) _) _) _

end Go.Proofs.YtahdlejgjcjeoabGreatDoor

namespace Go.Proofs.YtahdlejgjcjeoabGreatDoor
open Go.RowKit

set_option maxHeartbeats 1000000 in
theorem split_any (a : At) (w : World) (h : RulesAt w) (h1 : 1 ≤ a.ty) (h5 : a.ty ≤ 5) :
    Calls Tryz.prog 160 #[a.val] w fun e w' => e = .returned (.tuple #[(slot a).val, (grade a).val]) ∧ Below w.heap.size w w' := by
  obtain ⟨ty, key, side, who, elem, n⟩ := a
  simp only at h1 h5
  have HT : Hid (RulesAt w) := h
  clear h
  unfold At.val
  simp only
  by_cases ht : ty = 5
  · subst ht
    go_enter Tryz.func160, Tryz.ntmps160
    go_wp2_with fail
    refine (isRegister_any 5 _ ?hrl (by omega) (by omega)).mono ?_
    case hrl => exact HT.out.below (B := w.heap.size) (by repeat (first | exact Below.refl _ _ | refine below_alloc ?_ _)) HT.out.1
    rintro e w1 ⟨rfl, rfl⟩
    go_wp2
    go_region
    all_goals go_wp2
    refine bodyPost_ret (v := .tuple #[Sl.val ⟨5, key, 0, 0, ByteArray.empty⟩, Gr.val ⟨n, who, elem⟩]) (by simp [results, Tryz.results160, go_sem, Sl.val, Gr.val]; rfl) rfl ⟨by simp [slot, grade], ?_⟩
    go_light
    repeat (first | exact Below.refl _ _ | refine below_drewN ?_ _ | refine Below.drew ?_ | refine Below.setCell ?_ (by simp) _ | refine below_alloc ?_ _)
  · have hk : (ty == 5) = false := by simp [ht]
    go_enter Tryz.func160, Tryz.ntmps160
    go_wp2_with fail
    refine (isRegister_any ty _ ?hrl (by omega) (by omega)).mono ?_
    case hrl => exact HT.out.below (B := w.heap.size) (by repeat (first | exact Below.refl _ _ | refine below_alloc ?_ _)) HT.out.1
    rintro e w1 ⟨rfl, rfl⟩
    go_wp2
    go_region
    all_goals go_wp2
    refine bodyPost_ret (v := .tuple #[Sl.val ⟨ty, key, side, who, elem⟩, Gr.val ⟨n, 0, ByteArray.empty⟩]) (by simp [results, Tryz.results160, go_sem, Sl.val, Gr.val]; rfl) rfl ⟨by simp [slot, grade, ht], ?_⟩
    go_light
    repeat (first | exact Below.refl _ _ | refine below_drewN ?_ _ | refine Below.drew ?_ | refine Below.setCell ?_ (by simp) _ | refine below_alloc ?_ _)
end Go.Proofs.YtahdlejgjcjeoabGreatDoor

namespace Go.Proofs.YtahdlejgjcjeoabGreatDoor
open Go.RowKit

theorem cellsAt_grown {w w' : World} {row : Option Nat} (hg : w.grownBy w' row) {b o : Nat} {a : At} (hne : some b ≠ row) (h : cellsAt w b o a) : cellsAt w' b o a := by
  obtain ⟨c0, c1, c2, c3, c4, c5⟩ := h
  exact ⟨hg.cell c0 hne, hg.cell c1 hne, hg.cell c2 hne, hg.cell c3 hne, hg.cell c4 hne, hg.cell c5 hne⟩
theorem RowAt.grown {w w' : World} {row : Option Nat} (hg : w.grownBy w' row) {b off : Nat} {l : List At} (hne : some b ≠ row) (h : RowAt w b off l) : RowAt w' b off l :=
  fun k hk => cellsAt_grown hg hne (h k hk)
theorem ruleAt.grown {w w' : World} {row : Option Nat} (hg : w.grownBy w' row) (hne : some 1 ≠ row) {o : Nat} {a b c d e : Int} {r : Bool} (h : ruleAt w o a b c d e r) : ruleAt w' o a b c d e r := by
  obtain ⟨c0, c1, c2, c3, c4, c5⟩ := h
  exact ⟨hg.cell c0 hne, hg.cell c1 hne, hg.cell c2 hne, hg.cell c3 hne, hg.cell c4 hne, hg.cell c5 hne⟩
theorem RulesAt.grown {w w' : World} {row : Option Nat} (h : RulesAt w) (hg : w.grownBy w' row) (hne : some 1 ≠ row) : RulesAt w' := by
  obtain ⟨h1, r1, r2, r3, r4, r5⟩ := h
  exact ⟨Nat.lt_of_lt_of_le h1 hg.size, r1.grown hg hne, r2.grown hg hne, r3.grown hg hne, r4.grown hg hne, r5.grown hg hne⟩

theorem split_exp (a : At) (w : World) (h : RulesAt w) (h1 : 1 ≤ a.ty) (h5 : a.ty ≤ 5) :
    Calls Tryz.prog 160 #[a.val] w fun e w' => e = .returned (.tuple #[.agg #[.int .i64 (slot a).ty, .string (slot a).key, .int .i64 (slot a).side, .int .i64 (slot a).who, .string (slot a).elem], .agg #[.int .i64 (grade a).n, .int .i64 (grade a).who, .string (grade a).elem]]) ∧ Below w.heap.size w w' := split_any a w h h1 h5
theorem greater_exp (g h : Gr) (w : World) :
    Calls Tryz.prog 161 #[.agg #[.int .i64 g.n, .int .i64 g.who, .string g.elem], .agg #[.int .i64 h.n, .int .i64 h.who, .string h.elem]] w fun e w' => e = .returned (.agg #[.int .i64 (mxG g h).n, .int .i64 (mxG g h).who, .string (mxG g h).elem]) ∧ Below w.heap.size w w' := greater_any g h w

section
variable (w : World) {ops : Array Oper} {rest : List Oper} {o : Oper} {a : Act} {Q : Exit → Act → World → Prop}
theorem wpList_st_look_exp (hg : o.guard = none) (m x : Operand) (t : TypeId) (hop : o.op = Op.lookup t m x true) (ht : Tryz.prog.underlying t = some (.map 211 213)) (b n : Nat) (M : Sl → Option Gr)
    (hm : a.eval m = .map (some b)) (hown : StMap w b n M) (s : Sl) (hs : s.ok) (hx : a.eval x = s.val) (g : Gr) (c : Bool) (hgot : got M s = g) (hc : (M s).isSome = c)
    (hK : wpList Tryz.prog ops Q rest (a.put o.dst (.tuple #[.agg #[.int .i64 g.n, .int .i64 g.who, .string g.elem], .bool c])) w) :
    wpList Tryz.prog ops Q (o :: rest) a w := by
  subst hgot hc
  exact wpList_st_look w hg m x t hop ht b n M hm hown s hs hx hK
end

theorem StMap.setCell {w : World} {b n : Nat} {M : Sl → Option Gr} (h : StMap w b n M) {a : Addr} (ha : b ≠ a.block) (u : Value) : StMap (w.setCell a u) b n M := by
  obtain ⟨D, h1, h2⟩ := h
  exact ⟨D, h1.setCell ha u, h2⟩
theorem ty_of_may {a : At} (h : mayB a = true) : 1 ≤ a.ty ∧ a.ty ≤ 5 := by
  simp only [mayB, decide_eq_true_eq] at h
  omega

set_option maxRecDepth 100000 in
set_option maxHeartbeats 2000000 in
theorem add_any (v : Value) (l : List At) (b n : Nat) (M : Sl → Option Gr) (w : World) (hr : RulesAt w) (hm : StMap w b n M) (hv : SliceOf w v l) (hmay : ∀ a ∈ l, mayB a = true) (hlen : n + l.length ≤ 1099511627776) :
    Calls Tryz.prog 110 #[.map (some b), v] w fun e w' => e = .returned (.tuple #[]) ∧ StMap w' b (n + l.length) (addTo M l) ∧ w.grownBy w' (some b) := by
  obtain ⟨ad, cap, rfl, hcap, H⟩ := hv
  have HR : Hid (0 < l.length → ∃ b off, ad = some ⟨b, off, none⟩ ∧ b < w.heap.size ∧ RowAt w b off l) := H
  clear H
  have HS : Hid (∀ a ∈ l, mayB a = true) := hmay
  clear hmay
  have h0b : (some 1 : Option Nat) ≠ some b := fun e => hm.ne_cell hr.2.1.1 (by simpa using e)
  have HT : Hid (RulesAt w) := hr
  clear hr
  have HB0 : Hid ((some 1 : Option Nat) ≠ some b) := h0b
  clear h0b
  have HMW : Hid (StMap w b n M) := hm
  clear hm
  go_enter Tryz.func110, Tryz.ntmps110
  go_wp2
  go_loopw [12] (fun i wr => ∃ k : Nat, k ≤ l.length ∧ i = .int .i64 k ∧ Hid (StMap wr b (n + k) (addTo M (l.take k))) ∧ w.grownBy wr (some b)) (fun i _ => l.length - (intOf i).toNat)
  case atStart => exact ⟨0, Nat.zero_le _, rfl, by simpa [Hid, addTo] using HMW.out, below_grown (Below.refl _ _) _⟩
  case round =>
    obtain ⟨k, hk, rfl, hst, hgw⟩ := hrel
    by_cases hl : k < l.length
    · obtain ⟨bs, off, rfl, hb, hrow⟩ := HR.out (by omega)
      have hbs : (some bs : Option Nat) ≠ some b := fun e => HMW.out.ne_cell (hrow k hl).1 (by simpa using e)
      obtain ⟨c0, c1, c2, c3, c4, c5⟩ := (hrow.grown hgw hbs) k hl
      have hmk := HS.out (l[k]) (List.getElem_mem hl)
      have HTr : Hid (RulesAt wr) := HT.out.grown hgw HB0.out
      have hsucc := addTo_succ M l k hl
      clear hrow HR
      generalize hak : l[k] = a at *
      clear hak
      have hty := ty_of_may hmk
      have hok := slot_ok (fits_of_may hmk)
      have HSU : Hid (addTo M (l.take (k + 1)) = addA (addTo M (l.take k)) a) := hsucc
      clear hsucc hmk
      generalize addTo M (l.take k) = N at *
      have HN : Hid (addA N a = upd N (slot a) (match N (slot a) with | none => grade a | some g => if gcmp g (grade a) < 0 then grade a else g)) := rfl
      go_wp2_with fail
      refine (split_exp a _ ?hrl hty.1 hty.2).mono ?_
      case hrl => exact HTr.out.below ((Below.refl _ wr).alloc (Nat.le_refl _) _) HTr.out.1
      rintro e w1 ⟨rfl, hb1⟩
      have hbw1 : Below wr.heap.size wr w1 := (below_alloc (Below.refl _ wr) _).trans (hb1.mono (by simp))
      have hst1 := hst.out.below hbw1
      have hsz1 : wr.heap.size < w1.heap.size := by have := hb1.size; simp at this; omega
      clear hb1 hst c0 c1 c2 c3 c4 c5 hty
      generalize slot a = s at *
      generalize grade a = g at *
      cases hN : N s with
      | none =>
        have HU : Hid (addA N a = upd N s g) := by rw [Hid, HN.out, hN]
        have hgot : got N s = ⟨0, 0, ByteArray.empty⟩ := by unfold got; rw [hN]; rfl
        have hsome : (N s).isSome = false := by rw [hN]; rfl
        clear hN HN
        go_wp2_with (first | (at_lookup; refine wpList_st_look_exp _ rfl _ _ 122 rfl Tryz.underlying122 b (n + k) N rfl ((hst1.kept (World.grownBy_alloc _ _ none) (by simp)).kept (World.grownBy_alloc _ _ none) (by simp)) s hok rfl ⟨0, 0, ByteArray.empty⟩ false hgot hsome ?_) | (at_mapUpdate; refine wpList_st_put _ rfl _ _ _ 122 rfl Tryz.underlying122 b (n + k) N rfl (((hst1.kept (World.grownBy_alloc _ _ none) (by simp)).kept (World.grownBy_alloc _ _ none) (by simp)).kept (World.grownBy_alloc _ _ none) (by simp)) (by unfold maxLen; omega) s g hok rfl rfl ?_; intro w2 hst2 hg2))
        go_roundw
        case rel => exact ⟨k + 1, by omega, by go_num, by rw [Hid, HSU.out, HU.out]; exact hst2, grown_trans hgw (grown_trans (below_grown (below_alloc (below_alloc (below_alloc hbw1 _) _) _) _) hg2)⟩
        case measure => simp [intOf]; omega
      | some g0 =>
        have HU : Hid (addA N a = upd N s (mxG g0 g)) := by rw [Hid, HN.out, hN]; rfl
        have hgot : got N s = g0 := by unfold got; rw [hN]; rfl
        have hsome : (N s).isSome = true := by rw [hN]; rfl
        clear hN HN
        go_wp2_with (at_lookup; refine wpList_st_look_exp _ rfl _ _ 122 rfl Tryz.underlying122 b (n + k) N rfl ((hst1.kept (World.grownBy_alloc _ _ none) (by simp)).kept (World.grownBy_alloc _ _ none) (by simp)) s hok rfl g0 true hgot hsome ?_)
        refine (greater_exp g0 g _).mono ?_
        rintro e w3 ⟨rfl, hb3⟩
        have hbw3 : Below wr.heap.size wr w3 := (below_alloc (below_alloc (below_alloc hbw1 _) _) _).trans (hb3.mono (by simp; omega))
        have hst3 := (((hst1.kept (World.grownBy_alloc _ _ none) (by simp)).kept (World.grownBy_alloc _ _ none) (by simp)).kept (World.grownBy_alloc _ _ none) (by simp)).below hb3
        obtain ⟨hc3, hf3⟩ := bcell hb3
        have hz3 : w1.heap.size + 1 + 1 < w3.heap.size := by have := hb3.size; simp at this; omega
        have hlt1 := hst1.lt
        clear hb3 hst1
        generalize mxG g0 g = gm at *
        go_wp2_with (at_mapUpdate; refine wpList_st_put _ rfl _ _ _ 122 rfl Tryz.underlying122 b (n + k) N rfl (((hst3.setCell (by dsimp only; omega) _).setCell (by dsimp only; omega) _).setCell (by dsimp only; omega) _) (by unfold maxLen; omega) s gm hok rfl rfl ?_; intro w2 hst2 hg2)
        go_roundw
        case rel => exact ⟨k + 1, by omega, by go_num, by rw [Hid, HSU.out, HU.out]; exact hst2, grown_trans hgw (grown_trans (below_grown (Below.setCell (Below.setCell (Below.setCell hbw3 (by dsimp only; omega) _) (by dsimp only; omega) _) (by dsimp only; omega) _) _) hg2)⟩
        case measure => simp [intOf]; omega
    · have hkl : k = l.length := by omega
      subst hkl
      have hst' := hst.out
      rw [List.take_of_length_le (Nat.le_refl _)] at hst'
      have HST : Hid (StMap wr b (n + l.length) (addTo M l)) := hst'
      clear hst'
      go_wp2
      go_end0
      exact ⟨rfl, HST, hgw⟩
end Go.Proofs.YtahdlejgjcjeoabGreatDoor

namespace Go.Proofs.YtahdlejgjcjeoabGreatDoor
open Go.RowKit

/-- The tables are laid, and are nobody's. -/
structure Tab (w : World) (col : Col) : Prop where
  rules : RulesAt w
  steps : StepsAt w
  c0 : col 1 = (0, 0)
  c1 : col 0 = (0, 0)
theorem RulesAt.block {w w' : World} (h : RulesAt w) (hb : w'.heap[1]? = w.heap[1]?) (hs : w.heap.size ≤ w'.heap.size) : RulesAt w' := by
  obtain ⟨h1, r1, r2, r3, r4, r5⟩ := h
  have : ∀ {o : Nat} {a b c d e : Int} {r : Bool}, ruleAt w o a b c d e r → ruleAt w' o a b c d e r := by
    intro o a b c d e r h
    obtain ⟨c0, c1, c2, c3, c4, c5⟩ := h
    refine ⟨?_, ?_, ?_, ?_, ?_, ?_⟩ <;> (rw [World.cell?_of_block (w := w) hb]; assumption)
  exact ⟨Nat.lt_of_lt_of_le h1 hs, this r1, this r2, this r3, this r4, this r5⟩
theorem Tab.kept {w w' : World} {col col' : Col} {S : Nat × Nat → Prop} (h : Tab w col) (hf : FrC S col col' w w') (hS : ¬ S (0, 0)) : Tab w' col' where
  rules := h.rules.block (hf.fr.block 1 h.rules.1 (by rw [h.c0]; exact hS)) hf.size
  steps := h.steps.block (hf.fr.block 0 h.steps.1 (by rw [h.c1]; exact hS)) hf.size
  c0 := (hf.col 1 h.rules.1).trans h.c0
  c1 := (hf.col 0 h.steps.1).trans h.c1
theorem Tab.below {w w' : World} {col : Col} (h : Tab w col) (hb : Below w.heap.size w w') : Tab w' col := h.kept (S := fun _ => False) (frC_same hb) id
theorem ofPrg_tab {o i : Nat} (ho : o ≠ 0) : ¬ ofPrg o i (0, 0) := by
  rintro (h | h)
  · exact ho (congrArg Prod.fst h).symm
  · exact ho h.1.symm
theorem ofPrg_one {o i : Nat} (_hi : i < 6) : ¬ ofPrg o i (o, 1) := by
  rintro (h | h)
  · have := congrArg Prod.snd h; simp at this
  · have := h.2.1; simp at this

/-- A replica, with all that hangs on it, in its cluster. -/
structure PrI (w : World) (col : Col) (o x i : Nat) (K : PrK) (D : PrD) : Prop where
  b : PrB w col o x (some i) (K.setD i D)
  p : PrRep w col o i D
  h6 : K.Ds.length ≤ 6
  hi : i < K.Ds.length
theorem PrI.cells {w : World} {col : Col} {o x i : Nat} {K : PrK} {D : PrD} (h : PrI w col o x i K D) : Cells14 w K.R i D := by
  have hi' : i < (K.setD i D).Ds.length := by rw [K.setD_len]; exact h.hi
  have := h.b.cells hi'
  rw [K.setD_at] at this
  exact this
theorem PrI.below {w w' : World} {col : Col} {o x i : Nat} {K : PrK} {D : PrD} (h : PrI w col o x i K D) (hb : Below w.heap.size w w') (κ : Nat × Nat) : PrI w' (paint col w.heap.size κ) o x i K D :=
  ⟨h.b.below hb κ, h.p.kept (S := fun _ => False) (frC_below hb κ) id id id id, h.h6, h.hi⟩
theorem PrI.same {w w' : World} {col : Col} {o x i : Nat} {K : PrK} {D : PrD} (h : PrI w col o x i K D) (hb : Below w.heap.size w w') : PrI w' col o x i K D :=
  ⟨h.b.same hb, h.p.kept (S := fun _ => False) (frC_same hb) id id id id, h.h6, h.hi⟩
theorem PrI.close {w : World} {col : Col} {o x i : Nat} {K : PrK} {D : PrD} (h : PrI w col o x i K D) : PrAt w col o x (K.setD i D) := h.b.close fun _ => by rw [K.setD_at]; exact h.p
theorem PrAt.inside {w : World} {col : Col} {o x i : Nat} {K : PrK} (h : PrAt w col o x K) (h6 : K.Ds.length ≤ 6) (hi : i < K.Ds.length) : PrI w col o x i K K.Ds[i] := by
  obtain ⟨h1, h2⟩ := PrB.open h hi
  exact ⟨h1.self hi, h2, h6, hi⟩
theorem ne2 {o j : Nat} (h : j ≠ 2) : ¬ ((o, j) = (o, 2)) := fun e => h (congrArg Prod.snd e)
theorem neκ {o j k : Nat} (h : j ≠ k) : ¬ ((o, j) = (o, k)) := fun e => h (congrArg Prod.snd e)
theorem rep_of {o i k : Nat} (hi : i < 6) (hk : k = 1 ∨ k = 2 ∨ k = 5) : ∀ κ : Nat × Nat, κ = (o, k * 10 + i) → ofRep o i κ := fun κ e => by
  rw [e]
  exact ⟨rfl, by show 10 ≤ k * 10 + i; omega, by show (k * 10 + i) % 10 = i; omega⟩
/-- A number of the replica is written. -/
theorem PrI.put {w : World} {col : Col} {o x i k : Nat} {K : PrK} {D : PrD} {u : Value} (h : PrI w col o x i K D) (hk : k < 14) (D' : PrD) (hD : D.cells.set k u = D'.cells) (e1 : D'.b = D.b) (e2 : D'.n = D.n) (e3 : D'.M = D.M) (e4 : D'.vb = D.vb) (e5 : D'.es = D.es) (e6 : D'.vl = D.vl) (e7 : D'.bytes = D.bytes) :
    PrI (w.setCell ⟨K.R, i * 14 + k, none⟩ u) col o x i K D' ∧ FrC (ofPrg o i) col col w (w.setCell ⟨K.R, i * 14 + k, none⟩ u) := by
  obtain ⟨h1, hf⟩ := h.b.put2 h.hi hk D' hD
  have h2 := h.p.kept hf (ne2 (by omega)) (ne2 (by omega)) (ne2 (by omega)) (ne2 (by omega))
  refine ⟨⟨h1, ⟨by rw [e1, e2, e3]; exact h2.st, by rw [e1]; exact h2.cb, by rw [e4, e5]; exact h2.buf, by rw [e5]; exact h2.ed, by rw [e6, e7]; exact h2.log⟩, h.h6, h.hi⟩, hf.mono fun _ e => .inl e⟩
/-- The log is another. -/
theorem PrI.newLog {w w2 : World} {col col2 : Col} {o x i : Nat} {K : PrK} {D : PrD} {vl : Value} {bs : List UInt8} (h : PrI w col o x i K D) (hf : FrC (fun κ => κ = (o, 50 + i)) col col2 w w2) (hrow : RowC w2 col2 (o, 50 + i) 5 1 vl bs.length (bcells bs)) :
    PrI (w2.setCell ⟨K.R, i * 14 + 11, none⟩ vl) col2 o x i K { D with vl := vl, bytes := bs } ∧ FrC (ofPrg o i) col col2 w (w2.setCell ⟨K.R, i * 14 + 11, none⟩ vl) := by
  have hi6 : i < 6 := Nat.lt_of_lt_of_le h.hi h.h6
  have h1 := h.b.rest (by rw [K.setD_len]; exact h.h6) (by rw [K.setD_len]; exact h.hi) (hf.mono (rep_of hi6 (k := 5) (by omega)))
  have h2 : PrRep w2 col2 o i { D with vl := vl, bytes := bs } :=
    ⟨h.p.st.block (hf.fr.block _ h.p.st.lt (by rw [h.p.cb]; exact neκ (by omega))), (hf.col _ h.p.st.lt).trans h.p.cb, h.p.buf.kept hf (neκ (by omega)), fun e he => (h.p.ed e he).kept hf (neκ (by omega)), hrow⟩
  obtain ⟨h3, hf3⟩ := h1.put2 h.hi (k := 11) (u := vl) (by omega) { D with vl := vl, bytes := bs } rfl
  exact ⟨⟨h3, h2.kept hf3 (ne2 (by omega)) (ne2 (by omega)) (ne2 (by omega)) (ne2 (by omega)), h.h6, h.hi⟩, (hf.mono fun κ e => .inr (rep_of hi6 (k := 5) (by omega) κ e)).trans (hf3.mono fun _ e => .inl e)⟩
/-- The buffer is another. -/
theorem PrI.newBuf {w w2 : World} {col col2 : Col} {o x i : Nat} {K : PrK} {D : PrD} {vb : Value} {es : List Pe} (h : PrI w col o x i K D) (hf : FrC (fun κ => κ = (o, 20 + i)) col col2 w w2) (hrow : RowC w2 col2 (o, 20 + i) 85 3 vb es.length (es.flatMap Pe.cells)) (hed : ∀ e ∈ es, Held w2 col2 (o, 1) e.v e.d) :
    PrI (w2.setCell ⟨K.R, i * 14 + 4, none⟩ vb) col2 o x i K { D with vb := vb, es := es } ∧ FrC (ofPrg o i) col col2 w (w2.setCell ⟨K.R, i * 14 + 4, none⟩ vb) := by
  have hi6 : i < 6 := Nat.lt_of_lt_of_le h.hi h.h6
  have h1 := h.b.rest (by rw [K.setD_len]; exact h.h6) (by rw [K.setD_len]; exact h.hi) (hf.mono (rep_of hi6 (k := 2) (by omega)))
  have h2 : PrRep w2 col2 o i { D with vb := vb, es := es } :=
    ⟨h.p.st.block (hf.fr.block _ h.p.st.lt (by rw [h.p.cb]; exact neκ (by omega))), (hf.col _ h.p.st.lt).trans h.p.cb, hrow, hed, h.p.log.kept hf (neκ (by omega))⟩
  obtain ⟨h3, hf3⟩ := h1.put2 h.hi (k := 4) (u := vb) (by omega) { D with vb := vb, es := es } rfl
  exact ⟨⟨h3, h2.kept hf3 (ne2 (by omega)) (ne2 (by omega)) (ne2 (by omega)) (ne2 (by omega)), h.h6, h.hi⟩, (hf.mono fun κ e => .inr (rep_of hi6 (k := 2) (by omega) κ e)).trans (hf3.mono fun _ e => .inl e)⟩
/-- The state is another. -/
theorem PrI.newSt {w w2 : World} {col : Col} {o x i n : Nat} {K : PrK} {D : PrD} {M : Sl → Option Gr} (h : PrI w col o x i K D) (hg : w.grownBy w2 (some D.b)) (hst : StMap w2 D.b n M) :
    PrI w2 (paint col w.heap.size (o, 10 + i)) o x i K { D with n := n, M := M } ∧ FrC (ofPrg o i) col (paint col w.heap.size (o, 10 + i)) w w2 := by
  have hi6 : i < 6 := Nat.lt_of_lt_of_le h.hi h.h6
  have hf : FrC (fun κ => κ = (o, 10 + i)) col (paint col w.heap.size (o, 10 + i)) w w2 := ⟨(Fr.refl _ w).step hg (fun q hq => by cases hq; exact .inr h.p.cb), fun q hq => paint_old col _ hq⟩
  have h1 := (h.b.rest (by rw [K.setD_len]; exact h.h6) (by rw [K.setD_len]; exact h.hi) (hf.mono (rep_of hi6 (k := 1) (by omega)))).as { D with n := n, M := M } (fun hi => by rw [K.setD_at]; rfl)
  rw [K.setD_setD] at h1
  exact ⟨⟨h1, ⟨hst, (hf.col _ h.p.st.lt).trans h.p.cb, h.p.buf.kept hf (neκ (by omega)), fun e he => (h.p.ed e he).kept hf (neκ (by omega)), h.p.log.kept hf (neκ (by omega))⟩, h.h6, h.hi⟩, hf.mono fun κ e => .inr (rep_of hi6 (k := 1) (by omega) κ e)⟩
/-- The blocks that a replica's row is no part of. -/
theorem PrI.apart {w : World} {col : Col} {o x i : Nat} {K : PrK} {D : PrD} (h : PrI w col o x i K D) : D.b ≠ K.R ∧ (∀ q, D.vb.ownBlock = some q → q ≠ K.R) ∧ (∀ q, D.vl.ownBlock = some q → q ≠ K.R) := by
  have hR : col K.R = (o, 2) := h.b.cR
  refine ⟨fun e => ?_, fun q hq e => ?_, fun q hq e => ?_⟩
  · have := h.p.cb; rw [e, hR] at this; exact neκ (by omega) this
  · have := h.p.buf.col q hq; rw [e, hR] at this; exact neκ (by omega) this
  · have := h.p.log.col q hq; rw [e, hR] at this; exact neκ (by omega) this
theorem PrI.ltR {w : World} {col : Col} {o x i : Nat} {K : PrK} {D : PrD} (h : PrI w col o x i K D) : K.R < w.heap.size := (Array.getElem?_eq_some_iff.1 (show w.heap[K.R]? = _ from h.b.row)).1
end Go.Proofs.YtahdlejgjcjeoabGreatDoor
