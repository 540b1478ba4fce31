/- Walks of the program's compareGrades and compareAtoms. -/
import Derived.Test.YtahdlejgjcjeoaaGreatDoorP13
import Derived.Shelf.SlSortCmp.WholeK
import Derived.Test.YtahdlejgjcjeoaaGreatDoorProg
import Derived.Test.YtahdlejgjcjeoaaGreatDoorP04
import Derived.Test.YtahdlejgjcjeoaaGreatDoorP01
import Derived.Test.YtahdlejgjcjeoaaGreatDoorP02
import Derived.Deep.RegionHeld3
import Derived.Deep.Light
import Derived.RegionTactic
import Derived.BigRegion
namespace Go.Proofs.YtahdlejgjcjeoaaGreatDoor
open Go.RowKit Go.MuLone

/-- The cluster's block: the lock is free, the row of replicas. -/
structure ClAt (w : World) (x R n cap : Nat) : Prop where
  c0 : w.cell? ⟨x, 0, none⟩ = some (.int .i32 0)
  f0 : w.frozen? ⟨x, 0, none⟩ = false
  c41 : w.cell? ⟨x, 41, none⟩ = some (.slice (some ⟨R, 0, none⟩) n cap)
  xR : x ≠ R
  cap : n ≤ cap
def locked (w : World) (x : Nat) : World := w.setCell ⟨x, 0, none⟩ (.int .i32 1)
theorem ClAt.lt {w : World} {x R n cap : Nat} (h : ClAt w x R n cap) : x < w.heap.size := by
  obtain ⟨cs, e, fz, hx, _⟩ := Go.Sort.cells_of_cell? h.c0
  exact (Array.getElem?_eq_some_iff.1 hx).1
theorem ClAt.l41 {w : World} {x R n cap : Nat} (h : ClAt w x R n cap) : (w.setCell ⟨x, 0, none⟩ (.int .i32 1)).cell? ⟨x, 41, none⟩ = some (.slice (some ⟨R, 0, none⟩) n cap) :=
  (World.cell?_setCell_other _ ⟨x, 0, none⟩ ⟨x, 41, none⟩ _ (by simp)).trans h.c41
theorem ClAt.lR {w : World} {x R n cap k : Nat} {v : Value} (h : ClAt w x R n cap) (hv : w.cell? ⟨R, k, none⟩ = some v) : (w.setCell ⟨x, 0, none⟩ (.int .i32 1)).cell? ⟨R, k, none⟩ = some v :=
  (World.cell?_setCell_other _ ⟨x, 0, none⟩ ⟨R, k, none⟩ _ (fun e => h.xR (by cases e; rfl))).trans hv
theorem lock_size (w : World) (x : Nat) : (w.setCell ⟨x, 0, none⟩ (.int .i32 1)).heap.size = w.heap.size := by simp
theorem ClAt.unlock {w w2 : World} {x R n cap : Nat} (h : ClAt w x R n cap) (hb : Below w.heap.size (w.setCell ⟨x, 0, none⟩ (.int .i32 1)) w2) : w2.cell? ⟨x, 0, none⟩ = some (.int .i32 1) ∧ w2.frozen? ⟨x, 0, none⟩ = false ∧ Below w.heap.size w (w2.setCell ⟨x, 0, none⟩ (.int .i32 0)) := by
  refine ⟨?_, ?_, below_lock h.c0 hb⟩
  · rw [hb.cell (p := ⟨x, 0, none⟩) h.lt]
    exact World.cell?_setCell_same _ _ _ h.c0
  · rw [hb.frozen (p := ⟨x, 0, none⟩) h.lt, World.frozen?_setCell]
    exact h.f0
theorem ClAt.below {w w' : World} {x R n cap : Nat} {B : Nat} (h : ClAt w x R n cap) (hb : Below B w w') (hx : x < B) : ClAt w' x R n cap :=
  ⟨by rw [hb.cell (p := ⟨x, 0, none⟩) hx]; exact h.c0, by rw [hb.frozen (p := ⟨x, 0, none⟩) hx]; exact h.f0, by rw [hb.cell (p := ⟨x, 41, none⟩) hx]; exact h.c41, h.xR, h.cap⟩

set_option maxRecDepth 100000 in
theorem upOne_no (x : Nat) (r : Int) (ad : Option Addr) (n cap : Nat) (w : World) (c41 : w.cell? ⟨x, 41, none⟩ = some (.slice ad n cap)) (hr : ¬ (0 ≤ r ∧ r < n)) :
    Calls Tryz.prog 54 #[.pointer (some ⟨x, 0, none⟩), .int .i64 r] w fun e w' => e = .returned (.tuple #[.pointer none, .int .i64 5]) ∧ w' = w := by
  go_enter Tryz.func54, Tryz.ntmps54
  go_wp2_with fail
  refine (one_no x r ad n cap w c41 hr).mono ?_
  rintro e w1 ⟨rfl, rfl⟩
  go_wp2
  go_ret2
  exact ⟨rfl, rfl⟩
set_option maxRecDepth 100000 in
theorem upOne_yes (x R i n cap : Nat) (up : Bool) (w : World) (c41 : w.cell? ⟨x, 41, none⟩ = some (.slice (some ⟨R, 0, none⟩) n cap)) (hi : i < n) (hup : w.cell? ⟨R, i * 14, none⟩ = some (.bool up)) :
    Calls Tryz.prog 54 #[.pointer (some ⟨x, 0, none⟩), .int .i64 i] w fun e w' => e = .returned (.tuple #[.pointer (if up then some ⟨R, i * 14, none⟩ else none), .int .i64 (if up then 0 else 8)]) ∧ w' = w := by
  go_enter Tryz.func54, Tryz.ntmps54
  go_wp2_with fail
  refine (one_yes x R i n cap w c41 hi).mono ?_
  rintro e w1 ⟨rfl, rfl⟩
  cases up
  · go_wp2
    go_ret2
    exact ⟨rfl, rfl⟩
  · go_wp2
    go_ret2
    exact ⟨rfl, rfl⟩

set_option maxRecDepth 100000 in
theorem prgFlight (x R n cap : Nat) (ad : Option Addr) (m cp : Nat) (w : World) (h : ClAt w x R n cap) (c42 : w.cell? ⟨x, 42, none⟩ = some (.slice ad m cp)) :
    Calls Tryz.prog 93 #[.pointer (some ⟨x, 0, none⟩)] w fun e w' => e = .returned (.int .i64 m) ∧ Below w.heap.size w w' := by
  have k42 : (w.setCell ⟨x, 0, none⟩ (.int .i32 1)).cell? ⟨x, 42, none⟩ = some (.slice ad m cp) := (World.cell?_setCell_other _ ⟨x, 0, none⟩ ⟨x, 42, none⟩ _ (by simp)).trans c42
  go_enter_defers Tryz.func93, Tryz.ntmps93
  go_wp2_with (go_at_call 50; refine (lock_free muLib ⟨x, 0, none⟩ _ h.c0 h.f0).mono ?_; rintro e w' ⟨rfl, rfl⟩)
  refine leaves_cons (f := 51) (args := #[.pointer (some ⟨x, 0, none⟩)]) (by simp) (by simp [go_sem]) ?_
  obtain ⟨u0, u1, u2⟩ := h.unlock (w2 := _) (Below.refl _ _)
  refine (unlock_deferred muLib ⟨x, 0, none⟩ .returning _ u0 u1).mono ?_
  rintro e u' w'' ⟨rfl, rfl, rfl⟩
  exact ⟨_, results_tmp rfl _ _ _, rfl, u2⟩
end Go.Proofs.YtahdlejgjcjeoaaGreatDoor

namespace Go.Proofs.YtahdlejgjcjeoaaGreatDoor
open Go.Shelf

def sortAtoms_ren : Go.Shelf.Ren := ⟨fun | 6 => 104 | 15 => 161 | 14 => 160 | 28 => 201 | 29 => 202 | 20 => 193 | 21 => 194 | 22 => 195 | 23 => 196 | 24 => 197 | 25 => 198 | 26 => 199 | 27 => 200 | 46 => 215 | 47 => 216 | 48 => 217 | 49 => 218 | 50 => 219 | 57 => 234 | n => n, fun | 22 => 56 | 24 => 77 | 25 => 177 | 3 => 3 | 39 => 227 | 0 => 0 | 53 => 106 | 55 => 261 | 4 => 4 | 46 => 253 | 45 => 252 | 50 => 257 | 5 => 5 | 9 => 9 | 66 => 275 | 70 => 279 | 76 => 289 | 77 => 290 | n => n, fun | n => n⟩

theorem sortAtoms : Go.Proofs.SlLaysF0.n6 Tryz.prog sortAtoms_ren := {
  mixed := by kernel_rfl,
  f6 := ⟨Tryz.f104.name, by decide, Tryz.func104.trans (congrArg some (by kernel_rfl))⟩,
  f14 := ⟨Tryz.f160.name, by decide, Tryz.func160.trans (congrArg some (by kernel_rfl))⟩,
  f15 := Tryz.func161.trans (congrArg some (by kernel_rfl)),
  f20 := ⟨Tryz.f193.name, by decide, Tryz.func193.trans (congrArg some (by kernel_rfl))⟩,
  f21 := ⟨Tryz.f194.name, by decide, Tryz.func194.trans (congrArg some (by kernel_rfl))⟩,
  f22 := ⟨Tryz.f195.name, by decide, Tryz.func195.trans (congrArg some (by kernel_rfl))⟩,
  f23 := ⟨Tryz.f196.name, by decide, Tryz.func196.trans (congrArg some (by kernel_rfl))⟩,
  f24 := ⟨Tryz.f197.name, by decide, Tryz.func197.trans (congrArg some (by kernel_rfl))⟩,
  f25 := ⟨Tryz.f198.name, by decide, Tryz.func198.trans (congrArg some (by kernel_rfl))⟩,
  f26 := ⟨Tryz.f199.name, by decide, Tryz.func199.trans (congrArg some (by kernel_rfl))⟩,
  f27 := ⟨Tryz.f200.name, by decide, Tryz.func200.trans (congrArg some (by kernel_rfl))⟩,
  f28 := Tryz.func201.trans (congrArg some (by kernel_rfl)),
  f29 := Tryz.func202.trans (congrArg some (by kernel_rfl)),
  f46 := ⟨Tryz.f215.name, by decide, Tryz.func215.trans (congrArg some (by kernel_rfl))⟩,
  f47 := Tryz.func216.trans (congrArg some (by kernel_rfl)),
  f48 := Tryz.func217.trans (congrArg some (by kernel_rfl)),
  f49 := ⟨Tryz.f218.name, by decide, Tryz.func218.trans (congrArg some (by kernel_rfl))⟩,
  f50 := ⟨Tryz.f219.name, by decide, Tryz.func219.trans (congrArg some (by kernel_rfl))⟩,
  f57 := ⟨Tryz.f234.name, by decide, Tryz.func234.trans (congrArg some (by kernel_rfl))⟩,
  t0 := Tryz.underlying0,
  a0 := Tryz.isAgg0,
  z0 := Tryz.sizeOf0,
  v0 := Tryz.zeroValue0,
  t3 := Tryz.underlying3,
  a3 := Tryz.isAgg3,
  z3 := Tryz.sizeOf3,
  v3 := Tryz.zeroValue3,
  t4 := Tryz.underlying4,
  a4 := Tryz.isAgg4,
  z4 := Tryz.sizeOf4,
  v4 := Tryz.zeroValue4,
  t5 := Tryz.underlying5,
  a5 := Tryz.isAgg5,
  z5 := Tryz.sizeOf5,
  v5 := Tryz.zeroValue5,
  t9 := Tryz.underlying9,
  a9 := Tryz.isAgg9,
  z9 := Tryz.sizeOf9,
  v9 := Tryz.zeroValue9,
  t22 := Tryz.underlying56,
  a22 := Tryz.isAgg56,
  z22 := Tryz.sizeOf56,
  v22 := Tryz.zeroValue56,
  t25 := Tryz.underlying177,
  a25 := Tryz.isAgg177,
  z25 := Tryz.sizeOf177,
  v25 := Tryz.zeroValue177,
  t39 := Tryz.underlying227,
  a39 := Tryz.isAgg227,
  z39 := Tryz.sizeOf227,
  v39 := Tryz.zeroValue227,
  t45 := Tryz.underlying252,
  a45 := Tryz.isAgg252,
  z45 := Tryz.sizeOf252,
  v45 := Tryz.zeroValue252,
  t46 := Tryz.underlying253,
  a46 := Tryz.isAgg253,
  z46 := Tryz.sizeOf253,
  v46 := Tryz.zeroValue253,
  t50 := Tryz.underlying257,
  a50 := Tryz.isAgg257,
  z50 := Tryz.sizeOf257,
  v50 := Tryz.zeroValue257,
  t53 := Tryz.underlying106,
  a53 := Tryz.isAgg106,
  z53 := Tryz.sizeOf106,
  v53 := Tryz.zeroValue106,
  t55 := Tryz.underlying261,
  a55 := Tryz.isAgg261,
  z55 := Tryz.sizeOf261,
  v55 := Tryz.zeroValue261,
  t66 := Tryz.underlying275,
  a66 := Tryz.isAgg275,
  z66 := Tryz.sizeOf275,
  v66 := Tryz.zeroValue275,
  t70 := Tryz.underlying279,
  a70 := Tryz.isAgg279,
  z70 := Tryz.sizeOf279,
  v70 := Tryz.zeroValue279,
  t76 := Tryz.underlying289,
  a76 := Tryz.isAgg289,
  z76 := Tryz.sizeOf289,
  v76 := Tryz.zeroValue289,
  t77 := Tryz.underlying290,
  a77 := Tryz.isAgg290,
  z77 := Tryz.sizeOf290,
  v77 := Tryz.zeroValue290 }

end Go.Proofs.YtahdlejgjcjeoaaGreatDoor

namespace Go.Proofs.YtahdlejgjcjeoaaGreatDoor
open Go.RowKit

/-- The cells of one rule of the table. -/
def ruleAt (w : World) (o : Nat) (ms mw n0 n1 me : Int) (reg : Bool) : Prop :=
  w.cell? ⟨0, o, none⟩ = some (.int .i64 ms) ∧ w.cell? ⟨0, o + 1, none⟩ = some (.int .i64 mw) ∧ w.cell? ⟨0, o + 2, none⟩ = some (.int .i64 n0) ∧ w.cell? ⟨0, o + 3, none⟩ = some (.int .i64 n1) ∧ w.cell? ⟨0, o + 4, none⟩ = some (.int .i64 me) ∧ w.cell? ⟨0, o + 5, none⟩ = some (.bool reg)
/-- THE TABLE IS LAID. -/
def RulesAt (w : World) : Prop := 0 < w.heap.size ∧ ruleAt w 0 0 5 1 2147483647 0 false ∧ ruleAt w 6 1 5 1 2147483647 0 false ∧ ruleAt w 12 0 0 0 0 8 false ∧ ruleAt w 18 1 0 0 0 8 false ∧ ruleAt w 24 0 5 1 2147483647 8 true

theorem ruleAt.below {B : Nat} {w w' : World} (hb : Below B w w') (h0 : 0 < B) {o : Nat} {a b c d e : Int} {r : Bool} (h : ruleAt w o a b c d e r) : ruleAt w' o a b c d e r := by
  obtain ⟨c0, c1, c2, c3, c4, c5⟩ := h
  refine ⟨?_, ?_, ?_, ?_, ?_, ?_⟩ <;> (rw [hb.cell (p := ⟨0, _, none⟩) h0]; assumption)
theorem RulesAt.below {w w' : World} (h : RulesAt w) {B : Nat} (hb : Below B w w') (h0 : 0 < B) : RulesAt w' := by
  obtain ⟨h1, r1, r2, r3, r4, r5⟩ := h
  exact ⟨Nat.lt_of_lt_of_le h1 hb.size, r1.below hb h0, r2.below hb h0, r3.below hb h0, r4.below hb h0, r5.below hb h0⟩

theorem kinds5 {k : Int} (h1 : 1 ≤ k) (h5 : k ≤ 5) : k = 1 ∨ k = 2 ∨ k = 3 ∨ k = 4 ∨ k = 5 := by omega

set_option maxHeartbeats 400000 in
theorem isRegister_any (k : Int) (w : World) (h : RulesAt w) (h1 : 1 ≤ k) (h5 : k ≤ 5) :
    Calls Tryz.prog 159 #[.int .i64 k] w fun e w' => e = .returned (.bool (k == 5)) ∧ w' = w := by
  obtain ⟨h0, r1, r2, r3, r4, r5⟩ := h
  rcases kinds5 h1 h5 with rfl | rfl | rfl | rfl | rfl
  · obtain ⟨c0, c1, c2, c3, c4, c5⟩ := r1
    clear r2 r3 r4 r5
    go_enter Tryz.func159, Tryz.ntmps159
    go_wp2
    go_ret
    exact ⟨rfl, rfl⟩
  · obtain ⟨c0, c1, c2, c3, c4, c5⟩ := r2
    clear r1 r3 r4 r5
    go_enter Tryz.func159, Tryz.ntmps159
    go_wp2
    go_ret
    exact ⟨rfl, rfl⟩
  · obtain ⟨c0, c1, c2, c3, c4, c5⟩ := r3
    clear r2 r1 r4 r5
    go_enter Tryz.func159, Tryz.ntmps159
    go_wp2
    go_ret
    exact ⟨rfl, rfl⟩
  · obtain ⟨c0, c1, c2, c3, c4, c5⟩ := r4
    clear r2 r3 r1 r5
    go_enter Tryz.func159, Tryz.ntmps159
    go_wp2
    go_ret
    exact ⟨rfl, rfl⟩
  · obtain ⟨c0, c1, c2, c3, c4, c5⟩ := r5
    clear r2 r3 r4 r1
    go_enter Tryz.func159, Tryz.ntmps159
    go_wp2
    go_ret
    exact ⟨rfl, rfl⟩

def wi (n a b : Int) : Bool := decide (a ≤ n) && decide (n ≤ b)
theorem wi_iff (n a b : Int) : wi n a b = true ↔ a ≤ n ∧ n ≤ b := by simp [wi]
theorem wi_false (n a b : Int) : wi n a b = false ↔ ¬ (a ≤ n ∧ n ≤ b) := by rw [← wi_iff]; simp
set_option maxHeartbeats 400000 in
theorem within_any (n a b : Int) (w : World) :
    Calls Tryz.prog 180 #[.int .i64 n, .int .i64 a, .int .i64 b] w fun e w' => e = .returned (.bool (wi n a b)) ∧ w' = w := by
  by_cases h : a ≤ n
  · go_enter Tryz.func180, Tryz.ntmps180
    go_wp2
    go_ret
    exact ⟨ret_bool (by simp [wi, h]), rfl⟩
  · go_enter Tryz.func180, Tryz.ntmps180
    go_wp2
    go_ret
    exact ⟨ret_bool (by simp [wi]; omega), rfl⟩

set_option maxHeartbeats 400000 in
theorem isType_any (k : Int) (w : World) :
    Calls Tryz.prog 140 #[.int .i64 k] w fun e w' => e = .returned (.bool (wi k 1 5)) ∧ w' = w := by
  go_enter Tryz.func140, Tryz.ntmps140
  go_wp2_with (go_at_call 180; refine (within_any _ _ _ _).mono ?_; rintro e w' ⟨rfl, rfl⟩)
  go_ret
  exact ⟨rfl, rfl⟩

end Go.Proofs.YtahdlejgjcjeoaaGreatDoor

namespace Go.Proofs.YtahdlejgjcjeoaaGreatDoor
open Go.RowKit

theorem cb_range : ∀ l r, Lib.compareBytes l r = -1 ∨ Lib.compareBytes l r = 0 ∨ Lib.compareBytes l r = 1
  | [], [] => by simp [Lib.compareBytes]
  | [], _ :: _ => by simp [Lib.compareBytes]
  | _ :: _, [] => by simp [Lib.compareBytes]
  | a :: l, b :: r => by
    have := cb_range l r
    simp only [Lib.compareBytes]
    split
    · simp
    · split
      · simp
      · exact this
theorem bytesLess_cb : ∀ l r, Op.bytesLess l r = decide (Lib.compareBytes l r < 0)
  | [], [] => by simp [Op.bytesLess, Lib.compareBytes]
  | [], _ :: _ => by simp [Op.bytesLess, Lib.compareBytes]
  | _ :: _, [] => by simp [Op.bytesLess, Lib.compareBytes]
  | a :: l, b :: r => by
    have ih := bytesLess_cb l r
    simp only [Op.bytesLess, Lib.compareBytes, ih]
    by_cases h : a < b
    · simp [h]
    · by_cases h2 : b < a
      · have : ¬ a = b := fun e => h (e ▸ h2)
        simp [h, h2, this]
      · have : a = b := UInt8.toNat_inj.1 (by rw [UInt8.lt_iff_toNat_lt] at h h2; omega)
        simp [this]
theorem lessS (x y : ByteArray) : Op.bytesLess x.toList y.toList = decide (ordS x y < 0) := by
  rw [ByteArray.toList_eq, ByteArray.toList_eq, bytesLess_cb]; rfl
theorem sameS (x y : ByteArray) : (x.toList == y.toList) = decide (ordS x y = 0) := by
  rw [ByteArray.toList_eq, ByteArray.toList_eq, Bool.eq_iff_iff, beq_iff_eq, decide_eq_true_eq]
  exact (cb_zero _ _).symm
theorem ordS_range (x y : ByteArray) : ordS x y = -1 ∨ ordS x y = 0 ∨ ordS x y = 1 := cb_range _ _

set_option maxHeartbeats 400000 in
theorem isNaN_int (x : Int) (w : World) :
    Calls Tryz.prog 203 #[.int .i64 x] w fun e w' => e = .returned (.bool false) ∧ w' = w := by
  go_enter Tryz.func203, Tryz.ntmps203
  go_wp2
  go_ret
  exact ⟨ret_bool (by simp), rfl⟩
set_option maxHeartbeats 400000 in
theorem isNaN_string (x : ByteArray) (w : World) :
    Calls Tryz.prog 204 #[.string x] w fun e w' => e = .returned (.bool false) ∧ w' = w := by
  go_enter Tryz.func204, Tryz.ntmps204
  go_wp2
  go_ret
  exact ⟨ret_bool (by simp), rfl⟩
set_option maxHeartbeats 1000000 in
theorem compare_int (x y : Int) (w : World) :
    Calls Tryz.prog 163 #[.int .i64 x, .int .i64 y] w fun e w' => e = .returned (.int .i64 (ci x y)) ∧ w' = w := by
  go_enter Tryz.func163, Tryz.ntmps163
  go_wp2_with (go_at_call 203; refine (isNaN_int _ _).mono ?_; rintro e w' ⟨rfl, rfl⟩)
  all_goals go_ret
  all_goals exact ⟨ret_int (by simp only [ci, sgn]; split <;> (try split) <;> omega), rfl⟩
set_option maxHeartbeats 1000000 in
theorem compare_string (x y : ByteArray) (w : World) :
    Calls Tryz.prog 164 #[.string x, .string y] w fun e w' => e = .returned (.int .i64 (ordS x y)) ∧ w' = w := by
  go_enter Tryz.func164, Tryz.ntmps164
  go_wp2_with (go_at_call 204; refine (isNaN_string _ _).mono ?_; rintro e w' ⟨rfl, rfl⟩)
  all_goals go_ret
  all_goals go_light
  all_goals refine ⟨ret_int ?_, rfl⟩
  all_goals have hr := ordS_range x y
  all_goals simp only [lessS, sameS, decide_eq_true_eq, decide_eq_false_iff_not, Bool.not_eq_true', Bool.not_eq_false'] at *
  all_goals omega

/-- The first that is not nought. -/
def orI : List Int → Int
  | [] => 0
  | x :: r => if x ≠ 0 then x else orI r
theorem orI_skip (l : List Int) : ∀ k, k ≤ l.length → (∀ j, (h : j < l.length) → j < k → l[j] = 0) → orI l = orI (l.drop k) := by
  intro k
  induction k generalizing l with
  | zero => intros; simp
  | succ k ih =>
    intro hk h
    cases l with
    | nil => simp at hk
    | cons x l =>
      have h0 : x = 0 := h 0 (by simp) (by omega)
      simp only [orI, h0, List.drop_succ_cons]
      simp
      exact ih l (by simpa using hk) (fun j hj hjk => by have := h (j + 1) (by simpa using hj) (by omega); simpa using this)
theorem orI_hit (l : List Int) (k : Nat) (hk : k < l.length) (h : ∀ j, (h : j < l.length) → j < k → l[j] = 0) (hn : l[k] ≠ 0) : orI l = l[k] := by
  rw [orI_skip l k (by omega) h, List.drop_eq_getElem_cons hk]
  simp [orI, hn]

set_option maxHeartbeats 1000000 in
theorem or_any (b cap : Nat) (l : List Int) (w : World) (hrow : ∀ k, (h : k < l.length) → w.cell? ⟨b, k, none⟩ = some (.int .i64 l[k])) (_hcap : l.length ≤ cap) (hlen : l.length ≤ 1000) :
    Calls Tryz.prog 162 #[.slice (some ⟨b, 0, none⟩) l.length cap] w fun e w' => e = .returned (.int .i64 (orI l)) ∧ w' = w := by
  have HR : Hid (∀ k, (h : k < l.length) → w.cell? ⟨b, k, none⟩ = some (.int .i64 l[k])) := hrow
  clear hrow
  go_enter Tryz.func162, Tryz.ntmps162
  go_wp2
  go_loopw [8] (fun i wr => ∃ k : Nat, k ≤ l.length ∧ i = .int .i64 k ∧ Hid (∀ j, (h : j < l.length) → j < k → l[j] = 0) ∧ wr = w) (fun i _ => l.length - (intOf i).toNat)
  case atStart => exact ⟨0, Nat.zero_le _, rfl, fun _ _ h => by omega, rfl⟩
  case round =>
    obtain ⟨k, hk, rfl, ht, rfl⟩ := hrel
    by_cases hl : k < l.length
    · have hc := HR.out k hl
      have HH : Hid (l[k] ≠ 0 → orI l = l[k]) := fun hn => orI_hit l k hl ht.out hn
      by_cases hz : l[k] = 0
      · rw [hz] at hc
        have HT : Hid (∀ j, (h : j < l.length) → j < k + 1 → l[j] = 0) := fun j hj hjk => by
          by_cases e : j = k
          · subst e; exact hz
          · exact ht.out j hj (by omega)
        clear hz HH
        go_wp2
        go_roundw
        case rel => exact ⟨k + 1, by omega, by go_num, HT, trivial⟩
        case measure => simp [intOf]; omega
      · have HE : Hid (orI l = l[k]) := HH.out hz
        clear HH
        generalize l[k] = x at *
        have hnx : (x != 0) = true := by simp [hz]
        clear hz
        go_wp2
        go_ret
        exact ⟨ret_int HE.out.symm, rfl⟩
    · have HE : Hid (orI l = 0) := by
        have := orI_skip l k hk ht.out
        rw [List.drop_of_length_le (by omega)] at this
        exact this
      go_wp2
      go_ret
      exact ⟨ret_int HE.out.symm, rfl⟩
end Go.Proofs.YtahdlejgjcjeoaaGreatDoor

namespace Go.Proofs.YtahdlejgjcjeoaaGreatDoor
open Go.RowKit

theorem row_new (W : World) (l : List Int) (T : TypeId) (B : Nat) (hB : B = W.heap.size) : ∀ k, (h : k < l.length) → (W.alloc (.cells (l.map (Value.int .i64)).toArray T)).drew.cell? ⟨B, k, none⟩ = some (.int .i64 l[k]) := by
  intro k hk
  subst hB
  have hb : (W.alloc (.cells (l.map (Value.int .i64)).toArray T)).drew.heap[W.heap.size]? = some (.cells (l.map (Value.int .i64)).toArray T) := heap_alloc_new W _
  rw [cell_of_row _ _ _ _ _ _ hb]
  simp [hk]

theorem three_alloc (w : World) (a b c : Obj) : (((w.alloc a).alloc b).alloc c).drew = Go.Sort.grow (w.drewN 1) #[a, b, c] := by
  rw [Go.Sort.alloc_eq_grow, Go.Sort.alloc_eq_grow, Go.Sort.alloc_eq_grow, Go.Sort.grow_grow, Go.Sort.grow_grow]; rfl

theorem gcmp_or (g h : Gr) : gcmp g h = orI [ci g.n h.n, ci g.who h.who, ordS g.elem h.elem] := by
  simp only [gcmp, orI]
  split <;> (try split) <;> (try split) <;> simp_all

set_option maxRecDepth 100000 in
set_option maxHeartbeats 1000000 in
theorem compareGrades_any (g h : Gr) (w : World) :
    Calls Tryz.prog 192 #[g.val, h.val] w fun e w' => e = .returned (.int .i64 (gcmp g h)) ∧ Below w.heap.size w w' := by
  have HG : Hid (gcmp g h = orI [ci g.n h.n, ci g.who h.who, ordS g.elem h.elem]) := gcmp_or g h
  unfold Gr.val
  go_enter Tryz.func192, Tryz.ntmps192
  go_wp2
  go_region_held3 (fun w' => w'.cell? ⟨w.heap.size, 0, none⟩ = some (.int .i64 g.n) ∧ w'.cell? ⟨w.heap.size, 1, none⟩ = some (.int .i64 g.who) ∧ w'.cell? ⟨w.heap.size, 2, none⟩ = some (.string g.elem) ∧ w'.cell? ⟨w.heap.size + 1, 0, none⟩ = some (.int .i64 h.n) ∧ w'.cell? ⟨w.heap.size + 1, 1, none⟩ = some (.int .i64 h.who) ∧ w'.cell? ⟨w.heap.size + 1, 2, none⟩ = some (.string h.elem)) (go_keep) (first | (go_at_call 163; refine (compare_int _ _ _).mono ?_; rintro e w1 ⟨rfl, rfl⟩) | (go_at_call 164; refine (compare_string _ _ _).mono ?_; rintro e w1 ⟨rfl, rfl⟩) | (go_at_call 162; refine (or_any _ 3 [ci g.n h.n, ci g.who h.who, ordS g.elem h.elem] _ (by exact row_new _ [ci g.n h.n, ci g.who h.who, ordS g.elem h.elem] _ _ (by simp)) (by simp) (by simp)).mono ?_; rintro e w1 ⟨rfl, rfl⟩))
  go_wp2
  go_ret
  refine ⟨ret_int HG.out.symm, ?_⟩
  repeat (first | exact Below.refl _ _ | refine below_drewN ?_ _ | refine Below.drew ?_ | refine below_alloc ?_ _)

def acmp (a b : At) : Int := orI [ci a.ty b.ty, ordS a.key b.key, ci a.side b.side, ci a.who b.who, ordS a.elem b.elem]

open Go.Sort in
set_option maxRecDepth 100000 in
set_option maxHeartbeats 1000000 in
theorem compareAtoms_any (g h : At) (w : World) :
    Calls Tryz.prog 105 #[g.val, h.val] w fun e w' => e = .returned (.int .i64 (acmp g h)) ∧ ∃ q os, w' = grow (w.drewN q) os := by
  unfold At.val acmp
  go_enter Tryz.func105, Tryz.ntmps105
  go_wp2
  go_region_held3 (fun w' => w'.cell? ⟨w.heap.size, 0, none⟩ = some (.int .i64 g.ty) ∧ w'.cell? ⟨w.heap.size, 1, none⟩ = some (.string g.key) ∧ w'.cell? ⟨w.heap.size, 2, none⟩ = some (.int .i64 g.side) ∧ w'.cell? ⟨w.heap.size, 3, none⟩ = some (.int .i64 g.who) ∧ w'.cell? ⟨w.heap.size, 4, none⟩ = some (.string g.elem) ∧ w'.cell? ⟨w.heap.size + 1, 0, none⟩ = some (.int .i64 h.ty) ∧ w'.cell? ⟨w.heap.size + 1, 1, none⟩ = some (.string h.key) ∧ w'.cell? ⟨w.heap.size + 1, 2, none⟩ = some (.int .i64 h.side) ∧ w'.cell? ⟨w.heap.size + 1, 3, none⟩ = some (.int .i64 h.who) ∧ w'.cell? ⟨w.heap.size + 1, 4, none⟩ = some (.string h.elem)) (go_keep) (first | (go_at_call 163; refine (compare_int _ _ _).mono ?_; rintro e w1 ⟨rfl, rfl⟩) | (go_at_call 164; refine (compare_string _ _ _).mono ?_; rintro e w1 ⟨rfl, rfl⟩) | (go_at_call 162; refine (or_any _ 5 [ci g.ty h.ty, ordS g.key h.key, ci g.side h.side, ci g.who h.who, ordS g.elem h.elem] _ (by exact row_new _ [ci g.ty h.ty, ordS g.key h.key, ci g.side h.side, ci g.who h.who, ordS g.elem h.elem] _ _ (by simp)) (by simp) (by simp)).mono ?_; rintro e w1 ⟨rfl, rfl⟩))
  go_wp2
  go_ret
  exact ⟨rfl, 1, _, three_alloc w _ _ _⟩
end Go.Proofs.YtahdlejgjcjeoaaGreatDoor
