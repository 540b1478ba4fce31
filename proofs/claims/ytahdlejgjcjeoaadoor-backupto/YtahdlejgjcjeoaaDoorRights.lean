/- Walks of the laws' pick, cut, right, rights: atoms that may be. -/
import Derived.Test.YtahdlejgjcjeoaaDoorPickC
namespace Go.Proofs.YtahdlejgjcjeoaaDoor
open Go.RowKit

theorem may_of {a : At} (h : 1 ≤ a.key.size ∧ a.key.size ≤ 4 ∧
  ((a.ty = 1 ∧ 0 ≤ a.who ∧ a.who ≤ 5 ∧ 1 ≤ a.n ∧ a.n ≤ 2147483647 ∧ a.side = 0 ∧ a.elem.size = 0) ∨
   (a.ty = 2 ∧ 0 ≤ a.who ∧ a.who ≤ 5 ∧ 1 ≤ a.n ∧ a.n ≤ 2147483647 ∧ (a.side = 0 ∨ a.side = 1) ∧ a.elem.size = 0) ∨
   (a.ty = 3 ∧ a.elem.size ≤ 8 ∧ a.side = 0 ∧ a.who = 0 ∧ a.n = 0) ∨
   (a.ty = 4 ∧ a.elem.size ≤ 8 ∧ (a.side = 0 ∨ a.side = 1) ∧ a.who = 0 ∧ a.n = 0) ∨
   (a.ty = 5 ∧ 0 ≤ a.who ∧ a.who ≤ 5 ∧ 1 ≤ a.n ∧ a.n ≤ 2147483647 ∧ a.elem.size ≤ 8 ∧ a.side = 0))) : mayB a = true := decide_eq_true h
theorem wrap1 {t : Int} (h : 0 ≤ t ∧ t < 5) : IntKind.i64.wrap (1 + t) = 1 + t := by
  have := h.1
  have := h.2
  rw [IntKind.wrap_i64]
  omega

set_option maxRecDepth 100000 in
set_option maxHeartbeats 2000000 in
theorem right_any (a : At) (w : World) (hs : short a) (hw : wide a) :
    Calls Tryd.prog 58 #[a.val] w fun e w' => ∃ b : At, e = .returned b.val ∧ mayB b = true ∧ Below w.heap.size w w' := by
  obtain ⟨ty, key, side, who, elem, n⟩ := a
  obtain ⟨hk, he⟩ := hs
  obtain ⟨r1, r2, r3, r4⟩ := hw
  simp only [At.val] at *
  have HP5 : Hid (∀ (W : World) (x : Int), -9223372036854775808 ≤ x → x ≤ 9223372036854775807 → Calls Tryd.prog 100 #[.int .i64 x, .int .i64 5] W fun e w' => ∃ r, e = .returned (.int .i64 r) ∧ (0 ≤ r ∧ r < 5) ∧ w' = W) := fun W x h0 h1 => pick_any x 5 W h0 h1 (by omega) (by omega)
  have HC1 : Hid (∀ (W : World) (x : ByteArray), x.size ≤ 1125899906842624 → Calls Tryd.prog 101 #[.string x, .int .i64 1] W fun e w' => ∃ t : ByteArray, e = .returned (.string t) ∧ t.size = min x.size 1 ∧ w' = W) := fun W x h => cut_any x 1 W h (by omega)
  have HP6 : Hid (∀ (W : World) (x : Int), -9223372036854775808 ≤ x → x ≤ 9223372036854775807 → Calls Tryd.prog 100 #[.int .i64 x, .int .i64 6] W fun e w' => ∃ r, e = .returned (.int .i64 r) ∧ (0 ≤ r ∧ r < 6) ∧ w' = W) := fun W x h0 h1 => pick_any x 6 W h0 h1 (by omega) (by omega)
  have HPN : Hid (∀ (W : World) (x : Int), -9223372036854775808 ≤ x → x ≤ 9223372036854775807 → Calls Tryd.prog 100 #[.int .i64 x, .int .i64 2147483647] W fun e w' => ∃ r, e = .returned (.int .i64 r) ∧ (0 ≤ r ∧ r < 2147483647) ∧ w' = W) := fun W x h0 h1 => pick_any x 2147483647 W h0 h1 (by omega) (by omega)
  have HP2 : Hid (∀ (W : World) (x : Int), -9223372036854775808 ≤ x → x ≤ 9223372036854775807 → Calls Tryd.prog 100 #[.int .i64 x, .int .i64 2] W fun e w' => ∃ r, e = .returned (.int .i64 r) ∧ (0 ≤ r ∧ r < 2) ∧ w' = W) := fun W x h0 h1 => pick_any x 2 W h0 h1 (by omega) (by omega)
  have HC8 : Hid (∀ (W : World) (x : ByteArray), x.size ≤ 1125899906842624 → Calls Tryd.prog 101 #[.string x, .int .i64 8] W fun e w' => ∃ t : ByteArray, e = .returned (.string t) ∧ t.size = min x.size 8 ∧ w' = W) := fun W x h => cut_any x 8 W h (by omega)
  have hka : ∀ x y : ByteArray, (x ++ y).size = x.size + y.size := fun x y => by simp
  have hk1 : (⟨#[97]⟩ : ByteArray).size = 1 := rfl
  have hkb : ¬ 9223372036854775807 < key.size + 1 := by omega
  go_enter Tryd.func58, Tryd.ntmps58
  go_wp2
  have hS0 := six_keep (six_start (x0 := .int .i64 ty) (x1 := .string key) (x2 := .int .i64 side) (x3 := .int .i64 who) (x4 := .string elem) (x5 := .int .i64 n) (e := 52) rfl (Below.refl _ w)) (below_alloc (Below.refl _ _) (.cells #[.int .i64 0, .string ⟨#[]⟩, .int .i64 0, .int .i64 0, .string ⟨#[]⟩, .int .i64 0] 52))
  obtain ⟨hbW, hlW, c0, c1, c2, c3, c4, c5⟩ := hS0
  have n0 := World.new_ne _ _ c0
  have n1 := World.new_ne _ _ c1
  have n2 := World.new_ne _ _ c2
  have n3 := World.new_ne _ _ c3
  have n4 := World.new_ne _ _ c4
  have n5 := World.new_ne _ _ c5
  go_region_held3 (fun w' => w'.cell? ⟨w.heap.size, 0, none⟩ = some (.int .i64 ty) ∧ w'.cell? ⟨w.heap.size, 1, none⟩ = some (.string key) ∧ w'.cell? ⟨w.heap.size, 2, none⟩ = some (.int .i64 side) ∧ w'.cell? ⟨w.heap.size, 3, none⟩ = some (.int .i64 who) ∧ w'.cell? ⟨w.heap.size, 4, none⟩ = some (.string elem) ∧ w'.cell? ⟨w.heap.size, 5, none⟩ = some (.int .i64 n)) (first | assumption | go_keep) (first | (go_at_call 100; refine calls_of_args (rfl : _ = #[Value.int IntKind.i64 _, Value.int IntKind.i64 5]) (HP5.out _ _ ?_ ?_) ?_; omega; omega; rintro e wN ⟨t, rfl, ht, hwN⟩; have hwt := wrap1 ht; subst hwN) | (go_at_call 101; refine calls_of_args (rfl : _ = #[Value.string _, Value.int IntKind.i64 1]) (HC1.out _ _ ?_) ?_; (rw [hka, hk1]; omega); rintro e wN ⟨kk, rfl, hkk, hwN⟩; subst hwN) | fail)
  all_goals have ht5 : t = 0 ∨ t = 1 ∨ t = 2 ∨ t = 3 ∨ t = 4 := by omega
  all_goals rw [hka, hk1] at hkk
  all_goals clear HP5 HC1
  all_goals rcases ht5 with rfl | rfl | rfl | rfl | rfl
  all_goals go_wp2_with (first | (go_at_call 100; refine calls_of_args (rfl : _ = #[Value.int IntKind.i64 _, Value.int IntKind.i64 6]) (HP6.out _ _ ?_ ?_) ?_; omega; omega; rintro e wN ⟨r6, rfl, h6, hwN⟩; subst hwN) | (go_at_call 100; refine calls_of_args (rfl : _ = #[Value.int IntKind.i64 _, Value.int IntKind.i64 2147483647]) (HPN.out _ _ ?_ ?_) ?_; omega; omega; rintro e wN ⟨rn, rfl, hn, hwN⟩; subst hwN) | (go_at_call 100; refine calls_of_args (rfl : _ = #[Value.int IntKind.i64 _, Value.int IntKind.i64 2]) (HP2.out _ _ ?_ ?_) ?_; omega; omega; rintro e wN ⟨s2, rfl, h2, hwN⟩; subst hwN) | (go_at_call 101; refine calls_of_args (rfl : _ = #[Value.string _, Value.int IntKind.i64 8]) (HC8.out _ _ ?_) ?_; omega; rintro e wN ⟨k8, rfl, h8, hwN⟩; subst hwN) | fail)
  all_goals have hz0 : (⟨#[]⟩ : ByteArray).size = 0 := rfl
  · refine bodyPost_ret (v := At.val ⟨1, kk, 0, r6, ⟨#[]⟩, 1 + rn⟩) ?_ rfl ⟨⟨1, kk, 0, r6, ⟨#[]⟩, 1 + rn⟩, rfl, may_of ?_, (below_alloc (below_alloc (below_alloc (Below.refl _ w) _) _) _).drew⟩
    · simp [results, Tryd.results58, go_sem, At.val]
    · dsimp only
      omega
  · refine bodyPost_ret (v := At.val ⟨2, kk, s2, r6, ⟨#[]⟩, 1 + rn⟩) ?_ rfl ⟨⟨2, kk, s2, r6, ⟨#[]⟩, 1 + rn⟩, rfl, may_of ?_, (below_alloc (below_alloc (below_alloc (Below.refl _ w) _) _) _).drew⟩
    · simp [results, Tryd.results58, go_sem, At.val]
    · dsimp only
      omega
  · refine bodyPost_ret (v := At.val ⟨3, kk, 0, 0, k8, 0⟩) ?_ rfl ⟨⟨3, kk, 0, 0, k8, 0⟩, rfl, may_of ?_, (below_alloc (below_alloc (below_alloc (Below.refl _ w) _) _) _).drew⟩
    · simp [results, Tryd.results58, go_sem, At.val]
    · dsimp only
      omega
  · refine bodyPost_ret (v := At.val ⟨4, kk, s2, 0, k8, 0⟩) ?_ rfl ⟨⟨4, kk, s2, 0, k8, 0⟩, rfl, may_of ?_, (below_alloc (below_alloc (below_alloc (Below.refl _ w) _) _) _).drew⟩
    · simp [results, Tryd.results58, go_sem, At.val]
    · dsimp only
      omega
  · refine bodyPost_ret (v := At.val ⟨5, kk, 0, r6, k8, 1 + rn⟩) ?_ rfl ⟨⟨5, kk, 0, r6, k8, 1 + rn⟩, rfl, may_of ?_, (below_alloc (below_alloc (below_alloc (Below.refl _ w) _) _) _).drew⟩
    · simp [results, Tryd.results58, go_sem, At.val]
    · dsimp only
      omega
  · refine bodyPost_ret (v := At.val ⟨1, kk, 0, r6, ⟨#[]⟩, 1 + rn⟩) ?_ rfl ⟨⟨1, kk, 0, r6, ⟨#[]⟩, 1 + rn⟩, rfl, may_of ?_, (below_alloc (below_alloc (below_alloc (Below.refl _ w) _) _) _).drew⟩
    · simp [results, Tryd.results58, go_sem, At.val]
    · dsimp only
      omega
  · refine bodyPost_ret (v := At.val ⟨2, kk, s2, r6, ⟨#[]⟩, 1 + rn⟩) ?_ rfl ⟨⟨2, kk, s2, r6, ⟨#[]⟩, 1 + rn⟩, rfl, may_of ?_, (below_alloc (below_alloc (below_alloc (Below.refl _ w) _) _) _).drew⟩
    · simp [results, Tryd.results58, go_sem, At.val]
    · dsimp only
      omega
  · refine bodyPost_ret (v := At.val ⟨3, kk, 0, 0, k8, 0⟩) ?_ rfl ⟨⟨3, kk, 0, 0, k8, 0⟩, rfl, may_of ?_, (below_alloc (below_alloc (below_alloc (Below.refl _ w) _) _) _).drew⟩
    · simp [results, Tryd.results58, go_sem, At.val]
    · dsimp only
      omega
  · refine bodyPost_ret (v := At.val ⟨4, kk, s2, 0, k8, 0⟩) ?_ rfl ⟨⟨4, kk, s2, 0, k8, 0⟩, rfl, may_of ?_, (below_alloc (below_alloc (below_alloc (Below.refl _ w) _) _) _).drew⟩
    · simp [results, Tryd.results58, go_sem, At.val]
    · dsimp only
      omega
  · refine bodyPost_ret (v := At.val ⟨5, kk, 0, r6, k8, 1 + rn⟩) ?_ rfl ⟨⟨5, kk, 0, r6, k8, 1 + rn⟩, rfl, may_of ?_, (below_alloc (below_alloc (below_alloc (Below.refl _ w) _) _) _).drew⟩
    · simp [results, Tryd.results58, go_sem, At.val]
    · dsimp only
      omega
  · refine bodyPost_ret (v := At.val ⟨1, kk, 0, r6, ⟨#[]⟩, 1 + rn⟩) ?_ rfl ⟨⟨1, kk, 0, r6, ⟨#[]⟩, 1 + rn⟩, rfl, may_of ?_, (below_alloc (below_alloc (below_alloc (Below.refl _ w) _) _) _).drew⟩
    · simp [results, Tryd.results58, go_sem, At.val]
    · dsimp only
      omega
  · refine bodyPost_ret (v := At.val ⟨2, kk, s2, r6, ⟨#[]⟩, 1 + rn⟩) ?_ rfl ⟨⟨2, kk, s2, r6, ⟨#[]⟩, 1 + rn⟩, rfl, may_of ?_, (below_alloc (below_alloc (below_alloc (Below.refl _ w) _) _) _).drew⟩
    · simp [results, Tryd.results58, go_sem, At.val]
    · dsimp only
      omega
  · refine bodyPost_ret (v := At.val ⟨3, kk, 0, 0, k8, 0⟩) ?_ rfl ⟨⟨3, kk, 0, 0, k8, 0⟩, rfl, may_of ?_, (below_alloc (below_alloc (below_alloc (Below.refl _ w) _) _) _).drew⟩
    · simp [results, Tryd.results58, go_sem, At.val]
    · dsimp only
      omega
  · refine bodyPost_ret (v := At.val ⟨4, kk, s2, 0, k8, 0⟩) ?_ rfl ⟨⟨4, kk, s2, 0, k8, 0⟩, rfl, may_of ?_, (below_alloc (below_alloc (below_alloc (Below.refl _ w) _) _) _).drew⟩
    · simp [results, Tryd.results58, go_sem, At.val]
    · dsimp only
      omega
  · refine bodyPost_ret (v := At.val ⟨5, kk, 0, r6, k8, 1 + rn⟩) ?_ rfl ⟨⟨5, kk, 0, r6, k8, 1 + rn⟩, rfl, may_of ?_, (below_alloc (below_alloc (below_alloc (Below.refl _ w) _) _) _).drew⟩
    · simp [results, Tryd.results58, go_sem, At.val]
    · dsimp only
      omega
end Go.Proofs.YtahdlejgjcjeoaaDoor
