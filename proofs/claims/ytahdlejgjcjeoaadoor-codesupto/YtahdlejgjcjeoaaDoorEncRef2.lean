/- Walks of the document's bytes and Encode. -/
import Derived.Test.YtahdlejgjcjeoaaDoorEncRef
import Derived.Test.YtahdlejgjcjeoaaDoorReg
namespace Go.Proofs.YtahdlejgjcjeoaaDoor
open Go.RowKit

theorem written_int (n : Int) (wd : Nat) (w : World) (hw : wd ≤ 8) (h0 : 0 ≤ n) (h1 : n < 9223372036854775808) :
    Calls Tryd.prog 102 #[.int .i64 n, .int .i64 wd] w fun e w' => e = .returned (.string (bstr (be n.toNat wd))) ∧ Below w.heap.size w w' := by
  have := written_any wd n.toNat w hw (by omega)
  rwa [show ((n.toNat : Nat) : Int) = n by omega] at this

set_option maxRecDepth 100000 in
set_option maxHeartbeats 2000000 in
theorem bytes_any (v : Value) (L : List At) (w : World) (hv : SliceOf w v L) (hf : ∀ a ∈ L, fit2 a) (hlen : L.length ≤ 8388608) :
    Calls Tryd.prog 61 #[v] w fun e w' => e = .returned (.string (bstr (be L.length 8 ++ encL L))) ∧ Below w.heap.size w w' := by
  have HV : Hid (SliceOf w v L) := hv
  have HF : Hid (∀ a ∈ L, fit2 a) := hf
  obtain ⟨ad, cap, rfl, hcap, -⟩ := hv
  clear hf
  have hc0 := written_int (L.length : Int) 8 w (by omega) (by omega) (by omega)
  rw [show ((L.length : Int)).toNat = L.length by omega] at hc0
  go_enter Tryd.func61, Tryd.ntmps61
  go_wp2_with fail
  refine (show Calls Tryd.prog 102 #[.int .i64 (L.length : Int), .int .i64 8] w _ from hc0).mono ?_
  rintro e w1 ⟨rfl, hb1⟩
  clear hc0
  go_wp2
  go_loopw [3, 4] (fun s j wr => ∃ k : Nat, k ≤ L.length ∧ j = .int .i64 k ∧ Hid (s = .string (bstr (be L.length 8 ++ encL (L.take k)))) ∧ Below w.heap.size w wr) (fun _ j _ => L.length - (intOf j).toNat)
  case atStart => exact ⟨0, Nat.zero_le _, rfl, by simp [Hid, encL], hb1⟩
  case round =>
    obtain ⟨k, hk, rfl, hs, hbw⟩ := hrel
    by_cases hl : k < L.length
    · obtain ⟨ad', cap', e', -, HS⟩ := HV.out.below hbw
      cases e'
      obtain ⟨b, off, rfl, hb, hrow⟩ := HS (by omega)
      obtain ⟨c0, c1, c2, c3, c4, c5⟩ := hrow.nth hl
      have hfa := HF.out _ (nth_mem L k hl)
      have hsn : encL (L.take (k + 1)) = encL (L.take k) ++ encA (nth L k) := by rw [List.take_succ_eq_append_getElem hl, encL_snoc, nth_eq L k hl]
      have hle := encL_length (L.take k) (fun a ha => HF.out a (List.mem_of_mem_take ha))
      have hlt := List.length_take_le k L
      generalize nth L k = a at *
      have HSN : Hid (be L.length 8 ++ encL (L.take (k + 1)) = (be L.length 8 ++ encL (L.take k)) ++ encA a) := by rw [Hid, hsn, List.append_assoc]
      have hN : (bstr (be L.length 8 ++ encL (L.take k))).size ≤ 549755813888 := by rw [bstr_size, List.length_append, be_length]; omega
      obtain rfl := hs.out
      clear hrow hsn hle hlt HS hs
      generalize hys : be L.length 8 ++ encL (L.take k) = ys at *
      obtain ⟨ty, key, side, who, elem, n⟩ := a
      obtain ⟨a1, a2, a3, a4, a5, a6, a7, a8, a9, a10⟩ := hfa
      simp only at *
      have HW : Hid (∀ (W : World) (x : Int), 0 ≤ x → x ≤ 4294967296 → Calls Tryd.prog 102 #[.int .i64 x, .int .i64 1] W fun e w' => e = .returned (.string (bstr (be x.toNat 1))) ∧ Below W.heap.size W w') := fun W x h0 h1 => written_int x 1 W (by omega) h0 (by omega)
      have HW4 : Hid (∀ (W : World) (x : Int), 0 ≤ x → x ≤ 4294967296 → Calls Tryd.prog 102 #[.int .i64 x, .int .i64 4] W fun e w' => e = .returned (.string (bstr (be x.toNat 4))) ∧ Below W.heap.size W w') := fun W x h0 h1 => written_int x 4 W (by omega) h0 (by omega)
      obtain ⟨N, hN0⟩ : ∃ N, (bstr ys).size = N := ⟨_, rfl⟩
      rw [hN0] at hN
      have hk1 : ∀ x, (bstr (be x 1)).size = 1 := fun x => by rw [bstr_size, be_length]
      have hk4 : ∀ x, (bstr (be x 4)).size = 4 := fun x => by rw [bstr_size, be_length]
      have hsa : ∀ x y : ByteArray, (x ++ y).size = x.size + y.size := fun x y => by simp
      have p1 : ¬ 9223372036854775807 < N + 1 := by omega
      have p2 : ¬ 9223372036854775807 < N + 1 + 1 := by omega
      have p3 : ¬ 9223372036854775807 < N + 1 + 1 + key.size := by omega
      have p4 : ¬ 9223372036854775807 < N + 1 + 1 + key.size + 1 := by omega
      have p5 : ¬ 9223372036854775807 < N + 1 + 1 + key.size + 1 + 1 := by omega
      have p6 : ¬ 9223372036854775807 < N + 1 + 1 + key.size + 1 + 1 + 1 := by omega
      have p7 : ¬ 9223372036854775807 < N + 1 + 1 + key.size + 1 + 1 + 1 + elem.size := by omega
      have p8 : ¬ 9223372036854775807 < N + 1 + 1 + key.size + 1 + 1 + 1 + elem.size + 4 := by omega
      have hS0 := six_start (x0 := .int .i64 ty) (x1 := .string key) (x2 := .int .i64 side) (x3 := .int .i64 who) (x4 := .string elem) (x5 := .int .i64 n) (e := 52) rfl hbw
      go_wp2
      go_region_held3 (fun w' => Below w.heap.size w w' ∧ wr.heap.size < w'.heap.size ∧ w'.cell? ⟨wr.heap.size, 0, none⟩ = some (.int .i64 ty) ∧ w'.cell? ⟨wr.heap.size, 1, none⟩ = some (.string key) ∧ w'.cell? ⟨wr.heap.size, 2, none⟩ = some (.int .i64 side) ∧ w'.cell? ⟨wr.heap.size, 3, none⟩ = some (.int .i64 who) ∧ w'.cell? ⟨wr.heap.size, 4, none⟩ = some (.string elem) ∧ w'.cell? ⟨wr.heap.size, 5, none⟩ = some (.int .i64 n)) (first | assumption | exact six_keep (by assumption) hbN | exact six_drew (by assumption) | go_keep) (first | (go_at_call 102; refine calls_of_args (rfl : _ = #[Value.int IntKind.i64 _, Value.int IntKind.i64 1]) (HW.out _ _ ?_ ?_) ?_; omega; omega; rintro e wN ⟨rfl, hbN⟩) | (go_at_call 102; refine calls_of_args (rfl : _ = #[Value.int IntKind.i64 _, Value.int IntKind.i64 4]) (HW4.out _ _ ?_ ?_) ?_; omega; omega; rintro e wN ⟨rfl, hbN⟩) | fail)
      have hbe := (by assumption : Below w.heap.size w wN ∧ _).1
      clear hS0
      go_wp2
      refine ⟨⟨k + 1, by omega, by go_num, ?_, hbe⟩, by simp [intOf]; omega⟩
      rw [Hid, HSN.out]
      simp only [encA, ← bstr_append, bstr_self, ByteArray.append_assoc]
    · have hkl : k = L.length := by omega
      subst hkl
      obtain rfl := hs.out
      rw [List.take_length]
      generalize hys : be L.length 8 ++ encL L = ys at *
      go_wp2
      go_ret
      exact ⟨rfl, hbw⟩
end Go.Proofs.YtahdlejgjcjeoaaDoor
