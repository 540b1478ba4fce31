/- Walk of the laws' textOf. -/
import Derived.Test.YtfddkkkkehbecaaDoorBk2
import Derived.Test.YtfddkkkkehbecaaDoorEncRef
namespace Go.Proofs.YtfddkkkkehbecaaDoor
open Go.RowKit

theorem digs_zero (f : Nat) : digs f 0 = [] := by
  cases f <;> simp [digs]
theorem digs_pos {f k : Nat} (h : 0 < k) : digs (f + 1) k = UInt8.ofNat (48 + k % 10) :: digs f (k / 10) := by
  rw [digs, if_neg (by omega)]
theorem dig_str (k : Nat) : strOfNums [48 + (k : Int) % 10] = bstr [UInt8.ofNat (48 + k % 10)] := by
  have e : (48 + (k : Int) % 10).toNat = 48 + k % 10 := by omega
  simp only [strOfNums, bstr, List.map_cons, List.map_nil, e]

set_option maxRecDepth 100000 in
set_option maxHeartbeats 1000000 in
theorem textOf_any (k : Nat) (w : World) (hk : k ≤ 1000000) :
    Calls Tryd.prog 56 #[.int .i64 k] w fun e w' => e = .returned (.string (markT k)) ∧ Below w.heap.size w w' := by
  have hcv := conv_one
  go_enter Tryd.func56, Tryd.ntmps56
  go_wp2
  go_loopw [0, 3] (fun s0 s2 wr => ∃ (f m : Nat) (done : List UInt8), s0 = .int .i64 m ∧ s2 = .string (bstr ([109, 97, 114, 107, 32] ++ done)) ∧ Hid (done ++ digs f m = digs 20 k) ∧ Hid (m < 10 ^ f) ∧ done.length + f ≤ 20 ∧ m ≤ 1000000 ∧ Below w.heap.size w wr) (fun s0 _ _ => (intOf s0).toNat)
  case atStart => exact ⟨20, k, [], rfl, rfl, rfl, by rw [Hid]; omega, by simp, hk, Below.refl _ _⟩
  case round =>
    obtain ⟨f, m, done, rfl, rfl, hd, hm, hlen, hmb, hb⟩ := hrel
    by_cases h0 : 0 < m
    · obtain ⟨f', rfl⟩ : ∃ f', f = f' + 1 := by
        cases f with
        | zero => have := hm.out; simp at this; omega
        | succ f' => exact ⟨f', rfl⟩
      have q1 : ((m : Int) ≤ 0) = False := by simp; omega
      have q2 : ((0 : Int) < (m : Int)) = True := by simp; omega
      have HD : Hid ((done ++ [UInt8.ofNat (48 + m % 10)]) ++ digs f' (m / 10) = digs 20 k) := by
        have := hd.out
        rw [digs_pos h0] at this
        rw [Hid, List.append_assoc]
        exact this
      have HM : Hid (m / 10 < 10 ^ f') := Nat.div_lt_of_lt_mul (by have := hm.out; rw [Nat.pow_succ] at this; omega)
      have HS : Hid (bstr ([109, 97, 114, 107, 32] ++ done) ++ strOfNums [48 + (m : Int) % 10] = bstr ([109, 97, 114, 107, 32] ++ (done ++ [UInt8.ofNat (48 + m % 10)]))) := by rw [Hid, dig_str, bstr_append, List.append_assoc]
      have hsz1 : (bstr ([109, 97, 114, 107, 32] ++ done)).size = 5 + done.length := by rw [bstr_size, List.length_append]; rfl
      have hsz2 : (strOfNums [48 + (m : Int) % 10]).size = 1 := by rw [strOfNums_size]; rfl
      have hw1 : IntKind.i64.wrap ((m : Int) / 10) = (m : Int) / 10 := wrap_small (by omega) (by omega)
      generalize bstr ([109, 97, 114, 107, 32] ++ done) = sb at *
      go_wp2
      refine ⟨⟨f', m / 10, done ++ [UInt8.ofNat (48 + m % 10)], by go_num, ?_, HD, HM, by rw [List.length_append, List.length_singleton]; omega, by omega, ?_⟩, ?_⟩
      · rw [HS.out]
      · exact below_alloc hb _
      · simp only [intOf]
        omega
    · obtain rfl : m = 0 := by omega
      have HE : Hid (markT k = bstr ([109, 97, 114, 107, 32] ++ done)) := by
        have := hd.out
        rw [digs_zero, List.append_nil] at this
        rw [Hid, markT, this]
      generalize bstr ([109, 97, 114, 107, 32] ++ done) = sb at *
      go_wp2
      go_ret
      exact ⟨by rw [HE.out]; rfl, hb⟩
end Go.Proofs.YtfddkkkkehbecaaDoor
