/- Walks of the document's written, bytes and Encode. -/
import Derived.Test.YtahdlejgjcjeoaaDoorEncW
import Derived.Test.YtahdlejgjcjeoaaDoorTold
import Derived.Laws.Concat
import Derived.Deep.RegionHeldLaw
namespace Go.Proofs.YtahdlejgjcjeoaaDoor
open Go.RowKit

theorem bstr_append (l r : List UInt8) : bstr l ++ bstr r = bstr (l ++ r) := by
  apply ByteArray.ext
  simp [bstr]

theorem wrap_small {x : Int} (h0 : 0 ≤ x) (h1 : x < 9223372036854775808) : IntKind.i64.wrap x = x := by
  simp [IntKind.wrap, IntKind.signed, IntKind.bits]
  omega
theorem u8_mod (n : Nat) : IntKind.u8.wrap ((n : Int).tmod 256) = ((UInt8.ofNat n).toNat : Int) := by
  rw [Int.tmod_eq_emod_of_nonneg (by omega), UInt8.toNat_ofNat']
  simp [IntKind.wrap, IntKind.signed, IntKind.bits]
theorem mod_str (n : Nat) : strOfNums [(n : Int) % 256] = bstr [UInt8.ofNat n] := by
  have e : ((n : Int) % 256).toNat = n % 256 := by omega
  simp only [strOfNums, bstr, List.map_cons, List.map_nil, e]
  have : UInt8.ofNat (n % 256) = UInt8.ofNat n := by
    apply UInt8.toNat_inj.1
    simp
  rw [this]
theorem conv_one (W : World) (b : Nat) (c : Int) (h : W.cell? ⟨b, 0, none⟩ = some (.int .u8 c)) : (convert 109 9 (.slice (some ⟨b, 0, none⟩) 1 1)).run Tryd.prog W = .ok (.string (strOfNums [c])) W :=
  run_convert_bytes_arg W 109 5 Tryd.underlying109 Tryd.underlying5 b 0 1 1 [c] rfl (fun i hi => by obtain rfl : i = 0 := (by omega); exact h) 9 Tryd.underlying9

set_option maxRecDepth 100000 in
set_option maxHeartbeats 1000000 in
theorem written_any : ∀ (wd : Nat) (n : Nat) (w : World), wd ≤ 8 → n < 9223372036854775808 →
    Calls Tryd.prog 102 #[.int .i64 n, .int .i64 wd] w fun e w' => e = .returned (.string (bstr (be n wd))) ∧ Below w.heap.size w w' := by
  intro wd
  induction wd with
  | zero =>
    intro n w _ hn
    go_enter Tryd.func102, Tryd.ntmps102
    go_wp2
    go_ret
    exact ⟨rfl, Below.refl _ _⟩
  | succ wd ih =>
    intro n w hw hn
    have HC : Hid (∀ W, Calls Tryd.prog 102 #[.int .i64 ((n : Int) / 256), .int .i64 (wd : Int)] W fun e w' => e = .returned (.string (bstr (be (n / 256) wd))) ∧ Below W.heap.size W w') := fun W => by simpa using ih (n / 256) W (by omega) (by omega)
    clear ih
    have hcv := conv_one
    have hw1 : IntKind.i64.wrap ((n : Int) / 256) = (n : Int) / 256 := wrap_small (by omega) (by omega)
    have hw2 : IntKind.i64.wrap (wd : Int) = (wd : Int) := wrap_small (by omega) (by omega)
    have hw3 : IntKind.u8.wrap ((n : Int).tmod 256) = ((UInt8.ofNat n).toNat : Int) := u8_mod n
    have HE : Hid (bstr (be (n / 256) wd) ++ strOfNums [(n : Int) % 256] = bstr (be n (wd + 1))) := by rw [Hid, mod_str, bstr_append]; rfl
    have hsz1 : (bstr (be (n / 256) wd)).size = wd := by rw [bstr_size, be_length]
    have hsz2 : (strOfNums [(n : Int) % 256]).size = 1 := by rw [strOfNums_size]; rfl
    have hnot : ¬ (9223372036854775807 < wd + 1) := by omega
    go_enter Tryd.func102, Tryd.ntmps102
    go_wp2
    go_region_held_law (fun _ => True) (trivial) (first | (go_at_call 102; refine (HC.out _).mono ?_; rintro e w1 ⟨rfl, hb1⟩; obtain ⟨hc1, hf1⟩ := bcell hb1))
    all_goals go_wp2
    all_goals go_ret
    · exact ⟨by rw [← HE.out]; rfl, below_alloc ((Below.refl _ w).drew.trans hb1) _⟩
    · exact ⟨by rw [← HE.out]; rfl, (below_alloc (Below.refl _ w) _).drew.trans (hb1.mono (by simp))⟩
    · exact ⟨by rw [← HE.out]; rfl, (below_alloc (Below.refl _ w) _).drew.trans (hb1.mono (by simp))⟩
end Go.Proofs.YtahdlejgjcjeoaaDoor
