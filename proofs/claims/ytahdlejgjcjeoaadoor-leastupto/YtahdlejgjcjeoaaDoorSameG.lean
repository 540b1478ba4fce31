/- Walks of the laws' sameAtoms (any lists), sameSlot, lower, below. -/
import Derived.Test.YtahdlejgjcjeoaaDoorLawA
import Derived.Test.YtahdlejgjcjeoaaDoorLeastP
namespace Go.Proofs.YtahdlejgjcjeoaaDoor
open Go.RowKit

theorem bytes_ne {a b : ByteArray} (h : a ≠ b) : (a.toList == b.toList) = false := by
  rw [beq_eq_false_iff_ne, Go.Lib.toList_data, Go.Lib.toList_data]
  exact fun e => h (ByteArray.ext (Array.toList_inj.1 e))
theorem at_ne {x y : At} (h : x ≠ y) : x.ty ≠ y.ty ∨ x.key ≠ y.key ∨ x.side ≠ y.side ∨ x.who ≠ y.who ∨ x.elem ≠ y.elem ∨ x.n ≠ y.n := by
  obtain ⟨a0, a1, a2, a3, a4, a5⟩ := x
  obtain ⟨b0, b1, b2, b3, b4, b5⟩ := y
  by_cases h0 : a0 = b0
  · by_cases h1 : a1 = b1
    · by_cases h2 : a2 = b2
      · by_cases h3 : a3 = b3
        · by_cases h4 : a4 = b4
          · by_cases h5 : a5 = b5
            · subst h0 h1 h2 h3 h4 h5; exact absurd rfl h
            · simp [h5]
          · simp [h4]
        · simp [h3]
      · simp [h2]
    · simp [h1]
  · simp [h0]

set_option maxRecDepth 100000 in
set_option maxHeartbeats 2000000 in
theorem sameAtoms_ne (v1 v2 : Value) (l m : List At) (w : World) (h1 : SliceOf w v1 l) (h2 : SliceOf w v2 m) (hlen : l.length ≤ 281474976710656) (hne : l ≠ m) :
    Calls Tryd.prog 15 #[v1, v2] w fun e w' => e = .returned (.bool false) ∧ Below w.heap.size w w' := by
  obtain ⟨ad1, cap1, rfl, hc1, H1⟩ := h1
  obtain ⟨ad2, cap2, rfl, hc2, H2⟩ := h2
  by_cases hll : l.length = m.length
  · have HR1 : Hid (0 < l.length → ∃ b off, ad1 = some ⟨b, off, none⟩ ∧ b < w.heap.size ∧ RowAt w b off l) := H1
    have HR2 : Hid (0 < m.length → ∃ b off, ad2 = some ⟨b, off, none⟩ ∧ b < w.heap.size ∧ RowAt w b off m) := H2
    have HNE : Hid (l ≠ m) := hne
    obtain ⟨n, hn⟩ : ∃ n, l.length = n := ⟨_, rfl⟩
    have hn2 : m.length = n := by omega
    rw [hn, hn2]
    clear H1 H2 hne hll
    go_enter Tryd.func15, Tryd.ntmps15
    go_wp2
    go_loopw [5] (fun j wr => ∃ k : Nat, k ≤ n ∧ j = .int .i64 k ∧ Hid (l.take k = m.take k) ∧ Below w.heap.size w wr) (fun j _ => n - (intOf j).toNat)
    case atStart => exact ⟨0, Nat.zero_le _, rfl, by simp [Hid], Below.refl _ _⟩
    case round =>
      obtain ⟨k, hk, rfl, hpre, hbw⟩ := hrel
      by_cases hkn : k < n
      · have hl : k < l.length := by omega
        have hm : k < m.length := by omega
        obtain ⟨b1, off1, rfl, hb1, hrow1⟩ := HR1.out (by omega)
        obtain ⟨b2, off2, rfl, hb2, hrow2⟩ := HR2.out (by omega)
        obtain ⟨c0, c1, c2, c3, c4, c5⟩ := (hrow1.below hbw hb1) k hl
        obtain ⟨d0, d1, d2, d3, d4, d5⟩ := (hrow2.below hbw hb2) k hm
        have HST : Hid (l[k] = m[k] → l.take (k + 1) = m.take (k + 1)) := fun e => by
          rw [List.take_succ_eq_append_getElem hl, List.take_succ_eq_append_getElem hm, hpre.out, e]
        clear hrow1 hrow2 HR1 HR2
        generalize l[k] = x at *
        generalize m[k] = y at *
        clear hl hm
        have q1 : (0 : Int) ≤ (k : Int) := by omega
        have q2 : (k : Int) < (n : Int) := by omega
        by_cases hxy : x = y
        · have HP2 : Hid (l.take (k + 1) = m.take (k + 1)) := HST.out hxy
          subst hxy
          go_wp2
          go_quiet (fail)
          go_wp2
          go_roundw
          case rel => exact ⟨k + 1, by omega, by go_num, HP2, below_drewN hbw _⟩
          case measure => simp [intOf]; omega
        · rcases at_ne hxy with h | h | h | h | h | h
          · go_wp2
            go_quiet (fail)
            go_wp2
            go_ret
            exact ⟨rfl, below_drewN hbw _⟩
          · have h' := bytes_ne h
            go_wp2
            go_quiet (fail)
            go_wp2
            go_ret
            exact ⟨rfl, below_drewN hbw _⟩
          · go_wp2
            go_quiet (fail)
            go_wp2
            go_ret
            exact ⟨rfl, below_drewN hbw _⟩
          · go_wp2
            go_quiet (fail)
            go_wp2
            go_ret
            exact ⟨rfl, below_drewN hbw _⟩
          · have h' := bytes_ne h
            go_wp2
            go_quiet (fail)
            go_wp2
            go_ret
            exact ⟨rfl, below_drewN hbw _⟩
          · go_wp2
            go_quiet (fail)
            go_wp2
            go_ret
            exact ⟨rfl, below_drewN hbw _⟩
      · have := hpre.out
        rw [List.take_of_length_le (by omega), List.take_of_length_le (by omega)] at this
        exact absurd this HNE.out
  · clear H1 H2 hne
    go_enter Tryd.func15, Tryd.ntmps15
    go_wp2
    go_ret
    exact ⟨rfl, Below.refl _ _⟩
end Go.Proofs.YtahdlejgjcjeoaaDoor
