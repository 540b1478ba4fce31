/- Walk of the law Joins: the whole. -/
import Derived.Test.YtahdlejgjcjeoaaDoorJoinsW
import Derived.Test.YtahdlejgjcjeoaaDoorLentW
namespace Go.Proofs.YtahdlejgjcjeoaaDoor
open Go.RowKit

theorem SliceOf.belowB {B : Nat} {w w' : World} {v : Value} {l : List At} (h : SliceOf w v l) (hq : ∀ q, v.ownBlock = some q → q < B) (hb : Below B w w') : SliceOf w' v l := by
  obtain ⟨ad, cap, rfl, hcap, H⟩ := h
  refine ⟨ad, cap, rfl, hcap, fun h0 => ?_⟩
  obtain ⟨b, off, rfl, hlt, hrow⟩ := H h0
  exact ⟨b, off, rfl, Nat.lt_of_lt_of_le hlt hb.size, hrow.below hb (hq b rfl)⟩

set_option maxRecDepth 100000 in
set_option maxHeartbeats 4000000 in
theorem joins_walk (v1 v2 : Value) (l m : List At) (w : World) (hr : RulesAt w) (h1 : SliceOf w v1 l) (h2 : SliceOf w v2 m) (hs1 : ∀ a ∈ l, short a) (hs2 : ∀ a ∈ m, short a) (hlen : l.length ≤ 4194304) (hlen2 : m.length ≤ 4194304) :
    Calls Tryd.prog 3 #[v1, v2] w fun e w' => e = .returned (.bool true) ∧ Below w.heap.size w w' := by
  have HR : Hid (RulesAt w) := hr
  have H1 : Hid (SliceOf w v1 l) := h1
  have H2 : Hid (SliceOf w v2 m) := h2
  have HS1 : Hid (∀ a ∈ l, short a) := hs1
  have HS2 : Hid (∀ a ∈ m, short a) := hs2
  obtain ⟨ad1, cp1, rfl, _, _⟩ := h1
  obtain ⟨ad2, cp2, rfl, _, _⟩ := h2
  clear hr hs1 hs2
  go_enter Tryd.func3, Tryd.ntmps3
  go_wp2_with fail
  refine (lent_any _ l w H1.out hlen).mono ?_
  rintro e w1 ⟨gx, rfl, hox, hb1⟩
  have nx := own_lt hox gx rfl
  go_wp2_with fail
  refine (lent_any _ m w1 (H2.out.below hb1) hlen2).mono ?_
  rintro e w2 ⟨gy, rfl, hoy, hb2⟩
  have ny := own_lt hoy gy rfl
  have hbw2 : Below w.heap.size w w2 := hb1.trans (hb2.mono hb1.size)
  have hox2 := owns_below hox hb2
  have hz2 := hb2.size
  clear hox hb2 hb1
  go_wp2_with fail
  refine (refJoin_any _ _ l m w2 (H1.out.below hbw2) (H2.out.below hbw2) HS1.out HS2.out hlen hlen2).mono ?_
  rintro e w3 ⟨v3, out3, rfl, ho3, hj3, hb3⟩
  have hbw3 : Below w.heap.size w w3 := hbw2.trans (hb3.mono hbw2.size)
  have hox3 := owns_below hox2 hb3
  have hoy3 := owns_below hoy hb3
  have hz3 := hb3.size
  clear hox2 hoy hb3 hbw2
  generalize hnx8 : l.length + 8 = nx8 at *
  generalize hny8 : m.length + 8 = ny8 at *
  have HNX : Hid (nx8 = (l ++ List.replicate 8 bey).length) := by rw [Hid]; simp; omega
  have HNY : Hid (ny8 = (m ++ List.replicate 8 bey).length) := by rw [Hid]; simp; omega
  have q1 : (0 : Int) ≤ (l.length : Int) := by omega
  have q2 : (l.length : Int) ≤ (nx8 : Int) := by omega
  have q3 : (0 : Int) ≤ (m.length : Int) := by omega
  have q4 : (m.length : Int) ≤ (ny8 : Int) := by omega
  have q5 : nx8 ≤ 4194312 := by omega
  have q6 : ny8 ≤ 4194312 := by omega
  clear hnx8 hny8
  have HX3 : Hid (w3.ownsRow w.heap.size 52 6 (.slice (some ⟨gx, 0, none⟩) nx8 nx8) nx8 (flat (l ++ List.replicate 8 bey))) := hox3
  have HY3 : Hid (w3.ownsRow w1.heap.size 52 6 (.slice (some ⟨gy, 0, none⟩) ny8 ny8) ny8 (flat (m ++ List.replicate 8 bey))) := hoy3
  have HO3 : Hid (w3.ownsRow w2.heap.size 52 6 v3 out3.length (flat out3)) := ho3
  clear hox3 hoy3 ho3
  generalize hcd : joinCode l m = c at *
  have HCD : Hid (joinCode l m = c) := hcd
  clear hcd
  have HLJ : Hid (∀ W, Below w.heap.size w W → Below w3.heap.size w3 W → Calls Tryd.prog 13 #[.slice (some ⟨gx, 0, none⟩) l.length nx8, .slice (some ⟨gy, 0, none⟩) m.length ny8] W fun e w' => ∃ v out, e = .returned (.tuple #[v, .int .i64 c]) ∧ w'.ownsRow W.heap.size 52 6 v out.length (flat out) ∧ Hid (JoinSpec l m c v out) ∧ Below W.heap.size W w') := fun W hW hW3 => by
    have := latJoin_any _ _ l m W (HR.out.below hW HR.out.1) (lent_cut (owns_below HX3.out hW3) HNX.out) (lent_cut (owns_below HY3.out hW3) HNY.out) HS1.out HS2.out hlen hlen2
    rw [HCD.out] at this
    exact this
  go_wp2
  go_region_held3 (fun _ => True) (trivial) (first | (go_at_call 13; refine (HLJ.out _ (by exact hbw3.drew) (by exact (Below.refl _ _).drew)).mono ?_; rintro e w4 ⟨v4, out4, rfl, ho4, hj4, hb4⟩))
  have hb34 : Below w3.heap.size w3 w4 := (Below.refl _ w3).drew.trans hb4
  have hbw4 : Below w.heap.size w w4 := hbw3.trans (hb34.mono hbw3.size)
  have HO4 : Hid (w4.ownsRow w3.heap.size 52 6 v4 out4.length (flat out4)) := ho4
  clear hb4 ho4
  go_wp2
  go_region_held3 (fun _ => True) (trivial) (first | (go_at_call 13; refine (HLJ.out _ (by exact hbw4.drew) (by exact hb34.drew)).mono ?_; rintro e w5 ⟨v5, out5, rfl, ho5, hj5, hb5⟩))
  have hb45 : Below w4.heap.size w4 w5 := (Below.refl _ w4).drew.trans hb5
  have hb35 : Below w3.heap.size w3 w5 := hb34.trans (hb45.mono hb34.size)
  have hbw5 : Below w.heap.size w w5 := hbw4.trans (hb45.mono hbw4.size)
  have e43 : out4 = out3 := JoinSpec.unique hj4.out hj3.out
  have e53 : out5 = out3 := JoinSpec.unique hj5.out hj3.out
  subst e43
  subst e53
  have hlo := hj3.out.length
  have hcon := answers_any c v4 v5 v3 out5 w3.heap.size w4.heap.size w5 (owns_below HO4.out hb45) ho5 ((sliceOf_owns rfl HO3.out).below hb35) hj4.out.code (fun q h1 h2 => by
      have := own_lt HO4.out q h1
      have : w4.heap.size ≤ q := owns_base ho5 q h2
      omega) (by omega) hb35.size hb45.size
  have HX5 := owns_below HX3.out hb35
  have HY5 := owns_below HY3.out hb35
  have HV4 : Hid (∀ q, v4.ownBlock = some q → w3.heap.size ≤ q) := fun q hq => owns_base HO4.out q hq
  have HV5 : Hid (∀ q, v5.ownBlock = some q → w3.heap.size ≤ q) := fun q hq => Nat.le_trans hb34.size (owns_base ho5 q hq)
  have hz35 := hb35.size
  clear hb45 hb34 hbw4 HLJ ho5 hj3 hj4 hj5 hb5
  go_wp2_with fail
  refine hcon.mono ?_
  rintro e w6 ⟨rfl, hfr⟩
  have hb6 : Below w3.heap.size w5 w6 := hfr.out.toBelow hz35 (fun q hq => by
    rcases hq with h | h
    · exact HV4.out q h.symm
    · exact HV5.out q h.symm)
  have hbw6 : Below w.heap.size w w6 := hbw5.trans (hb6.mono hbw3.size)
  have sx6 : SliceOf w6 (.slice (some ⟨gx, 0, none⟩) nx8 nx8) (l ++ List.replicate 8 bey) := (sliceOf_owns HNX.out HX5).belowB (fun q hq => by obtain rfl := own_g hq; omega) hb6
  have sy6 : SliceOf w6 (.slice (some ⟨gy, 0, none⟩) ny8 ny8) (m ++ List.replicate 8 bey) := (sliceOf_owns HNY.out HY5).belowB (fun q hq => by obtain rfl := own_g hq; omega) hb6
  have SX : Hid (SliceOf w6 (.slice (some ⟨gx, 0, none⟩) nx8 nx8) (l ++ List.replicate 8 bey)) := sx6
  have SY : Hid (SliceOf w6 (.slice (some ⟨gy, 0, none⟩) ny8 ny8) (m ++ List.replicate 8 bey)) := sy6
  clear sx6 sy6 hcon HX5 HY5 hfr hb6
  go_wp2_with fail
  refine (lent_any _ l w6 (H1.out.below hbw6) hlen).mono ?_
  rintro e w7 ⟨g7, rfl, ho7, hb7⟩
  have hbw7 : Below w.heap.size w w7 := hbw6.trans (hb7.mono hbw6.size)
  have S7 : Hid (SliceOf w7 (.slice (some ⟨g7, 0, none⟩) (l.length + 8) (l.length + 8)) (l ++ List.replicate 8 bey)) := sliceOf_owns (by simp) ho7
  have SX7 : Hid (SliceOf w7 (.slice (some ⟨gx, 0, none⟩) nx8 nx8) (l ++ List.replicate 8 bey)) := SX.out.below hb7
  have SY7 : Hid (SliceOf w7 (.slice (some ⟨gy, 0, none⟩) ny8 ny8) (m ++ List.replicate 8 bey)) := SY.out.below hb7
  clear ho7 hb7 SX SY
  go_wp2_with fail
  refine (sameAtoms_any _ _ _ w7 SX7.out S7.out (by simp; omega)).mono ?_
  rintro e w8 ⟨rfl, hb8⟩
  have hbw8 : Below w.heap.size w w8 := hbw7.trans (hb8.mono hbw7.size)
  have SY8 : Hid (SliceOf w8 (.slice (some ⟨gy, 0, none⟩) ny8 ny8) (m ++ List.replicate 8 bey)) := SY7.out.below hb8
  clear hb8 SX7 S7 SY7
  go_wp2_with fail
  refine (lent_any _ m w8 (H2.out.below hbw8) hlen2).mono ?_
  rintro e w9 ⟨g9, rfl, ho9, hb9⟩
  have hbw9 : Below w.heap.size w w9 := hbw8.trans (hb9.mono hbw8.size)
  have S9 : Hid (SliceOf w9 (.slice (some ⟨g9, 0, none⟩) (m.length + 8) (m.length + 8)) (m ++ List.replicate 8 bey)) := sliceOf_owns (by simp) ho9
  have SY9 : Hid (SliceOf w9 (.slice (some ⟨gy, 0, none⟩) ny8 ny8) (m ++ List.replicate 8 bey)) := SY8.out.below hb9
  clear ho9 hb9 SY8
  go_wp2_with fail
  refine (sameAtoms_any _ _ _ w9 SY9.out S9.out (by simp; omega)).mono ?_
  rintro e w10 ⟨rfl, hb10⟩
  have hbw10 : Below w.heap.size w w10 := hbw9.trans (hb10.mono hbw9.size)
  clear hb10 S9 SY9
  go_wp2
  go_ret
  exact ⟨rfl, hbw10⟩
end Go.Proofs.YtahdlejgjcjeoaaDoor
