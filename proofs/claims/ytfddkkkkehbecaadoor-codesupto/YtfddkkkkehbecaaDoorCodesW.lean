/- Walk of the law Codes. -/
import Derived.Test.YtfddkkkkehbecaaDoorJoinsW2
import Derived.Test.YtfddkkkkehbecaaDoorAnswers3
import Derived.Test.YtfddkkkkehbecaaDoorDecRef2
namespace Go.Proofs.YtfddkkkkehbecaaDoor
open Go.RowKit

theorem Good.length {l : List UInt8} {t : List At} (h : Good l t) : 9 * t.length ≤ l.length := by
  have h1 := rfs_facts (l.drop 8)
  rw [h.rfs, List.length_drop] at h1
  have h2 := congrArg List.length h.2.2
  rw [List.length_append, be_length] at h2
  omega

set_option maxRecDepth 100000 in
set_option maxHeartbeats 2000000 in
theorem decodes_any (l : List UInt8) (w : World) (hr : RulesAt w) (hl : l.length ≤ 33554432) :
    Calls Tryd.prog 32 #[.string (bstr l)] w fun e w' => e = .returned (.bool true) ∧ Below w.heap.size w w' := by
  have HR : Hid (RulesAt w) := hr
  clear hr
  by_cases hg : ∃ t, Good l t
  · obtain ⟨t, hg⟩ := hg
    have HG : Hid (Good l t) := hg
    have hlt := hg.length
    have hc := refDecode_ok l t w hg hl
    clear hg
    go_enter Tryd.func32, Tryd.ntmps32
    go_wp2_with fail
    refine hc.mono ?_
    rintro e w1 ⟨v0, rfl, ho0, hb1⟩
    have hc1 := decode_ok l t w1 (HR.out.below hb1 HR.out.1) HG.out hl
    have HO0 : Hid (w1.ownsRow w.heap.size 52 6 v0 t.length (flat t)) := ho0
    clear hc ho0
    go_wp2_with fail
    refine hc1.mono ?_
    rintro e w2 ⟨v1, rfl, ho1, hb2⟩
    have hbw2 : Below w.heap.size w w2 := hb1.trans (hb2.mono hb1.size)
    have hc2 := decode_ok l t w2 (HR.out.below hbw2 HR.out.1) HG.out hl
    have HO1 : Hid (w2.ownsRow w1.heap.size 52 6 v1 t.length (flat t)) := ho1
    clear hc1 ho1
    go_wp2_with fail
    refine hc2.mono ?_
    rintro e w3 ⟨v2, rfl, ho2, hb3⟩
    have hbw3 : Below w.heap.size w w3 := hbw2.trans (hb3.mono hbw2.size)
    have hb13 : Below w1.heap.size w1 w3 := hb2.trans (hb3.mono hb2.size)
    have hcon := answers_any 0 v1 v2 v0 t w1.heap.size w2.heap.size w3 (owns_below HO1.out hb3) ho2 ((sliceOf_owns rfl HO0.out).below hb13) (.inl rfl) (fun q h1 h2 => by
      have := own_lt HO1.out q h1
      have : w2.heap.size ≤ q := owns_base ho2 q h2
      omega) (by omega) hb13.size hb3.size
    have HV1 : Hid (∀ q, v1.ownBlock = some q → w1.heap.size ≤ q) := fun q hq => owns_base HO1.out q hq
    have HV2 : Hid (∀ q, v2.ownBlock = some q → w1.heap.size ≤ q) := fun q hq => Nat.le_trans hb2.size (owns_base ho2 q hq)
    clear hc2 ho2 hbw2 hb2 hb3
    go_wp2_with fail
    refine hcon.mono ?_
    rintro e w4 ⟨rfl, hfr⟩
    have hb4 : Below w1.heap.size w3 w4 := hfr.out.toBelow hb13.size (fun q hq => by
      rcases hq with h | h
      · exact HV1.out q h.symm
      · exact HV2.out q h.symm)
    have hbw4 : Below w.heap.size w w4 := hbw3.trans (hb4.mono hb1.size)
    clear hcon hfr hb4
    go_wp2
    go_ret
    exact ⟨rfl, hbw4⟩
  · have HG : Hid (∀ t, ¬ Good l t) := fun t h => hg ⟨t, h⟩
    have hc := refDecode_bad l w HG.out hl
    clear hg
    go_enter Tryd.func32, Tryd.ntmps32
    go_wp2_with fail
    refine hc.mono ?_
    rintro e w1 ⟨rfl, hb1⟩
    have hc1 := decode_bad l w1 (HR.out.below hb1 HR.out.1) HG.out hl
    clear hc
    go_wp2_with fail
    refine hc1.mono ?_
    rintro e w2 ⟨rfl, hb2⟩
    have hbw2 : Below w.heap.size w w2 := hb1.trans (hb2.mono hb1.size)
    have hc2 := decode_bad l w2 (HR.out.below hbw2 HR.out.1) HG.out hl
    clear hc1 hb1 hb2
    go_wp2_with fail
    refine hc2.mono ?_
    rintro e w3 ⟨rfl, hb3⟩
    have hbw3 : Below w.heap.size w w3 := hbw2.trans (hb3.mono hbw2.size)
    have hcon := answers_three (.slice none 0 0) (.slice none 0 0) [] 0 0 w3 ⟨rfl, .inl ⟨rfl, rfl⟩⟩ ⟨rfl, .inl ⟨rfl, rfl⟩⟩ ⟨none, 0, rfl, by simp, fun h => by simp at h⟩ (by simp) (by omega) (by omega)
    clear hc2 hbw2 hb3
    go_wp2_with fail
    refine hcon.mono ?_
    rintro e w4 ⟨rfl, hfr⟩
    have hb4 : Below w3.heap.size w3 w4 := hfr.out.toBelow (Nat.le_refl _) (fun q hq => by
      rcases hq with h | h
      · simp [Value.ownBlock] at h
      · simp [Value.ownBlock] at h)
    have hbw4 : Below w.heap.size w w4 := hbw3.trans (hb4.mono hbw3.size)
    clear hcon hfr hb4
    go_wp2
    go_ret
    exact ⟨rfl, hbw4⟩

theorem EncSpec.bytes {l : List At} {t : ByteArray} (h : EncSpec l t) : ∃ y, t = bstr y ∧ y.length ≤ 8 + 21 * l.length := by
  have hz := h.size
  rcases h with ⟨_, out, _, rfl⟩ | ⟨_, rfl⟩
  · exact ⟨_, rfl, by rwa [bstr_size] at hz⟩
  · exact ⟨_, rfl, by simp⟩

set_option maxRecDepth 100000 in
set_option maxHeartbeats 4000000 in
theorem codes_walk (v1 : Value) (l : List At) (y : List UInt8) (w : World) (hr : RulesAt w) (h1 : SliceOf w v1 l) (hs1 : ∀ a ∈ l, short a) (hlen : l.length ≤ 1048576) (hy : y.length ≤ 33554432) :
    Calls Tryd.prog 9 #[v1, .string (bstr y)] w fun e w' => e = .returned (.bool true) ∧ Below w.heap.size w w' := by
  have HR : Hid (RulesAt w) := hr
  have H1 : Hid (SliceOf w v1 l) := h1
  have HS1 : Hid (∀ a ∈ l, short a) := hs1
  obtain ⟨ad1, cp1, rfl, _, _⟩ := h1
  clear hr hs1
  go_enter Tryd.func9, Tryd.ntmps9
  go_wp2_with fail
  refine (lent_any _ l w H1.out (by omega)).mono ?_
  rintro e w1 ⟨gx, rfl, hox, hb1⟩
  have nx := own_lt hox gx rfl
  go_wp2_with fail
  refine (refEncode_any _ l w1 (H1.out.below hb1) HS1.out (by omega)).mono ?_
  rintro e w2 ⟨t2, rfl, hj2, hb2⟩
  have hbw2 : Below w.heap.size w w2 := hb1.trans (hb2.mono hb1.size)
  have hox2 := owns_below hox hb2
  have hz2 := hb2.size
  clear hox hb2 hb1
  obtain ⟨y2, rfl, hy2⟩ := hj2.out.bytes
  generalize hnx8 : l.length + 8 = nx8 at *
  have HNX : Hid (nx8 = (l ++ List.replicate 8 bey).length) := by rw [Hid]; simp; omega
  have q1 : (0 : Int) ≤ (l.length : Int) := by omega
  have q2 : (l.length : Int) ≤ (nx8 : Int) := by omega
  have q5 : nx8 ≤ 4194312 := by omega
  have HN8 : Hid (l.length + 8 = nx8) := hnx8
  clear hnx8
  have HX2 : Hid (w2.ownsRow w.heap.size 52 6 (.slice (some ⟨gx, 0, none⟩) nx8 nx8) nx8 (flat (l ++ List.replicate 8 bey))) := hox2
  clear hox2
  generalize hcd : encCode l = c at *
  have HCD : Hid (encCode l = c) := hcd
  clear hcd
  have HLJ : Hid (∀ W, Below w.heap.size w W → Below w2.heap.size w2 W → Calls Tryd.prog 31 #[.slice (some ⟨gx, 0, none⟩) l.length nx8] W fun e w' => ∃ t, e = .returned (.tuple #[.string t, .int .i64 c]) ∧ Hid (EncSpec l t) ∧ Below W.heap.size W w') := fun W hW hW2 => by
    have := encode_any _ l W (HR.out.below hW HR.out.1) (lent_cut (owns_below HX2.out hW2) HNX.out) HS1.out (by omega)
    rw [HCD.out] at this
    exact this
  go_wp2_with fail
  refine (HLJ.out _ hbw2 (Below.refl _ _)).mono ?_
  rintro e w3 ⟨t3, rfl, hj3, hb3⟩
  have hb23 : Below w2.heap.size w2 w3 := hb3
  have hbw3 : Below w.heap.size w w3 := hbw2.trans (hb23.mono hbw2.size)
  have e32 : t3 = bstr y2 := EncSpec.unique hj3.out hj2.out
  subst e32
  have SX : Hid (SliceOf w3 (.slice (some ⟨gx, 0, none⟩) nx8 nx8) (l ++ List.replicate 8 bey)) := sliceOf_owns HNX.out (owns_below HX2.out hb23)
  clear hb3 HLJ hb23 hj2 hj3
  go_wp2_with fail
  refine (lent_any _ l w3 (H1.out.below hbw3) (by omega)).mono ?_
  rintro e w4 ⟨g4, rfl, ho4, hb4⟩
  have hbw4 : Below w.heap.size w w4 := hbw3.trans (hb4.mono hbw3.size)
  have S4 : Hid (SliceOf w4 (.slice (some ⟨g4, 0, none⟩) (l.length + 8) (l.length + 8)) (l ++ List.replicate 8 bey)) := sliceOf_owns (by simp) ho4
  have SX4 : Hid (SliceOf w4 (.slice (some ⟨gx, 0, none⟩) nx8 nx8) (l ++ List.replicate 8 bey)) := SX.out.below hb4
  clear ho4 hb4 SX
  go_wp2_with fail
  refine (sameAtoms_any _ _ _ w4 SX4.out S4.out (by simp; omega)).mono ?_
  rintro e w5 ⟨rfl, hb5⟩
  have hbw5 : Below w.heap.size w w5 := hbw4.trans (hb5.mono hbw4.size)
  clear hb5 SX4 S4
  have hc1 := decodes_any y w5 (HR.out.below hbw5 HR.out.1) hy
  go_wp2_with fail
  refine hc1.mono ?_
  rintro e w6 ⟨rfl, hb6⟩
  have hbw6 : Below w.heap.size w w6 := hbw5.trans (hb6.mono hbw5.size)
  have hc2 := decodes_any y2 w6 (HR.out.below hbw6 HR.out.1) (by omega)
  clear hc1 hb6
  go_wp2_with fail
  refine hc2.mono ?_
  rintro e w7 ⟨rfl, hb7⟩
  have hbw7 : Below w.heap.size w w7 := hbw6.trans (hb7.mono hbw6.size)
  clear hc2 hb7
  go_wp2
  go_ret
  exact ⟨rfl, hbw7⟩
end Go.Proofs.YtfddkkkkehbecaaDoor
