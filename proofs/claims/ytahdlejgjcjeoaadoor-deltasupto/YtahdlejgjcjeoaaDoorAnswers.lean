/- Walk of the laws' answers. -/
import Derived.Test.YtahdlejgjcjeoaaDoorLooks
import Derived.Test.YtahdlejgjcjeoaaDoorOwnK
namespace Go.Proofs.YtahdlejgjcjeoaaDoor
open Go.RowKit

theorem bookInv_new (w : World) : BookInv (w.alloc (.cells #[.slice none 0 0, .slice none 0 0, .slice none 0 0, .slice none 0 0] 44)) w.heap.size (.slice none 0 0) [] where
  c0 := World.news_of_block (heap_alloc_new w _) 0 _ rfl
  c1 := World.news_of_block (heap_alloc_new w _) 1 _ rfl
  c2 := World.news_of_block (heap_alloc_new w _) 2 _ rfl
  c3 := World.news_of_block (heap_alloc_new w _) 3 _ rfl
  fz o := by
    have hb := heap_alloc_new w (.cells #[.slice none 0 0, .slice none 0 0, .slice none 0 0, .slice none 0 0] 44)
    unfold World.frozen?
    rw [hb]
    simp
  row := ⟨rfl, .inl ⟨rfl, rfl⟩⟩
  good p hp := by cases hp
  bnd p hp := by cases hp
  sep p hp := by cases hp

set_option maxRecDepth 100000 in
set_option maxHeartbeats 2000000 in
theorem answers_any (c : Int) (v1 v2 v3 : Value) (out : List At) (b1 b2 : Nat) (w : World) (h1 : w.ownsRow b1 52 6 v1 out.length (flat out)) (h2 : w.ownsRow b2 52 6 v2 out.length (flat out)) (h3 : SliceOf w v3 out)
    (hc : c = 0 ∨ (c = 1 ∧ v1 = .slice none 0 0)) (hsep : ∀ q, v1.ownBlock = some q → v2.ownBlock ≠ some q) (hlen : out.length ≤ 8388608) (hb1 : b1 ≤ w.heap.size) (hb2 : b2 ≤ w.heap.size) :
    Calls Tryd.prog 14 #[v1, v2, v3, .int .i64 c, .int .i64 c, .int .i64 c] w fun e w' => e = .returned (.bool true) ∧ Hid (Fr (fun q => some q = v1.ownBlock ∨ some q = v2.ownBlock) w w') := by
  have s1 := sliceOf_owns rfl h1
  have s2 := sliceOf_owns rfl h2
  have hc1 := sameAtoms_any v1 v3 out w s1 h3 (by omega)
  have HC2 : Hid (∀ W, Below w.heap.size w W → Calls Tryd.prog 15 #[v2, v3] W fun e w' => e = .returned (.bool true) ∧ Below W.heap.size W w') := fun W hW => sameAtoms_any v2 v3 out W (s2.below hW) (h3.below hW) (by omega)
  have H1 : Hid (w.ownsRow b1 52 6 v1 out.length (flat out)) := h1
  have H2 : Hid (w.ownsRow b2 52 6 v2 out.length (flat out)) := h2
  have HSEP : Hid (∀ q, v1.ownBlock = some q → v2.ownBlock ≠ some q) := hsep
  clear h1 h2 h3 s1 s2 hsep
  rcases hc with rfl | ⟨rfl, rfl⟩
  · go_enter Tryd.func14, Tryd.ntmps14
    go_wp2_with fail
    refine hc1.mono ?_
    rintro e w1 ⟨rfl, hw1⟩
    clear hc1
    go_wp2_with fail
    refine (HC2.out _ hw1).mono ?_
    rintro e w2 ⟨rfl, hw2⟩
    have hbw : Below w.heap.size w w2 := hw1.trans (hw2.mono hw1.size)
    clear hw1 hw2 HC2
    have hsz := hbw.size
    go_wp2_with fail
    have o1 := owns_below H1.out hbw
    have o2 := owns_below H2.out hbw
    have n1 := own_lt o1
    have n2 := own_lt o2
    refine (ownAtoms_any w2.heap.size (.slice none 0 0) v1 [] b1 out.length out _ (bookInv_new w2) (o1.alloc _) rfl (by simp; omega) (fun q hq => ⟨by have := n1 q hq; simp; omega, by have := n1 q hq; omega, by simp [Value.ownBlock], fun p hp => by cases hp⟩) (by omega) (by simp)).mono ?_
    rintro e w3 ⟨rfl, va3, es3, hI3, hl3, hent3, hfr3⟩
    have o2' := owns_fr (o2.alloc _) hfr3.out (fun q hq hx => by
      rcases hx with h | h | h
      · have := n2 q hq; omega
      · exact HSEP.out q h.symm hq
      · simp [Value.ownBlock] at h)
    have hcon2 := ownAtoms_any w2.heap.size va3 v2 es3 b2 out.length out w3 hI3.out o2' rfl (by have := hfr3.out.size; simp at this; omega) (fun q hq => ⟨by have := n2 q hq; have := hfr3.out.size; simp at this; omega, by have := n2 q hq; omega, fun e => by
        have := owns_base hI3.out.row q e.symm
        have := n2 q hq
        omega, fun p hp e => by
        rcases hent3.out p hp with h | h
        · cases h
        · rcases h q e with h' | h'
          · have := n2 q hq; simp at h'; omega
          · exact HSEP.out q h'.symm hq⟩) (by omega) (by simp at hl3; omega)
    have HB3 : Hid (∀ q, va3.ownBlock = some q → w2.heap.size + 1 ≤ q) := fun q hq => owns_base hI3.out.row q hq
    have HL3 : Hid (es3.length = 4) := by simpa [Hid] using hl3
    have HF3 : Hid (Fr (fun q => q = w2.heap.size ∨ some q = Value.ownBlock v1 ∨ some q = Value.ownBlock (.slice none 0 0)) (w2.alloc (.cells #[.slice none 0 0, .slice none 0 0, .slice none 0 0, .slice none 0 0] 44)) w3) := hfr3
    clear o1 o2 o2' hI3 hl3 hent3 hfr3
    go_wp2_with fail
    refine hcon2.mono ?_
    rintro e w4 ⟨rfl, va4, es4, hI4, hl4, hent4, hfr4⟩
    have hcon3 := looks_any w2.heap.size va4 es4 w4 hI4.out (by have := HL3.out; omega)
    have HF4 : Hid (Fr (fun q => q = w2.heap.size ∨ some q = v2.ownBlock ∨ some q = va3.ownBlock) w3 w4) := hfr4
    clear hcon2 hI4 hl4 hent4 hfr4
    go_wp2_with fail
    refine hcon3.mono ?_
    rintro e w5 ⟨rfl, hb5⟩
    have HFIN : Hid (Fr (fun q => some q = Value.ownBlock v1 ∨ some q = v2.ownBlock) w w5) := by
      refine ⟨hb5.os.trans (HF4.out.os.trans (HF3.out.os.trans hbw.os)), hb5.tape.trans (HF4.out.tape.trans (HF3.out.tape.trans hbw.tape)), hb5.output.trans (HF4.out.output.trans (HF3.out.output.trans hbw.output)), ?_, fun k hk hx => ?_⟩
      · have h3 := HF3.out.size
        have h4 := HF4.out.size
        have h5 := hb5.size
        simp at h3
        omega
      · have h3 := HF3.out.size
        have h4 := HF4.out.size
        simp at h3
        rw [hb5.block k (by omega), HF4.out.block k (by omega) (fun h => by
          rcases h with h | h | h
          · omega
          · exact hx (.inr h)
          · have := HB3.out k h.symm; omega), HF3.out.block k (by simp; omega) (fun h => by
          rcases h with h | h | h
          · omega
          · exact hx (.inl h)
          · simp [Value.ownBlock] at h), Below.heap_alloc _ _ _ (by omega), hbw.block k hk]
    clear hcon3 HF4 HF3 hb5 HB3 HL3
    go_wp2
    go_ret
    exact ⟨rfl, HFIN⟩
  · go_enter Tryd.func14, Tryd.ntmps14
    go_wp2_with fail
    refine hc1.mono ?_
    rintro e w1 ⟨rfl, hw1⟩
    clear hc1
    go_wp2_with fail
    refine (HC2.out _ hw1).mono ?_
    rintro e w2 ⟨rfl, hw2⟩
    have hbw : Below w.heap.size w w2 := hw1.trans (hw2.mono hw1.size)
    clear hw1 hw2 HC2
    have hsz := hbw.size
    go_wp2_with fail
    have o1 := owns_below H1.out hbw
    have o2 := owns_below H2.out hbw
    have n1 := own_lt o1
    have n2 := own_lt o2
    refine (ownAtoms_any w2.heap.size (.slice none 0 0) (.slice none 0 0) [] b1 out.length out _ (bookInv_new w2) (o1.alloc _) rfl (by simp; omega) (fun q hq => ⟨by have := n1 q hq; simp; omega, by have := n1 q hq; omega, by simp [Value.ownBlock], fun p hp => by cases hp⟩) (by omega) (by simp)).mono ?_
    rintro e w3 ⟨rfl, va3, es3, hI3, hl3, hent3, hfr3⟩
    have o2' := owns_fr (o2.alloc _) hfr3.out (fun q hq hx => by
      rcases hx with h | h | h
      · have := n2 q hq; omega
      · exact HSEP.out q h.symm hq
      · simp [Value.ownBlock] at h)
    have hcon2 := ownAtoms_any w2.heap.size va3 v2 es3 b2 out.length out w3 hI3.out o2' rfl (by have := hfr3.out.size; simp at this; omega) (fun q hq => ⟨by have := n2 q hq; have := hfr3.out.size; simp at this; omega, by have := n2 q hq; omega, fun e => by
        have := owns_base hI3.out.row q e.symm
        have := n2 q hq
        omega, fun p hp e => by
        rcases hent3.out p hp with h | h
        · cases h
        · rcases h q e with h' | h'
          · have := n2 q hq; simp at h'; omega
          · exact HSEP.out q h'.symm hq⟩) (by omega) (by simp at hl3; omega)
    have HB3 : Hid (∀ q, va3.ownBlock = some q → w2.heap.size + 1 ≤ q) := fun q hq => owns_base hI3.out.row q hq
    have HL3 : Hid (es3.length = 4) := by simpa [Hid] using hl3
    have HF3 : Hid (Fr (fun q => q = w2.heap.size ∨ some q = Value.ownBlock (.slice none 0 0) ∨ some q = Value.ownBlock (.slice none 0 0)) (w2.alloc (.cells #[.slice none 0 0, .slice none 0 0, .slice none 0 0, .slice none 0 0] 44)) w3) := hfr3
    clear o1 o2 o2' hI3 hl3 hent3 hfr3
    go_wp2_with fail
    refine hcon2.mono ?_
    rintro e w4 ⟨rfl, va4, es4, hI4, hl4, hent4, hfr4⟩
    have hcon3 := looks_any w2.heap.size va4 es4 w4 hI4.out (by have := HL3.out; omega)
    have HF4 : Hid (Fr (fun q => q = w2.heap.size ∨ some q = v2.ownBlock ∨ some q = va3.ownBlock) w3 w4) := hfr4
    clear hcon2 hI4 hl4 hent4 hfr4
    go_wp2_with fail
    refine hcon3.mono ?_
    rintro e w5 ⟨rfl, hb5⟩
    have HFIN : Hid (Fr (fun q => some q = Value.ownBlock (.slice none 0 0) ∨ some q = v2.ownBlock) w w5) := by
      refine ⟨hb5.os.trans (HF4.out.os.trans (HF3.out.os.trans hbw.os)), hb5.tape.trans (HF4.out.tape.trans (HF3.out.tape.trans hbw.tape)), hb5.output.trans (HF4.out.output.trans (HF3.out.output.trans hbw.output)), ?_, fun k hk hx => ?_⟩
      · have h3 := HF3.out.size
        have h4 := HF4.out.size
        have h5 := hb5.size
        simp at h3
        omega
      · have h3 := HF3.out.size
        have h4 := HF4.out.size
        simp at h3
        rw [hb5.block k (by omega), HF4.out.block k (by omega) (fun h => by
          rcases h with h | h | h
          · omega
          · exact hx (.inr h)
          · have := HB3.out k h.symm; omega), HF3.out.block k (by simp; omega) (fun h => by
          rcases h with h | h | h
          · omega
          · exact hx (.inl h)
          · simp [Value.ownBlock] at h), Below.heap_alloc _ _ _ (by omega), hbw.block k hk]
    clear hcon3 HF4 HF3 hb5 HB3 HL3
    go_wp2
    go_ret
    exact ⟨rfl, HFIN⟩

end Go.Proofs.YtahdlejgjcjeoaaDoor
