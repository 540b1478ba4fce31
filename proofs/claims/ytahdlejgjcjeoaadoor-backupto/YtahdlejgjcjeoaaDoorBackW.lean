/- Walk of the law Back. -/
import Derived.Test.YtahdlejgjcjeoaaDoorRights2
import Derived.Test.YtahdlejgjcjeoaaDoorKnows
import Derived.Test.YtahdlejgjcjeoaaDoorDecW3
namespace Go.Proofs.YtahdlejgjcjeoaaDoor
open Go.RowKit

theorem bytes_length {R out : List At} (hR : ∀ a ∈ R, mayB a = true) (h : IsTold R out) : (be out.length 8 ++ encL out).length ≤ 8 + 21 * R.length := by
  have h1 := length_le_of_sub (sorted_ne h.sorted) (fun x hx => (h.great x hx).1)
  have h2 := encL_length out (fun x hx => fit2_of_may (hR x (h.great x hx).1))
  rw [List.length_append, be_length]
  omega

set_option maxRecDepth 100000 in
set_option maxHeartbeats 4000000 in
theorem back_walk (v : Value) (l : List At) (w : World) (hr : RulesAt w) (h1 : SliceOf w v l) (hs : ∀ a ∈ l, short a) (hw : ∀ a ∈ l, wide a) (hlen : l.length ≤ 1048576) :
    Calls Tryd.prog 10 #[v] w fun e w' => e = .returned (.bool true) ∧ Below w.heap.size w w' := by
  have HR : Hid (RulesAt w) := hr
  have hc := rights_any v l w h1 hs hw (by omega)
  clear hr h1 hs hw
  go_enter Tryd.func10, Tryd.ntmps10
  go_wp2_with fail
  refine hc.mono ?_
  rintro e w1 ⟨v1, R, rfl, ho1, hR, hRl, hb1⟩
  have S1 : Hid (SliceOf w1 v1 R) := sliceOf_owns rfl ho1
  have hc2 := encode_yes v1 R w1 (HR.out.below hb1 HR.out.1) S1.out (fun a ha => short_of_may (hR.out a ha)) (by omega) (List.all_eq_true.2 hR.out)
  clear hc ho1
  go_wp2_with fail
  refine hc2.mono ?_
  rintro e w2 ⟨out, rfl, ht, hb2⟩
  have hbw2 : Below w.heap.size w w2 := hb1.trans (hb2.mono hb1.size)
  have HG : Hid (Good (be out.length 8 ++ encL out) out) := good_of hR.out ht.out rfl
  have hbl := bytes_length hR.out ht.out
  have HO : Hid (∀ a ∈ out, mayB a = true) := fun a ha => hR.out a (ht.out.great a ha).1
  have hol := length_le_of_sub (sorted_ne ht.out.sorted) (fun x hx => (ht.out.great x hx).1)
  have hc3 := decode_ok (be out.length 8 ++ encL out) out w2 (HR.out.below hbw2 HR.out.1) HG.out (by omega)
  obtain ⟨ys, hys⟩ : ∃ ys, be out.length 8 ++ encL out = ys := ⟨_, rfl⟩
  have HYS : Hid (be out.length 8 ++ encL out = ys) := hys
  rw [hys] at hc3 ⊢
  clear hc2 hys hbl
  go_wp2_with fail
  refine hc3.mono ?_
  rintro e w3 ⟨v3, rfl, ho3, hb3⟩
  have hbw3 : Below w.heap.size w w3 := hbw2.trans (hb3.mono hbw2.size)
  have hb13 : Below w1.heap.size w1 w3 := hb2.trans (hb3.mono hb2.size)
  have S3 : Hid (SliceOf w3 v3 out) := sliceOf_owns rfl ho3
  have hc4 := join_any v1 (.slice none 0 0) R [] w3 (HR.out.below hbw3 HR.out.1) (S1.out.below hb13) (sliceOf_nil w3) hR.out (fun a ha => by cases ha) (by omega) (by simp)
  clear hc3 ho3
  go_wp2_with fail
  refine hc4.mono ?_
  rintro e w4 ⟨v4, out4, rfl, ho4, ht4, hb4⟩
  have e4 : out4 = out := (by have := ht4.out; rw [List.append_nil] at this; exact this.unique hR.out ht.out)
  subst e4
  have hbw4 : Below w.heap.size w w4 := hbw3.trans (hb4.mono hbw3.size)
  have S4 : Hid (SliceOf w4 v4 out4) := sliceOf_owns rfl ho4
  have hc5 := encode_yes v4 out4 w4 (HR.out.below hbw4 HR.out.1) S4.out (fun a ha => short_of_may (HO.out a ha)) (by omega) (List.all_eq_true.2 HO.out)
  clear hc4 ho4 ht4
  go_wp2_with fail
  refine hc5.mono ?_
  rintro e w5 ⟨out5, rfl, ht5, hb5⟩
  have e5 : out5 = out4 := ht5.out.unique HO.out (told_again ht.out)
  subst e5
  rw [HYS.out]
  have hbw5 : Below w.heap.size w w5 := hbw4.trans (hb5.mono hbw4.size)
  have hc6 := sameAtoms_any v3 v4 out5 w5 (S3.out.below (hb4.trans (hb5.mono hb4.size))) (S4.out.below hb5) (by omega)
  clear hc5 ht5
  go_wp2_with fail
  refine hc6.mono ?_
  rintro e w6 ⟨rfl, hb6⟩
  have hbw6 : Below w.heap.size w w6 := hbw5.trans (hb6.mono hbw5.size)
  have hc7 := knows_any w6 (HR.out.below hbw6 HR.out.1)
  clear hc6
  go_wp2_with fail
  refine hc7.mono ?_
  rintro e w7 ⟨rfl, hb7⟩
  have hbw7 : Below w.heap.size w w7 := hbw6.trans (hb7.mono hbw6.size)
  clear hc7
  generalize bstr ys = sy at *
  go_wp2
  go_ret
  exact ⟨rfl, hbw7⟩
end Go.Proofs.YtahdlejgjcjeoaaDoor
