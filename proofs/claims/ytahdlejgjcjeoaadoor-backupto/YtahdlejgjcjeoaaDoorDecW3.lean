/- Walk of the program's Decode. -/
import Derived.Test.YtahdlejgjcjeoaaDoorDecW2
import Derived.Test.YtahdlejgjcjeoaaDoorGoodP
import Derived.Test.YtahdlejgjcjeoaaDoorEncW
namespace Go.Proofs.YtahdlejgjcjeoaaDoor
open Go.RowKit

theorem str_ne {a b : ByteArray} (h : a ≠ b) : (a.toList == b.toList) = false := by
  rw [beq_eq_false_iff_ne, Go.Lib.toList_data, Go.Lib.toList_data]
  exact fun e => h (ByteArray.ext (Array.toList_inj.1 e))

set_option maxRecDepth 100000 in
set_option maxHeartbeats 1000000 in
theorem decode_ok (l : List UInt8) (t : List At) (w : World) (hr : RulesAt w) (hg : Good l t) (hl : l.length ≤ 33554432) :
    Calls Tryd.prog 33 #[.string (bstr l)] w fun e w' => ∃ v, e = .returned (.tuple #[v, .int .i64 0]) ∧ w'.ownsRow w.heap.size 52 6 v t.length (flat t) ∧ Below w.heap.size w w' := by
  have hc := parse_any l w hl
  have hpl := parse_length (l.drop 8)
  have hsh := parse_short (l.drop 8)
  rw [hg.parse] at hc hpl hsh
  rw [List.length_drop] at hpl
  have HG : Hid (Good l t) := hg
  have HSH : Hid (∀ a ∈ t, short a) := hsh
  have HR : Hid (RulesAt w) := hr
  clear hr hg hsh
  go_enter Tryd.func33, Tryd.ntmps33
  go_wp2_with fail
  refine hc.mono ?_
  rintro e w1 ⟨v1, rfl, hown, hb1⟩
  have hce := encode_yes v1 t w1 (HR.out.below hb1 HR.out.1) (sliceOf_owns rfl hown) HSH.out (by omega) (List.all_eq_true.2 HG.out.2.1)
  clear hc
  go_wp2_with fail
  refine hce.mono ?_
  rintro e w2 ⟨out, rfl, ht, hb2⟩
  have heq : out = t := ht.out.unique HG.out.2.1 HG.out.1
  subst heq
  rw [← HG.out.2.2]
  have hbw2 : Below w.heap.size w w2 := hb1.trans (hb2.mono hb1.size)
  have hfin := owns_below hown hb2
  clear hce hown hb1 hb2 ht
  go_wp2
  go_ret2
  exact ⟨v1, rfl, hfin, hbw2⟩

set_option maxRecDepth 100000 in
set_option maxHeartbeats 1000000 in
theorem decode_bad (l : List UInt8) (w : World) (hr : RulesAt w) (hg : ∀ t, ¬ Good l t) (hl : l.length ≤ 33554432) :
    Calls Tryd.prog 33 #[.string (bstr l)] w fun e w' => e = .returned (.tuple #[.slice none 0 0, .int .i64 3]) ∧ Below w.heap.size w w' := by
  have hc := parse_any l w hl
  have hpl := parse_length (l.drop 8)
  have hsh := parse_short (l.drop 8)
  rw [List.length_drop] at hpl
  generalize parse (l.drop 8) = t at *
  have HG : Hid (∀ t, ¬ Good l t) := hg
  have HSH : Hid (∀ a ∈ t, short a) := hsh
  have HR : Hid (RulesAt w) := hr
  clear hr hg hsh
  go_enter Tryd.func33, Tryd.ntmps33
  go_wp2_with fail
  refine hc.mono ?_
  rintro e w1 ⟨v1, rfl, hown, hb1⟩
  cases hall : t.all mayB
  · have hce := encode_no v1 t w1 (HR.out.below hb1 HR.out.1) (sliceOf_owns rfl hown) HSH.out (by omega) hall
    clear hc hall hown
    go_wp2_with fail
    refine hce.mono ?_
    rintro e w2 ⟨rfl, hb2⟩
    have hbw2 : Below w.heap.size w w2 := hb1.trans (hb2.mono hb1.size)
    clear hce hb1 hb2
    generalize bstr [] = e0 at *
    generalize bstr l = sl at *
    go_wp2
    all_goals go_ret2
    all_goals exact ⟨rfl, hbw2⟩
  · have hce := encode_yes v1 t w1 (HR.out.below hb1 HR.out.1) (sliceOf_owns rfl hown) HSH.out (by omega) hall
    have HA : Hid (∀ a ∈ t, mayB a = true) := List.all_eq_true.1 hall
    clear hc hall hown
    go_wp2_with fail
    refine hce.mono ?_
    rintro e w2 ⟨out, rfl, ht, hb2⟩
    have hbw2 : Below w.heap.size w w2 := hb1.trans (hb2.mono hb1.size)
    have hne : bstr (be out.length 8 ++ encL out) ≠ bstr l := fun e => HG.out out (good_of HA.out ht.out (by have := congrArg (fun s => s.data.toList) e; exact this.symm))
    have hne2 := str_ne hne
    clear hce hb1 hb2 ht
    generalize bstr (be out.length 8 ++ encL out) = e0 at *
    generalize bstr l = sl at *
    go_wp2
    go_ret2
    exact ⟨rfl, hbw2⟩
end Go.Proofs.YtahdlejgjcjeoaaDoor
