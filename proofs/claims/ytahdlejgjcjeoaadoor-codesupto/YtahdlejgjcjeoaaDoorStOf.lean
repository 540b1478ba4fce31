/- Walk of the program's Of. -/
import Derived.Test.YtahdlejgjcjeoaaDoorStAdd
namespace Go.Proofs.YtahdlejgjcjeoaaDoor
open Go.RowKit

theorem short_of_may {a : At} (h : mayB a = true) : short a := by
  simp only [mayB, decide_eq_true_eq] at h
  unfold short
  omega

theorem below_of_grown {w w1 w' : World} {b : Nat} (h : Below w.heap.size w w1) (hg : w1.grownBy w' (some b)) (hb : w.heap.size ≤ b) : Below w.heap.size w w' :=
  h.grown hg h.size (fun k hk => by cases hk; exact hb)

set_option maxRecDepth 100000 in
set_option maxHeartbeats 1000000 in
theorem of_yes (v : Value) (l : List At) (w : World) (hr : RulesAt w) (hv : SliceOf w v l) (hs : ∀ a ∈ l, short a) (hlen : l.length ≤ 1099511627776) (hall : l.all mayB = true) :
    Calls Tryd.prog 38 #[v] w fun e w' => ∃ b, e = .returned (.tuple #[.map (some b), .int .i64 0]) ∧ w.heap.size ≤ b ∧ StMap w' b l.length (addTo (fun _ => none) l) ∧ Below w.heap.size w w' := by
  have hcon := allMayBe_any v l w hr hv hs (by omega)
  have hmay : ∀ a ∈ l, mayB a = true := List.all_eq_true.1 hall
  rw [hall] at hcon
  have HR : Hid (RulesAt w) := hr
  have HV : Hid (SliceOf w v l) := hv
  have HS : Hid (∀ a ∈ l, mayB a = true) := hmay
  clear hr hv hs hmay hall
  have hmm := @run_makeMap Tryd.prog
  go_enter Tryd.func38, Tryd.ntmps38
  go_wp2_with fail
  refine hcon.mono ?_
  rintro e w1 ⟨rfl, hb1⟩
  clear hcon
  go_wp2_with fail
  have hb2 : Below w.heap.size w (w1.alloc (.map #[] 0)) := below_alloc hb1 _
  refine (add_any v l w1.heap.size 0 (fun _ => none) _ (HR.out.below hb2 HR.out.1) (stMap_made w1) (HV.out.below hb2) HS.out (by omega)).mono ?_
  rintro e w2 ⟨rfl, hst, hg⟩
  rw [Nat.zero_add] at hst
  have hb3 := below_of_grown hb2 hg hb1.size
  have HB : Hid (StMap w2 w1.heap.size l.length (addTo (fun _ => none) l)) := hst
  have hsz := hb1.size
  clear hst hg hb2
  go_wp2
  go_ret2
  exact ⟨_, rfl, hsz, HB, hb3⟩

set_option maxHeartbeats 1000000 in
theorem of_no (v : Value) (l : List At) (w : World) (hr : RulesAt w) (hv : SliceOf w v l) (hs : ∀ a ∈ l, short a) (hlen : l.length ≤ 1099511627776) (hall : l.all mayB = false) :
    Calls Tryd.prog 38 #[v] w fun e w' => e = .returned (.tuple #[.map none, .int .i64 1]) ∧ Below w.heap.size w w' := by
  have hcon := allMayBe_any v l w hr hv hs (by omega)
  rw [hall] at hcon
  clear hr hv hs hall
  go_enter Tryd.func38, Tryd.ntmps38
  go_wp2_with fail
  refine hcon.mono ?_
  rintro e w1 ⟨rfl, hb1⟩
  clear hcon
  go_wp2
  go_ret2
  exact ⟨rfl, hb1⟩
end Go.Proofs.YtahdlejgjcjeoaaDoor
