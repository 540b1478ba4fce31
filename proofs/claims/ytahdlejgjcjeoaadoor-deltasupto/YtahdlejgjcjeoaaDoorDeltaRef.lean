/- Walk of the document's Delta. -/
import Derived.Test.YtahdlejgjcjeoaaDoorRefNews
namespace Go.Proofs.YtahdlejgjcjeoaaDoor
open Go.RowKit

set_option maxHeartbeats 1000000 in
theorem refDelta_yes (v1 v2 : Value) (l m : List At) (w : World) (h1 : SliceOf w v1 l) (h2 : SliceOf w v2 m) (hs1 : ∀ a ∈ l, short a) (hs2 : ∀ a ∈ m, short a) (hlen : l.length ≤ 4194304) (hlen2 : m.length ≤ 4194304) (hl : l.all mayB = true) (hm : m.all mayB = true) :
    Calls Tryd.prog 16 #[v1, v2] w fun e w' => ∃ v out, e = .returned (.tuple #[v, .int .i64 0]) ∧ w'.ownsRow w.heap.size 52 6 v out.length (flat out) ∧ Hid (IsNews l m out) ∧ Below w.heap.size w w' := by
  have hc1 := mays_any v1 l w h1 hs1 (by omega)
  rw [hl] at hc1
  have HC2 : Hid (∀ W, SliceOf W v2 m → Calls Tryd.prog 35 #[v2] W fun e w' => e = .returned (.bool true) ∧ Below W.heap.size W w') := fun W hW => by
    have := mays_any v2 m W hW hs2 (by omega)
    rw [hm] at this
    exact this
  have H1 : Hid (SliceOf w v1 l) := h1
  have H2 : Hid (SliceOf w v2 m) := h2
  have HA1 : Hid (∀ a ∈ l, mayB a = true) := List.all_eq_true.1 hl
  have HA2 : Hid (∀ a ∈ m, mayB a = true) := List.all_eq_true.1 hm
  clear h1 h2 hs1 hs2 hl hm
  go_enter Tryd.func16, Tryd.ntmps16
  go_wp2_with fail
  refine hc1.mono ?_
  rintro e w1 ⟨rfl, hb1⟩
  clear hc1
  go_wp2_with fail
  refine (HC2.out _ (H2.out.below hb1)).mono ?_
  rintro e w2 ⟨rfl, hb2⟩
  have hbw2 : Below w.heap.size w w2 := hb1.trans (hb2.mono hb1.size)
  clear hb1 hb2 HC2
  go_wp2_with fail
  refine (news_any v1 v2 l m w2 (H1.out.below hbw2) (H2.out.below hbw2) (fun a ha => fits_of_may (HA1.out a ha)) (fun a ha => fits_of_may (HA2.out a ha)) (by omega) (by omega)).mono ?_
  rintro e w4 ⟨v4, L, rfl, hown4, ht, hb4⟩
  have hbw4 : Below w.heap.size w w4 := hbw2.trans (hb4.mono hbw2.size)
  have hfin := owns_mono hown4 hbw2.size
  have HN : Hid (IsNews l m (newsTo L m L.length)) := news_of_told HA1.out ht.out
  clear hown4 hb4 ht
  generalize newsTo L m L.length = out at *
  go_wp2
  go_ret2
  exact ⟨v4, out, rfl, hfin, HN, hbw4⟩

set_option maxHeartbeats 1000000 in
theorem refDelta_no (v1 v2 : Value) (l m : List At) (w : World) (h1 : SliceOf w v1 l) (h2 : SliceOf w v2 m) (hs1 : ∀ a ∈ l, short a) (hs2 : ∀ a ∈ m, short a) (hlen : l.length ≤ 4194304) (hlen2 : m.length ≤ 4194304) (hn : (l.all mayB && m.all mayB) = false) :
    Calls Tryd.prog 16 #[v1, v2] w fun e w' => e = .returned (.tuple #[.slice none 0 0, .int .i64 1]) ∧ Below w.heap.size w w' := by
  have hc1 := mays_any v1 l w h1 hs1 (by omega)
  have HC2 : Hid (∀ W, SliceOf W v2 m → Calls Tryd.prog 35 #[v2] W fun e w' => e = .returned (.bool (m.all mayB)) ∧ Below W.heap.size W w') := fun W hW => mays_any v2 m W hW hs2 (by omega)
  have H2 : Hid (SliceOf w v2 m) := h2
  clear h1 h2 hs1 hs2
  generalize l.all mayB = x at *
  generalize m.all mayB = y at *
  go_enter Tryd.func16, Tryd.ntmps16
  go_wp2_with fail
  refine hc1.mono ?_
  rintro e w1 ⟨rfl, hb1⟩
  clear hc1
  go_wp2_with fail
  refine (HC2.out _ (H2.out.below hb1)).mono ?_
  rintro e w2 ⟨rfl, hb2⟩
  have hbw2 : Below w.heap.size w w2 := hb1.trans (hb2.mono hb1.size)
  clear hb1 hb2 HC2
  cases x
  · clear hn
    go_wp2
    go_ret2
    exact ⟨rfl, hbw2⟩
  · have hy : y = false := by simpa using hn
    subst hy
    clear hn
    go_wp2
    go_ret2
    exact ⟨rfl, hbw2⟩
end Go.Proofs.YtahdlejgjcjeoaaDoor
