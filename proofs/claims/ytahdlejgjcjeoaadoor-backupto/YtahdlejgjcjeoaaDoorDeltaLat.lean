/- Walk of the program's lattice.Delta. -/
import Derived.Test.YtahdlejgjcjeoaaDoorStThin
namespace Go.Proofs.YtahdlejgjcjeoaaDoor
open Go.RowKit

set_option maxRecDepth 100000 in
set_option maxHeartbeats 1000000 in
theorem latDelta_yes (v1 v2 : Value) (l m : List At) (w : World) (hr : RulesAt w) (h1 : SliceOf w v1 l) (h2 : SliceOf w v2 m) (hs1 : ∀ a ∈ l, short a) (hs2 : ∀ a ∈ m, short a) (hlen : l.length ≤ 4194304) (hlen2 : m.length ≤ 4194304) (hl : l.all mayB = true) (hm : m.all mayB = true) :
    Calls Tryd.prog 17 #[v1, v2] w fun e w' => ∃ v out, e = .returned (.tuple #[v, .int .i64 0]) ∧ w'.ownsRow w.heap.size 52 6 v out.length (flat out) ∧ Hid (IsNews l m out) ∧ Below w.heap.size w w' := by
  have hc1 := of_yes v1 l w hr h1 hs1 (by omega) hl
  have HC2 : Hid (∀ W, RulesAt W → SliceOf W v2 m → Calls Tryd.prog 38 #[v2] W fun e w' => ∃ b, e = .returned (.tuple #[.map (some b), .int .i64 0]) ∧ W.heap.size ≤ b ∧ StMap w' b m.length (addTo (fun _ => none) m) ∧ Below W.heap.size W w') := fun W hr hW => of_yes v2 m W hr hW hs2 (by omega) hm
  have HA : Hid (∀ a ∈ l, mayB a = true) := List.all_eq_true.1 hl
  have H2 : Hid (SliceOf w v2 m) := h2
  have HR : Hid (RulesAt w) := hr
  clear h1 h2 hs1 hs2 hl hm hr
  go_enter Tryd.func17, Tryd.ntmps17
  go_wp2_with fail
  refine hc1.mono ?_
  rintro e w1 ⟨b, rfl, hbb, hst, hb1⟩
  have HST : Hid (StMap w1 b l.length (addTo (fun _ => none) l)) := hst
  have hlt1 := hst.lt
  clear hc1 hst
  go_wp2_with fail
  refine (HC2.out _ (HR.out.below hb1 HR.out.1) (H2.out.below hb1)).mono ?_
  rintro e w2 ⟨c, rfl, hcc, hst2, hb2⟩
  have hbw2 : Below w.heap.size w w2 := hb1.trans (hb2.mono hb1.size)
  have HO2 : Hid (StMap w2 c m.length (addTo (fun _ => none) m)) := hst2
  have HST2 : Hid (StMap w2 b l.length (addTo (fun _ => none) l)) := HST.out.below hb2
  clear hb1 hb2 HC2 HST hst2
  go_wp2_with fail
  refine (thin_any b c l.length m.length _ _ w2 HST2.out HO2.out (by omega)).mono ?_
  rintro e w3 ⟨rfl, hst3, hg3⟩
  have hbw3 := below_of_grown hbw2 hg3 hbb
  have hh := holds_list l
  have hk := holds_list m
  have hmay := thin_may (O := addTo (fun _ => none) m) (hh.mayMap HA.out)
  have HTL : Hid (∀ out, TellOf (thinM (addTo (fun _ => none) l) (addTo (fun _ => none) m)) out → IsNews l m out) := fun out ht => hh.news hk HA.out ht
  have hcon := tell_any b l.length _ w3 (HR.out.below hbw3 HR.out.1) hst3 hmay (by omega)
  clear hst3 hg3 HST2 HO2 hh hk hmay
  generalize thinM (addTo (fun _ => none) l) (addTo (fun _ => none) m) = M at *
  go_wp2_with fail
  refine hcon.mono ?_
  rintro e w4 ⟨v4, out, rfl, hown4, ht, hb4⟩
  have hbw4 : Below w.heap.size w w4 := hbw3.trans (hb4.mono hbw3.size)
  have hfin := owns_mono hown4 hbw3.size
  have HT4 : Hid (IsNews l m out) := HTL.out out ht.out
  clear hcon hown4 hb4 ht
  go_wp2
  go_ret2
  exact ⟨v4, out, rfl, hfin, HT4, hbw4⟩

set_option maxRecDepth 100000 in
set_option maxHeartbeats 1000000 in
theorem latDelta_no (v1 v2 : Value) (l m : List At) (w : World) (hr : RulesAt w) (h1 : SliceOf w v1 l) (h2 : SliceOf w v2 m) (hs1 : ∀ a ∈ l, short a) (hs2 : ∀ a ∈ m, short a) (hlen : l.length ≤ 4194304) (hlen2 : m.length ≤ 4194304) (hn : (l.all mayB && m.all mayB) = false) :
    Calls Tryd.prog 17 #[v1, v2] w fun e w' => e = .returned (.tuple #[.slice none 0 0, .int .i64 1]) ∧ Below w.heap.size w w' := by
  cases hl : l.all mayB
  · have hc1 := of_no v1 l w hr h1 hs1 (by omega) hl
    clear h1 h2 hs1 hs2 hl hn hr
    go_enter Tryd.func17, Tryd.ntmps17
    go_wp2_with fail
    refine hc1.mono ?_
    rintro e w1 ⟨rfl, hb1⟩
    clear hc1
    go_wp2
    go_ret2
    exact ⟨rfl, hb1⟩
  · have hm : m.all mayB = false := by simpa [hl] using hn
    have hc1 := of_yes v1 l w hr h1 hs1 (by omega) hl
    have HC2 : Hid (∀ W, RulesAt W → SliceOf W v2 m → Calls Tryd.prog 38 #[v2] W fun e w' => e = .returned (.tuple #[.map none, .int .i64 1]) ∧ Below W.heap.size W w') := fun W hr hW => of_no v2 m W hr hW hs2 (by omega) hm
    have H2 : Hid (SliceOf w v2 m) := h2
    have HR : Hid (RulesAt w) := hr
    clear h1 h2 hs1 hs2 hl hm hn hr
    go_enter Tryd.func17, Tryd.ntmps17
    go_wp2_with fail
    refine hc1.mono ?_
    rintro e w1 ⟨b, rfl, hbb, hst, hb1⟩
    clear hc1 hst
    go_wp2_with fail
    refine (HC2.out _ (HR.out.below hb1 HR.out.1) (H2.out.below hb1)).mono ?_
    rintro e w2 ⟨rfl, hb2⟩
    have hbw2 : Below w.heap.size w w2 := hb1.trans (hb2.mono hb1.size)
    clear hb1 hb2 HC2
    go_wp2
    go_ret2
    exact ⟨rfl, hbw2⟩
end Go.Proofs.YtahdlejgjcjeoaaDoor
