/- Walk of the document's Read. -/
import Derived.Test.YtfddkkkkehbecaaDoorReadRef
namespace Go.Proofs.YtfddkkkkehbecaaDoor
open Go.RowKit

set_option maxRecDepth 100000 in
set_option maxHeartbeats 1000000 in
theorem refRead_any (v : Value) (l : List At) (kind : Int) (key : ByteArray) (w : World) (h1 : SliceOf w v l) (hs1 : ∀ a ∈ l, short a) (hlen : l.length ≤ 4194304) (hk : key.size ≤ 1099511627776) :
    Calls Tryd.prog 20 #[v, .int .i64 kind, .string key] w fun e w' => ∃ n v' es, e = .returned (.tuple #[.agg #[.int .i64 n, v'], .int .i64 (readCode l kind)]) ∧ w'.ownsRow w.heap.size 9 1 v' es.length (es.map Value.string) ∧ Hid (ReadSpec l kind key n es) ∧ Below w.heap.size w w' := by
  have HC1 : Hid (∀ W, Below w.heap.size w W → Calls Tryd.prog 35 #[v] W fun e w' => e = .returned (.bool (l.all mayB)) ∧ Below W.heap.size W w') := fun W hW => mays_any v l W (h1.below hW) hs1 (by omega)
  have HC2 : Hid (l.all mayB = true → 1 ≤ kind ∧ kind ≤ 5 → ∀ W, Below w.heap.size w W → Calls Tryd.prog 50 #[v, .int .i64 kind, .string key] W fun e w' => ∃ T v', e = .returned (.agg #[.int .i64 (valN kind key T), v']) ∧ Hid (IsTold l T) ∧ Hid (w'.ownsRow W.heap.size 9 1 v' (valE T kind key T).length ((valE T kind key T).map Value.string)) ∧ Below W.heap.size W w') := fun hl hki W hW => value_any v l kind key W (h1.below hW) (List.all_eq_true.1 hl) hlen hk hki
  clear h1 hs1
  go_enter Tryd.func20, Tryd.ntmps20
  go_wp2_with fail
  have hb0 := below_alloc (Below.refl _ w) (.cells #[.int .i64 0, .slice none 0 0] 34)
  have hz0 : (w.alloc (.cells #[.int .i64 0, .slice none 0 0] 34)).heap.size = w.heap.size + 1 := by simp
  have hr0 : ResAt (w.alloc (.cells #[.int .i64 0, .slice none 0 0] 34)) w.heap.size := heap_alloc_new w _
  generalize w.alloc (.cells #[.int .i64 0, .slice none 0 0] 34) = w0 at *
  refine (HC1.out w0 hb0).mono ?_
  rintro e w1 ⟨rfl, hb1⟩
  have hbw1 : Below w.heap.size w w1 := hb0.trans (hb1.mono hb0.size)
  have hr1 : ResAt w1 w.heap.size := hr0.below hb1 (by omega)
  have hsz1 := hb1.size
  clear HC1 hr0 hb1
  cases hl : l.all mayB
  · have HCD : Hid (readCode l kind = 1) := by rw [Hid]; unfold readCode; rw [hl]; rfl
    obtain ⟨c0, c1, f0, f1⟩ := hr1.cells
    clear HC2 hl
    go_wp2
    refine bodyPost_ret (v := .tuple #[.agg #[.int .i64 0, .slice none 0 0], .int .i64 1]) ?_ rfl ⟨0, _, [], by rw [HCD.out], ⟨rfl, .inl ⟨rfl, rfl⟩⟩, .inr ⟨by rw [HCD.out]; omega, rfl, rfl⟩, ?_⟩
    · simp [results, Tryd.results20, go_sem, c0, c1]
    · exact (hbw1.setCell (Nat.le_refl _) _).setCell (Nat.le_refl _) _
  · by_cases hki : 1 ≤ kind ∧ kind ≤ 5
    · have hc : readCode l kind = 0 := by unfold readCode; rw [hl, if_pos rfl, if_pos hki]
      have HML : Hid (∀ a ∈ l, mayB a = true) := List.all_eq_true.1 hl
      have HCD : Hid (readCode l kind = 0) := hc
      have hcv := HC2.out hl hki w1 hbw1
      have HR1 : Hid (ResAt w1 w.heap.size) := hr1
      clear HC2 hl hr1 hc
      go_wp2_with fail
      refine hcv.mono ?_
      rintro e w2 ⟨T, v', rfl, hT, ho, hb2⟩
      obtain ⟨c0, c1, f0, f1⟩ := (HR1.out.below hb2 (by omega)).cells
      have hbw2 : Below w.heap.size w w2 := hbw1.trans (hb2.mono hbw1.size)
      obtain ⟨ad, cp, hv⟩ := own_form ho.out
      subst hv
      clear hcv HR1
      go_wp2
      refine bodyPost_ret (v := .tuple #[.agg #[.int .i64 (valN kind key T), .slice ad (valE T kind key T).length cp], .int .i64 0]) ?_ rfl ⟨_, _, _, by rw [HCD.out], owns_mono (owns_set (owns_set ho.out (by omega)) (by omega)) (by omega), .inl ⟨HCD.out, HML.out, T, hT.out, rfl, rfl⟩, (hbw2.setCell (Nat.le_refl _) _).setCell (Nat.le_refl _) _⟩
      simp [results, Tryd.results20, go_sem, c0, c1]
    · have hc : readCode l kind = 6 := by unfold readCode; rw [hl, if_pos rfl, if_neg hki]
      obtain ⟨c0, c1, f0, f1⟩ := hr1.cells
      have HCD : Hid (readCode l kind = 6) := hc
      clear HC2 hl hc
      by_cases h1 : kind < 1
      · go_wp2
        refine bodyPost_ret (v := .tuple #[.agg #[.int .i64 0, .slice none 0 0], .int .i64 6]) ?_ rfl ⟨0, _, [], by rw [HCD.out], ⟨rfl, .inl ⟨rfl, rfl⟩⟩, .inr ⟨by rw [HCD.out]; omega, rfl, rfl⟩, ?_⟩
        · simp [results, Tryd.results20, go_sem, c0, c1]
        · exact (hbw1.setCell (Nat.le_refl _) _).setCell (Nat.le_refl _) _
      · have h5 : 5 < kind := by omega
        have h1' : 1 ≤ kind := by omega
        go_wp2
        refine bodyPost_ret (v := .tuple #[.agg #[.int .i64 0, .slice none 0 0], .int .i64 6]) ?_ rfl ⟨0, _, [], by rw [HCD.out], ⟨rfl, .inl ⟨rfl, rfl⟩⟩, .inr ⟨by rw [HCD.out]; omega, rfl, rfl⟩, ?_⟩
        · simp [results, Tryd.results20, go_sem, c0, c1]
        · exact (hbw1.setCell (Nat.le_refl _) _).setCell (Nat.le_refl _) _
end Go.Proofs.YtfddkkkkehbecaaDoor
