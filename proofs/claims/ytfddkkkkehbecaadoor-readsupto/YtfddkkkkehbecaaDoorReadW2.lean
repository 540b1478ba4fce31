/- Read of the program: its refusals, and all together. -/
import Derived.Test.YtfddkkkkehbecaaDoorReadW
namespace Go.Proofs.YtfddkkkkehbecaaDoor
open Go.RowKit Go.Maps

set_option maxRecDepth 100000 in
set_option maxHeartbeats 1000000 in
theorem read_no (v : Value) (l : List At) (kind : Int) (key : ByteArray) (w : World) (hr : RulesAt w) (h1 : SliceOf w v l) (hs1 : ∀ a ∈ l, short a) (hlen : l.length ≤ 4194304) (hl : l.all mayB = false) :
    Calls Tryd.prog 21 #[v, .int .i64 kind, .string key] w fun e w' => e = .returned (.tuple #[.agg #[.int .i64 0, .slice none 0 0], .int .i64 1]) ∧ Below w.heap.size w w' := by
  have HC1 : Hid (∀ W, Below w.heap.size w W → Calls Tryd.prog 38 #[v] W fun e w' => e = .returned (.tuple #[.map none, .int .i64 1]) ∧ Below W.heap.size W w') := fun W hW => of_no v l W (hr.below hW hr.1) (h1.below hW) hs1 (by omega) hl
  clear hr h1 hs1 hl
  go_enter Tryd.func21, Tryd.ntmps21
  go_wp2_with fail
  have hb0 := below_alloc (Below.refl _ w) (.cells #[.int .i64 0, .slice none 0 0] 34)
  have hz0 : (w.alloc (.cells #[.int .i64 0, .slice none 0 0] 34)).heap.size = w.heap.size + 1 := by simp
  have hr0 : ResAt (w.alloc (.cells #[.int .i64 0, .slice none 0 0] 34)) w.heap.size := heap_alloc_new w _
  generalize w.alloc (.cells #[.int .i64 0, .slice none 0 0] 34) = w0 at *
  refine (HC1.out w0 hb0).mono ?_
  rintro e w1 ⟨rfl, hb1⟩
  have hbw1 : Below w.heap.size w w1 := hb0.trans (hb1.mono hb0.size)
  obtain ⟨c0, c1, f0, f1⟩ := (hr0.below hb1 (by omega)).cells
  clear HC1 hr0
  go_wp2
  refine bodyPost_ret (v := .tuple #[.agg #[.int .i64 0, .slice none 0 0], .int .i64 1]) ?_ rfl ⟨rfl, ?_⟩
  · simp [results, Tryd.results21, go_sem, c0, c1]
  · exact (hbw1.setCell (Nat.le_refl _) _).setCell (Nat.le_refl _) _

set_option maxRecDepth 100000 in
set_option maxHeartbeats 1000000 in
theorem read_op (v : Value) (l : List At) (kind : Int) (key : ByteArray) (w : World) (hr : RulesAt w) (h1 : SliceOf w v l) (hs1 : ∀ a ∈ l, short a) (hlen : l.length ≤ 4194304) (hl : l.all mayB = true) (hki : ¬ (1 ≤ kind ∧ kind ≤ 5)) :
    Calls Tryd.prog 21 #[v, .int .i64 kind, .string key] w fun e w' => e = .returned (.tuple #[.agg #[.int .i64 0, .slice none 0 0], .int .i64 6]) ∧ Below w.heap.size w w' := by
  have HC1 : Hid (∀ W, Below w.heap.size w W → Calls Tryd.prog 38 #[v] W fun e w' => ∃ b, e = .returned (.tuple #[.map (some b), .int .i64 0]) ∧ W.heap.size ≤ b ∧ StMap w' b l.length (addTo (fun _ => none) l) ∧ Below W.heap.size W w') := fun W hW => of_yes v l W (hr.below hW hr.1) (h1.below hW) hs1 (by omega) hl
  have hwi : wi kind 1 5 = false := by unfold wi; simp; omega
  clear hr h1 hs1 hl
  go_enter Tryd.func21, Tryd.ntmps21
  go_wp2_with fail
  have hb0 := below_alloc (Below.refl _ w) (.cells #[.int .i64 0, .slice none 0 0] 34)
  have hz0 : (w.alloc (.cells #[.int .i64 0, .slice none 0 0] 34)).heap.size = w.heap.size + 1 := by simp
  have hr0 : ResAt (w.alloc (.cells #[.int .i64 0, .slice none 0 0] 34)) w.heap.size := heap_alloc_new w _
  generalize w.alloc (.cells #[.int .i64 0, .slice none 0 0] 34) = w0 at *
  refine (HC1.out w0 hb0).mono ?_
  rintro e w1 ⟨b, rfl, hbb, -, hb1⟩
  have hbw1 : Below w.heap.size w w1 := hb0.trans (hb1.mono hb0.size)
  obtain ⟨c0, c1, f0, f1⟩ := (hr0.below hb1 (by omega)).cells
  clear HC1 hr0
  go_wp2_with fail
  refine (isType_any kind w1).mono ?_
  rintro e w2 ⟨rfl, rfl⟩
  rw [hwi]
  go_wp2
  refine bodyPost_ret (v := .tuple #[.agg #[.int .i64 0, .slice none 0 0], .int .i64 6]) ?_ rfl ⟨rfl, ?_⟩
  · simp [results, Tryd.results21, go_sem, c0, c1]
  · exact (hbw1.setCell (Nat.le_refl _) _).setCell (Nat.le_refl _) _

/-- There is a told list of every state. -/
theorem told_exists (l : List At) : ∃ T, IsTold l T := by
  have hp := List.mergeSort_perm (leftTo l l.length) (fun x y => decide (plc x y ≤ 0))
  have hs := List.pairwise_mergeSort (le := fun x y : At => decide (plc x y ≤ 0)) (fun a b c h1 h2 => by simp only [decide_eq_true_eq] at *; exact plc_tp.trans a b c h1 h2) (fun a b => by
    simp only [Bool.or_eq_true, decide_eq_true_eq]
    have := plc_tp.anti a b
    omega) (leftTo l l.length)
  have ha : ((leftTo l l.length).mergeSort (fun x y => decide (plc x y ≤ 0))).Pairwise (fun x y => plc x y ≠ 0) := (hp.pairwise_iff (fun {x y} hxy e => hxy (plc_symm e))).2 left_apart
  refine ⟨_, ⟨List.Pairwise.imp₂ (fun {x y} h1 h2 => ?_) ha hs, fun x hx => left_great x (hp.mem_iff.1 hx), fun y hy => ?_⟩⟩
  · simp only [decide_eq_true_eq] at h2
    omega
  · obtain ⟨x, hx, h⟩ := left_all y hy
    exact ⟨x, hp.mem_iff.2 hx, h⟩

theorem latRead_any (v : Value) (l : List At) (kind : Int) (key : ByteArray) (w : World) (hr : RulesAt w) (h1 : SliceOf w v l) (hs1 : ∀ a ∈ l, short a) (hlen : l.length ≤ 4194304) (hk : key.size ≤ 1099511627776) :
    Calls Tryd.prog 21 #[v, .int .i64 kind, .string key] w fun e w' => ∃ n v' es, e = .returned (.tuple #[.agg #[.int .i64 n, v'], .int .i64 (readCode l kind)]) ∧ w'.ownsRow w.heap.size 9 1 v' es.length (es.map Value.string) ∧ Hid (ReadSpec l kind key n es ∧ (readCode l kind = 0 ∨ v' = .slice none 0 0)) ∧ Below w.heap.size w w' := by
  cases hl : l.all mayB
  · have hc : readCode l kind = 1 := by unfold readCode; rw [hl]; rfl
    refine (read_no v l kind key w hr h1 hs1 hlen hl).mono ?_
    rintro e w' ⟨rfl, hb⟩
    rw [hc]
    exact ⟨0, _, [], rfl, ⟨rfl, .inl ⟨rfl, rfl⟩⟩, ⟨.inr ⟨by omega, rfl, rfl⟩, .inr rfl⟩, hb⟩
  · by_cases hki : 1 ≤ kind ∧ kind ≤ 5
    · have hc : readCode l kind = 0 := by unfold readCode; rw [hl, if_pos rfl, if_pos hki]
      obtain ⟨T, hT⟩ := told_exists l
      refine (read_yes v l T kind key w hr h1 hs1 hlen hk hl hT hki).mono ?_
      rintro e w' ⟨v', rfl, ho, hb⟩
      rw [hc]
      exact ⟨_, v', _, rfl, ho.out, ⟨.inl ⟨hc, List.all_eq_true.1 hl, T, hT, rfl, rfl⟩, .inl rfl⟩, hb⟩
    · have hc : readCode l kind = 6 := by unfold readCode; rw [hl, if_pos rfl, if_neg hki]
      refine (read_op v l kind key w hr h1 hs1 hlen hl hki).mono ?_
      rintro e w' ⟨rfl, hb⟩
      rw [hc]
      exact ⟨0, _, [], rfl, ⟨rfl, .inl ⟨rfl, rfl⟩⟩, ⟨.inr ⟨by omega, rfl, rfl⟩, .inr rfl⟩, hb⟩
end Go.Proofs.YtfddkkkkehbecaaDoor
