/- Walks of the laws' join and knows. -/
import Derived.Test.YtahdlejgjcjeoaaDoorDeltaLat
import Derived.Test.YtahdlejgjcjeoaaDoorJoinLat
import Derived.Test.YtahdlejgjcjeoaaDoorEncW
import Derived.Test.YtahdlejgjcjeoaaDoorOwnW
namespace Go.Proofs.YtahdlejgjcjeoaaDoor
open Go.RowKit

set_option maxRecDepth 100000 in
set_option maxHeartbeats 1000000 in
theorem join_any (v1 v2 : Value) (l m : List At) (w : World) (hr : RulesAt w) (h1 : SliceOf w v1 l) (h2 : SliceOf w v2 m) (hl : ∀ a ∈ l, mayB a = true) (hm : ∀ a ∈ m, mayB a = true) (hlen : l.length ≤ 4194304) (hlen2 : m.length ≤ 4194304) :
    Calls Tryd.prog 26 #[v1, v2] w fun e w' => ∃ v out, e = .returned (.tuple #[v, .bool true]) ∧ w'.ownsRow w.heap.size 52 6 v out.length (flat out) ∧ Hid (IsTold (l ++ m) out) ∧ Below w.heap.size w w' := by
  have hc := latJoin_yes v1 v2 l m w hr h1 h2 (fun a ha => short_of_may (hl a ha)) (fun a ha => short_of_may (hm a ha)) hlen hlen2 (List.all_eq_true.2 hl) (List.all_eq_true.2 hm)
  clear hr h1 h2 hl hm
  go_enter Tryd.func26, Tryd.ntmps26
  go_wp2_with fail
  refine hc.mono ?_
  rintro e w1 ⟨v, out, rfl, hown, ht, hb⟩
  have HO : Hid (w1.ownsRow w.heap.size 52 6 v out.length (flat out)) := hown
  clear hc hown
  go_wp2
  go_ret2
  exact ⟨v, out, rfl, HO.out, ht, hb⟩

def kA : At := ⟨1, ⟨#[97]⟩, 0, 0, ⟨#[]⟩, 3⟩
def kB : At := ⟨1, ⟨#[97]⟩, 0, 1, ⟨#[]⟩, 5⟩
theorem mayA : mayB kA = true := by decide
theorem mayBB : mayB kB = true := by decide
theorem plcAB : plc kA kB = -1 := by decide
theorem told_ab : IsTold ([kA] ++ [kB]) [kA, kB] where
  sorted := by simp [plcAB]
  great x hx := by
    have hba : plc kB kA = 1 := by rw [plc_tp.anti kA kB, plcAB]; rfl
    simp only [List.mem_cons, List.not_mem_nil, or_false] at hx
    rcases hx with rfl | rfl
    · refine ⟨by simp, fun y hy => ?_⟩
      simp only [List.cons_append, List.nil_append, List.mem_cons, List.not_mem_nil, or_false] at hy
      rcases hy with rfl | rfl
      · intro _; decide
      · rw [hba]; omega
    · refine ⟨by simp, fun y hy => ?_⟩
      simp only [List.cons_append, List.nil_append, List.mem_cons, List.not_mem_nil, or_false] at hy
      rcases hy with rfl | rfl
      · rw [plcAB]; omega
      · intro _; decide
  all y hy := ⟨y, hy, plc_tp.refl y⟩
theorem news_ab : IsNews [kA, kB] [kA] [kB] where
  sorted := by simp
  mem x := by
    have hba : plc kB kA = 1 := by rw [plc_tp.anti kA kB, plcAB]; rfl
    constructor
    · intro hx
      obtain rfl : x = kB := by simpa using hx
      refine ⟨by simp, fun y hy => (told_ab.great kB (by simp)).2 y hy, fun y hy => ?_⟩
      obtain rfl : y = kA := by simpa using hy
      rw [hba]; omega
    · rintro ⟨hx, _, hn⟩
      simp only [List.mem_cons, List.not_mem_nil, or_false] at hx
      rcases hx with rfl | rfl
      · have := hn kA (by simp) (plc_tp.refl _)
        have h0 : grd kA kA = 0 := by decide
        omega
      · simp
theorem told_b : IsTold [kB] [kB] where
  sorted := by simp
  great x hx := by
    obtain rfl : x = kB := by simpa using hx
    refine ⟨by simp, fun y hy => ?_⟩
    obtain rfl : y = kB := by simpa using hy
    intro _; decide
  all y hy := ⟨y, hy, plc_tp.refl y⟩

theorem sliceOf_one (w : World) (x : At) : SliceOf (w.alloc (.cells #[.int .i64 x.ty, .string x.key, .int .i64 x.side, .int .i64 x.who, .string x.elem, .int .i64 x.n] 52)) (.slice (some ⟨w.heap.size, 0, none⟩) 1 1) [x] := by
  refine ⟨_, _, rfl, Nat.le_refl _, fun _ => ⟨_, _, rfl, by simp, fun k hk => ?_⟩⟩
  obtain rfl : k = 0 := by simpa using hk
  refine ⟨?_, ?_, ?_, ?_, ?_, ?_⟩ <;> simp

set_option maxRecDepth 100000 in
set_option maxHeartbeats 2000000 in
theorem knows_any (w : World) (hr : RulesAt w) :
    Calls Tryd.prog 29 #[] w fun e w' => e = .returned (.bool true) ∧ Below w.heap.size w w' := by
  have HR : Hid (RulesAt w) := hr
  clear hr
  go_enter Tryd.func29, Tryd.ntmps29
  go_wp2_with fail
  have sA : SliceOf ((w.alloc (.cells #[.int .i64 1, .string ⟨#[97]⟩, .int .i64 0, .int .i64 0, .string ⟨#[]⟩, .int .i64 3] 52)).alloc (.cells #[.int .i64 1, .string ⟨#[97]⟩, .int .i64 0, .int .i64 1, .string ⟨#[]⟩, .int .i64 5] 52)) (.slice (some ⟨w.heap.size, 0, none⟩) 1 1) [kA] := (sliceOf_one w kA).below (below_alloc (Below.refl _ _) _)
  have sB : SliceOf ((w.alloc (.cells #[.int .i64 1, .string ⟨#[97]⟩, .int .i64 0, .int .i64 0, .string ⟨#[]⟩, .int .i64 3] 52)).alloc (.cells #[.int .i64 1, .string ⟨#[97]⟩, .int .i64 0, .int .i64 1, .string ⟨#[]⟩, .int .i64 5] 52)) (.slice (some ⟨w.heap.size + 1, 0, none⟩) 1 1) [kB] := by
    have := sliceOf_one (w.alloc (.cells #[.int .i64 1, .string ⟨#[97]⟩, .int .i64 0, .int .i64 0, .string ⟨#[]⟩, .int .i64 3] 52)) kB
    rw [show (w.alloc (.cells #[.int .i64 1, .string ⟨#[97]⟩, .int .i64 0, .int .i64 0, .string ⟨#[]⟩, .int .i64 3] 52)).heap.size = w.heap.size + 1 by simp] at this
    exact this
  have hb0 : Below w.heap.size w ((w.alloc (.cells #[.int .i64 1, .string ⟨#[97]⟩, .int .i64 0, .int .i64 0, .string ⟨#[]⟩, .int .i64 3] 52)).alloc (.cells #[.int .i64 1, .string ⟨#[97]⟩, .int .i64 0, .int .i64 1, .string ⟨#[]⟩, .int .i64 5] 52)) := below_alloc (below_alloc (Below.refl _ _) _) _
  have hlB : w.heap.size + 1 < ((w.alloc (.cells #[.int .i64 1, .string ⟨#[97]⟩, .int .i64 0, .int .i64 0, .string ⟨#[]⟩, .int .i64 3] 52)).alloc (.cells #[.int .i64 1, .string ⟨#[97]⟩, .int .i64 0, .int .i64 1, .string ⟨#[]⟩, .int .i64 5] 52)).heap.size := by simp
  generalize (w.alloc (.cells #[.int .i64 1, .string ⟨#[97]⟩, .int .i64 0, .int .i64 0, .string ⟨#[]⟩, .int .i64 3] 52)).alloc (.cells #[.int .i64 1, .string ⟨#[97]⟩, .int .i64 0, .int .i64 1, .string ⟨#[]⟩, .int .i64 5] 52) = w0 at *
  have hA : ∀ x ∈ [kA], mayB x = true := fun x hx => by obtain rfl : x = kA := (by simpa using hx); exact mayA
  have hB : ∀ x ∈ [kB], mayB x = true := fun x hx => by obtain rfl : x = kB := (by simpa using hx); exact mayBB
  have hAB : ∀ x ∈ [kA] ++ [kB], mayB x = true := fun x hx => by
    rcases List.mem_append.1 hx with h | h
    · exact hA x h
    · exact hB x h
  have SA : Hid (SliceOf w0 (.slice (some ⟨w.heap.size, 0, none⟩) 1 1) [kA]) := sA
  have SB : Hid (SliceOf w0 (.slice (some ⟨w.heap.size + 1, 0, none⟩) 1 1) [kB]) := sB
  clear sA sB
  refine (latJoin_yes _ _ [kA] [kB] w0 (HR.out.below hb0 HR.out.1) SA.out SB.out (fun a ha => short_of_may (hA a ha)) (fun a ha => short_of_may (hB a ha)) (by simp) (by simp) (List.all_eq_true.2 hA) (List.all_eq_true.2 hB)).mono ?_
  rintro e w1 ⟨v1, out1, rfl, ho1, ht1, hb1⟩
  obtain rfl : out1 = [kA, kB] := ht1.out.unique hAB told_ab
  have hbw1 : Below w.heap.size w w1 := hb0.trans (hb1.mono hb0.size)
  have S1 : Hid (SliceOf w1 v1 [kA, kB]) := sliceOf_owns rfl ho1
  obtain ⟨ad1, cap1, rfl⟩ := own_form ho1
  have hc2 := latDelta_yes _ _ [kA, kB] [kA] w1 (HR.out.below hbw1 HR.out.1) S1.out (SA.out.below hb1) (fun a ha => short_of_may (hAB a ha)) (fun a ha => short_of_may (hA a ha)) (by simp) (by simp) (List.all_eq_true.2 hAB) (List.all_eq_true.2 hA)
  clear ho1 ht1
  go_wp2_with fail
  refine hc2.mono ?_
  rintro e w2 ⟨v2, out2, rfl, ho2, ht2, hb2⟩
  obtain rfl : out2 = [kB] := ht2.out.unique news_ab
  have hbw2 : Below w.heap.size w w2 := hbw1.trans (hb2.mono hbw1.size)
  have hb02 : Below w0.heap.size w0 w2 := hb1.trans (hb2.mono hb1.size)
  have S2 : Hid (SliceOf w2 v2 [kB]) := sliceOf_owns rfl ho2
  obtain ⟨ad2, cap2, rfl⟩ := own_form ho2
  have hc3 := encode_yes _ [kB] w2 (HR.out.below hbw2 HR.out.1) (SB.out.below hb02) (fun a ha => short_of_may (hB a ha)) (by simp) (List.all_eq_true.2 hB)
  clear hc2 ho2 ht2
  go_wp2_with fail
  refine hc3.mono ?_
  rintro e w3 ⟨out3, rfl, ht3, hb3⟩
  obtain rfl : out3 = [kB] := ht3.out.unique hB told_b
  have hbw3 : Below w.heap.size w w3 := hbw2.trans (hb3.mono hbw2.size)
  have hsz : (bstr (be [kB].length 8 ++ encL [kB])).size = 18 := by rw [bstr_size]; decide
  obtain ⟨ad2', cap2', e2', -, H2⟩ := S2.out.below hb3
  cases e2'
  obtain ⟨b2, off2, rfl, -, r2⟩ := H2 (by simp)
  obtain ⟨ad3', cap3', e3', -, H3⟩ := SB.out.below (hb02.trans (hb3.mono hb02.size))
  cases e3'
  obtain ⟨b3, off3, e3, -, r3⟩ := H3 (by simp)
  cases e3
  have q2 := r2 0 (by simp)
  have q3 := r3 0 (by simp)
  simp only [List.getElem_cons_zero, kB] at q2 q3
  obtain ⟨c0, c1, c2, c3, c4, c5⟩ := q2
  obtain ⟨d0, d1, d2, d3, d4, d5⟩ := q3
  generalize bstr (be [kB].length 8 ++ encL [kB]) = es at *
  clear hc3 ht3 H2 H3 r2 r3
  simp only [Nat.zero_mul, Nat.add_zero, Nat.zero_add] at c0 c1 c2 c3 c4 c5 d0 d1 d2 d3 d4 d5
  go_wp2
  go_region_held3 (fun w' => w'.cell? ⟨b2, off2, none⟩ = some (.int .i64 1) ∧ w'.cell? ⟨b2, off2 + 1, none⟩ = some (.string ⟨#[97]⟩) ∧ w'.cell? ⟨b2, off2 + 2, none⟩ = some (.int .i64 0) ∧ w'.cell? ⟨b2, off2 + 3, none⟩ = some (.int .i64 1) ∧ w'.cell? ⟨b2, off2 + 4, none⟩ = some (.string ⟨#[]⟩) ∧ w'.cell? ⟨b2, off2 + 5, none⟩ = some (.int .i64 5) ∧ w'.cell? ⟨w.heap.size + 1, 0, none⟩ = some (.int .i64 1) ∧ w'.cell? ⟨w.heap.size + 1, 1, none⟩ = some (.string ⟨#[97]⟩) ∧ w'.cell? ⟨w.heap.size + 1, 2, none⟩ = some (.int .i64 0) ∧ w'.cell? ⟨w.heap.size + 1, 3, none⟩ = some (.int .i64 1) ∧ w'.cell? ⟨w.heap.size + 1, 4, none⟩ = some (.string ⟨#[]⟩) ∧ w'.cell? ⟨w.heap.size + 1, 5, none⟩ = some (.int .i64 5)) (first | go_keep | fail) (fail)
  go_wp2
  go_ret
  exact ⟨rfl, hbw3.drew⟩
end Go.Proofs.YtahdlejgjcjeoaaDoor
