/- Walk of the laws' lent: the loop. -/
import Derived.Test.YtahdlejgjcjeoaaDoorLent
namespace Go.Proofs.YtahdlejgjcjeoaaDoor
open Go.RowKit

/-- After j marks behind the list. -/
def lentTo (l : List At) (j : Nat) : List At := l ++ (List.replicate j bey ++ List.replicate (8 - j) ⟨0, ⟨#[]⟩, 0, 0, ⟨#[]⟩, 0⟩)
theorem lentTo_length (l : List At) (j : Nat) (h : j ≤ 8) : (lentTo l j).length = l.length + 8 := by simp [lentTo]; omega
theorem lentTo_set (l : List At) (j : Nat) (h : j < 8) : (lentTo l j).set (l.length + j) bey = lentTo l (j + 1) := by
  unfold lentTo
  rw [List.set_append_right _ _ (by omega), show l.length + j - l.length = j by omega, List.set_append_right _ _ (by simp)]
  simp only [List.length_replicate, Nat.sub_self]
  rw [show 8 - j = (8 - (j + 1)) + 1 by omega, List.replicate_succ, List.set_cons_zero, List.replicate_succ', List.append_assoc]
  rfl
theorem lentTo_done (l : List At) : lentTo l 8 = l ++ List.replicate 8 bey := by simp [lentTo]
theorem lentTo_zero (l : List At) (n : Nat) (h : n = l.length + 8) : l ++ (List.replicate n (⟨0, ⟨#[]⟩, 0, 0, ⟨#[]⟩, 0⟩ : At)).drop l.length = lentTo l 0 := by
  subst h; simp [lentTo]

set_option maxRecDepth 100000 in
set_option maxHeartbeats 1000000 in
theorem lent_any (v : Value) (l : List At) (w : World) (hv : SliceOf w v l) (hlen : l.length ≤ 4194304) :
    Calls Tryd.prog 11 #[v] w fun e w' => ∃ g, e = .returned (.slice (some ⟨g, 0, none⟩) (l.length + 8) (l.length + 8)) ∧ w'.ownsRow w.heap.size 52 6 (.slice (some ⟨g, 0, none⟩) (l.length + 8) (l.length + 8)) (l.length + 8) (flat (l ++ List.replicate 8 bey)) ∧ Below w.heap.size w w' := by
  obtain ⟨i0, hi, hz0, hz1, hz2⟩ := info_parts infoAtom
  have hvv := hv
  obtain ⟨ad, cap, rfl, _, _⟩ := hv
  have HV : Hid (SliceOf w (.slice ad l.length cap) l) := hvv
  clear hvv
  go_enter Tryd.func11, Tryd.ntmps11
  go_wp2_with (first | (at_make; refine wpList_make_full _ rfl _ _ 22 rfl w.heap.size 52 i0 _ 6 Tryd.underlying22 hi hz0 hz1 .i64 .i64 _ _ (l.length + 8) rfl rfl (by go_num) (by go_num) (by rw [hz2]; omega) (by unfold maxLen; omega) (Nat.le_refl _) ?_; intro w1 hown1 hg1; rw [made_flat] at hown1; have hb1 : Below w.heap.size w w1 := (Below.refl _ w).grown hg1 (Nat.le_refl _) (fun k hk => by cases hk); have hs1 := HV.out.below hb1) | (refine wpList_copy_atoms rfl _ _ 22 22 rfl 52 Tryd.underlying22 sizeAtom w.heap.size w.heap.size (l.length + 8) (l.length + 8) _ rfl hown1 (by simp) _ rfl l hs1 (by omega) ?_; intro w2 hown2 hg2; clear hs1))
  have hb2 : Below w.heap.size w w2 := hb1.grown hg2 hb1.size (fun k hk => by cases hk; exact Nat.le_refl _)
  rw [lentTo_zero l _ rfl] at hown2
  clear hown1 hg1 hg2 hb1 HV hi hz0 hz1 hz2
  go_loopw [4] (fun i wr => ∃ j : Nat, j ≤ 8 ∧ i = .int .i64 ((l.length + j : Nat) : Int) ∧ wr.ownsRow w.heap.size 52 6 (.slice (some ⟨w.heap.size, 0, none⟩) (l.length + 8) (l.length + 8)) (l.length + 8) (flat (lentTo l j)) ∧ Below w.heap.size w wr) (fun i _ => l.length + 8 - (intOf i).toNat)
  case atStart => exact ⟨0, by omega, rfl, hown2, hb2⟩
  case round =>
    clear hown2 hb2
    obtain ⟨j, hj, rfl, hown, hbw⟩ := hrel
    by_cases hl : j < 8
    · have hlj := lentTo_length l j hj
      have hset := lentTo_set l j hl
      have HSET : Hid ((lentTo l j).set (l.length + j) bey = lentTo l (j + 1)) := hset
      clear hset
      generalize lentTo l j = L at *
      have hsz := hbw.size
      have q1 : ((l.length + j : Nat) : Int) < ((l.length + 8 : Nat) : Int) := by omega
      generalize hm : l.length + j = m at *
      have hmL : m < L.length := by omega
      have HM : Hid (l.length + j = m) := hm
      clear hm
      go_wp2_with fail
      refine (beyond_any _).mono ?_
      rintro e w3 ⟨rfl, hb3⟩
      have hown3 := owns_below hown hb3
      have hbw3 : Below w.heap.size w w3 := hbw.trans (hb3.mono hsz)
      obtain ⟨⟨c0, c1, c2, c3, c4, c5⟩, hf⟩ := owns_cells hown3 hlj.symm m hmL
      have hst := owns_store hown3 hlj.symm m hmL bey
      have hgr := grown_setCells (g := w.heap.size) (enc bey) (m * 6) w3
      have HST : Hid ((w3.setCells w.heap.size (m * 6) (enc bey)).ownsRow w.heap.size 52 6 (.slice (some ⟨w.heap.size, 0, none⟩) (l.length + 8) (l.length + 8)) (l.length + 8) (flat (L.set m bey))) := hst
      have HGR : Hid (Below w.heap.size w (w3.setCells w.heap.size (m * 6) (enc bey))) := hbw3.grown hgr hbw3.size (fun k hk => by cases hk; exact Nat.le_refl _)
      clear hst hgr hown hbw hb3 hown3
      generalize nth L m = y at *
      go_wp2
      exact ⟨⟨j + 1, by omega, congrArg (Value.int IntKind.i64) (by have := HM.out; omega), by rw [← HSET.out]; exact HST, HGR⟩, by simp [intOf]; have := HM.out; omega⟩
    · obtain rfl : j = 8 := by omega
      rw [lentTo_done] at hown
      have q1 : ¬ ((l.length + 8 : Nat) : Int) < ((l.length + 8 : Nat) : Int) := by omega
      go_wp2
      go_ret
      exact ⟨w.heap.size, rfl, hown, hbw⟩
end Go.Proofs.YtahdlejgjcjeoaaDoor
