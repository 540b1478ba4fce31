/- Walk of the program's parse. -/
import Derived.Test.YtahdlejgjcjeoaaDoorDecW
import Derived.Test.YtahdlejgjcjeoaaDoorStTellW
import Derived.Test.YtahdlejgjcjeoaaDoorRefMay
namespace Go.Proofs.YtahdlejgjcjeoaaDoor
open Go.RowKit

/-- How many bytes the reader has left. -/
def leftAt (w : World) (rb : Nat) : Nat := match w.cell? ⟨rb, 0, none⟩ with | some (.string s) => s.size | _ => 0
theorem leftAt_eq {w : World} {rb : Nat} {l : List UInt8} (h : RdAt w rb l) : leftAt w rb = l.length := by
  unfold leftAt
  rw [h.1]
  exact bstr_size l
theorem RdAt.grown {w w' : World} {rb : Nat} {l : List UInt8} {row : Option Nat} (h : RdAt w rb l) (hg : w.grownBy w' row) (hne : some rb ≠ row) : RdAt w' rb l := h.of_block (hg.block rb h.lt hne)

set_option maxRecDepth 100000 in
set_option maxHeartbeats 2000000 in
theorem parse_any (l : List UInt8) (w : World) (hl : l.length ≤ 33554432) :
    Calls Tryd.prog 65 #[.string (bstr l)] w fun e w' => ∃ v, e = .returned v ∧ w'.ownsRow w.heap.size 52 6 v (parse (l.drop 8)).length (flat (parse (l.drop 8))) ∧ Below w.heap.size w w' := by
  obtain ⟨i0, hi, hz0, hz1, hz2⟩ := info_parts infoAtom
  have hc := fun W h => take_any w.heap.size l 8 W h (by omega) (by omega)
  have hpl := parse_length (l.drop 8)
  have hld : (l.drop 8).length ≤ 33554432 := by rw [List.length_drop]; omega
  generalize l.drop 8 = l8 at *
  go_enter Tryd.func65, Tryd.ntmps65
  go_wp2_with fail
  have hR0 : RdAt (w.alloc (.cells #[.string (bstr l)] 153)) w.heap.size l := ⟨by simp, by simp⟩
  have hg0 := below_alloc (Below.refl _ w) (.cells #[.string (bstr l)] 153)
  refine (show Calls Tryd.prog 106 #[.pointer (some ⟨w.heap.size, 0, none⟩), .int .i64 8] (w.alloc (.cells #[.string (bstr l)] 153)) _ from hc _ hR0).mono ?_
  rintro e w1 ⟨rfl, hrd, hg⟩
  have hb1 : Below w.heap.size w w1 := hg0.grown hg (by simp) (fun k hk => by cases hk; exact Nat.le_refl _)
  have hz1' : w.heap.size < w1.heap.size := hrd.out.lt
  clear hc hR0 hg0 hg
  go_wp2
  have HP : Hid (∀ m : List UInt8, m ≠ [] → parse m = (rdAtom m).1 :: parse (rdAtom m).2) := parse_cons
  go_loopw [4] (fun v wr => ∃ (rest : List UInt8) (done : List At), Hid (RdAt wr w.heap.size rest) ∧ wr.ownsRow (w.heap.size + 1) 52 6 v done.length (flat done) ∧ Hid (done ++ parse rest = parse l8) ∧ rest.length ≤ 33554432 ∧ Below w.heap.size w wr) (fun _ wr => leftAt wr w.heap.size)
  case atStart => exact ⟨l8, [], hrd, by simp [flat, World.ownsRow], rfl, hld, hb1⟩
  case round =>
    obtain ⟨rest, done, hR, hown, hE, hrl, hbr⟩ := hrel
    have c0 := hR.out.1
    have hlr := hR.out.lt
    have hleft := leftAt_eq hR.out
    by_cases hne : rest = []
    · subst hne
      have hfin : wr.ownsRow w.heap.size 52 6 u4 (parse l8).length (flat (parse l8)) := by
        have := hE.out
        rw [show parse [] = [] from rfl, List.append_nil] at this
        rw [← this]
        exact owns_mono hown (by omega)
      have hb0 : bstr [] = ⟨#[]⟩ := rfl
      rw [hb0] at c0
      clear hown hE hR
      go_wp2
      go_ret
      exact ⟨_, rfl, hfin, hbr⟩
    · have hb0 : (bstr rest).toList.isEmpty = false := by rw [isEmpty_size', bstr_size]; exact fun e => hne (List.length_eq_zero_iff.1 e)
      have hca := atom_any w.heap.size rest wr hR.out (by omega)
      have hpc := HP.out rest hne
      have hless := rdAtom_less rest
      have hpos : 0 < rest.length := List.length_pos_iff.2 hne
      have hdl : done.length ≤ 4194304 := by
        have := congrArg List.length hE.out
        rw [List.length_append] at this
        omega
      have HE2 : Hid ((done ++ [(rdAtom rest).1]) ++ parse (rdAtom rest).2 = parse l8) := by
        have := hE.out
        rw [hpc] at this
        rw [Hid, List.append_assoc]
        exact this
      generalize (rdAtom rest).1 = a at *
      generalize (rdAtom rest).2 = r2 at *
      clear hpc hE
      have HLE : Hid (leftAt wr w.heap.size = rest.length) := hleft
      clear hleft
      unfold At.val at hca
      go_wp2_with fail
      refine hca.mono ?_
      rintro e w2 ⟨rfl, hR2, hg2⟩
      have hown2 := owns_grown hown hg2 (Nat.lt_succ_self _)
      have hbr2 : Below w.heap.size w w2 := hbr.grown hg2 hbr.size (fun k hk => by cases hk; exact Nat.le_refl _)
      have hz2' := hR2.out.lt
      have hft := flat_snoc done a
      have HF : Hid (flat (done ++ [a]) = flat done ++ enc a) := hft
      clear hca hown hg2 hft hb0 c0
      go_wp2_with (at_builtin; refine wpList_append_lies _ rfl _ _ 22 rfl (w.heap.size + 1) 52 i0 _ 6 64 Tryd.underlying22 hi hz0 hz1 hz2 rfl (by decide) _ done.length _ rfl (hown2.alloc _) ⟨w2.heap.size, 0, none⟩ 1 1 (enc a) rfl rfl (news_at w2 a _) (enc_oneCell a) (by decide) (by unfold maxLen; omega) (by omega) (by simp; omega) (w2.heap.size + 1) (by simp) ?_; intro g capn w3 hown3 hgrow3 hat3 hlt3)
      have hR3 : RdAt w3 w.heap.size r2 := (hR2.out.alloc _).grown hgrow3 (ne_own hown2 _ (Nat.lt_succ_self _))
      have hl3 := leftAt_eq hR3
      go_roundw
      case rel => exact ⟨r2, done ++ [a], hR3, by rw [HF.out, List.length_append]; exact hown3, HE2, by omega, (below_alloc hbr2 _).grown hgrow3 (by simp; omega) (fun q hq => by have := owns_base hown2 q hq; omega)⟩
      case measure => rw [hl3, HLE.out]; omega
end Go.Proofs.YtahdlejgjcjeoaaDoor
