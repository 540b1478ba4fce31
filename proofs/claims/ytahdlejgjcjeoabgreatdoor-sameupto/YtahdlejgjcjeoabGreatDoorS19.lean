/- The program's cluster: asked of a replica that is not there; of one that is up. -/
import Derived.Test.YtahdlejgjcjeoabGreatDoorS15
import Derived.Test.YtahdlejgjcjeoabGreatDoorS13
import Derived.Test.YtahdlejgjcjeoabGreatDoorS01
import Derived.Test.YtahdlejgjcjeoabGreatDoorS03
import Derived.Test.YtahdlejgjcjeoabGreatDoorS18
import Derived.Test.YtahdlejgjcjeoabGreatDoorS14
import Derived.Test.YtahdlejgjcjeoabGreatDoorS06
import Derived.Test.YtahdlejgjcjeoabGreatDoorS05
namespace Go.Proofs.YtahdlejgjcjeoabGreatDoor
open Go.RowKit

/-- How many bytes the reader has left. -/
def leftAt (w : World) (rb : Nat) : Nat := match w.cell? ⟨rb, 0, none⟩ with | some (.string s) => s.size | _ => 0
theorem leftAt_eq {w : World} {rb : Nat} {l : List UInt8} (h : RdAt w rb l) : leftAt w rb = l.length := by
  unfold leftAt
  rw [h.1]
  exact bstr_size l
theorem RdAt.grown {w w' : World} {rb : Nat} {l : List UInt8} {row : Option Nat} (h : RdAt w rb l) (hg : w.grownBy w' row) (hne : some rb ≠ row) : RdAt w' rb l := h.of_block (hg.block rb h.lt hne)

set_option maxRecDepth 100000 in
set_option maxHeartbeats 2000000 in
theorem parse_any (l : List UInt8) (w : World) (hl : l.length ≤ 33554432) :
    Calls Tryz.prog 196 #[.string (bstr l)] w fun e w' => ∃ v, e = .returned v ∧ w'.ownsRow w.heap.size 76 6 v (parse (l.drop 8)).length (flat (parse (l.drop 8))) ∧ Below w.heap.size w w' := by
  obtain ⟨i0, hi, hz0, hz1, hz2⟩ := info_parts infoAtom
  have hc := fun W h => take_any w.heap.size l 8 W h (by omega) (by omega)
  have hpl := parse_length (l.drop 8)
  have hld : (l.drop 8).length ≤ 33554432 := by rw [List.length_drop]; omega
  generalize l.drop 8 = l8 at *
  go_enter Tryz.func196, Tryz.ntmps196
  go_wp2_with fail
  have hR0 : RdAt (w.alloc (.cells #[.string (bstr l)] 229)) w.heap.size l := ⟨by simp, by simp⟩
  have hg0 := below_alloc (Below.refl _ w) (.cells #[.string (bstr l)] 229)
  refine (show Calls Tryz.prog 164 #[.pointer (some ⟨w.heap.size, 0, none⟩), .int .i64 8] (w.alloc (.cells #[.string (bstr l)] 229)) _ from hc _ hR0).mono ?_
  rintro e w1 ⟨rfl, hrd, hg⟩
  have hb1 : Below w.heap.size w w1 := hg0.grown hg (by simp) (fun k hk => by cases hk; exact Nat.le_refl _)
  have hz1' : w.heap.size < w1.heap.size := hrd.out.lt
  clear hc hR0 hg0 hg
  go_wp2
  have HP : Hid (∀ m : List UInt8, m ≠ [] → parse m = (rdAtom m).1 :: parse (rdAtom m).2) := parse_cons
  go_loopw [4] (fun v wr => ∃ (rest : List UInt8) (done : List At), Hid (RdAt wr w.heap.size rest) ∧ wr.ownsRow (w.heap.size + 1) 76 6 v done.length (flat done) ∧ Hid (done ++ parse rest = parse l8) ∧ rest.length ≤ 33554432 ∧ Below w.heap.size w wr) (fun _ wr => leftAt wr w.heap.size)
  case atStart => exact ⟨l8, [], hrd, by simp [flat, World.ownsRow], rfl, hld, hb1⟩
  case round =>
    obtain ⟨rest, done, hR, hown, hE, hrl, hbr⟩ := hrel
    have c0 := hR.out.1
    have hlr := hR.out.lt
    have hleft := leftAt_eq hR.out
    by_cases hne : rest = []
    · subst hne
      have hfin : wr.ownsRow w.heap.size 76 6 u4 (parse l8).length (flat (parse l8)) := by
        have := hE.out
        rw [show parse [] = [] from rfl, List.append_nil] at this
        rw [← this]
        exact owns_mono hown (by omega)
      have hb0 : bstr [] = ⟨#[]⟩ := rfl
      rw [hb0] at c0
      clear hown hE hR
      go_wp2
      go_ret
      exact ⟨_, rfl, hfin, hbr⟩
    · have hb0 : (bstr rest).toList.isEmpty = false := by rw [isEmpty_size', bstr_size]; exact fun e => hne (List.length_eq_zero_iff.1 e)
      have hca := atom_any w.heap.size rest wr hR.out (by omega)
      have hpc := HP.out rest hne
      have hless := rdAtom_less rest
      have hpos : 0 < rest.length := List.length_pos_iff.2 hne
      have hdl : done.length ≤ 4194304 := by
        have := congrArg List.length hE.out
        rw [List.length_append] at this
        omega
      have HE2 : Hid ((done ++ [(rdAtom rest).1]) ++ parse (rdAtom rest).2 = parse l8) := by
        have := hE.out
        rw [hpc] at this
        rw [Hid, List.append_assoc]
        exact this
      generalize (rdAtom rest).1 = a at *
      generalize (rdAtom rest).2 = r2 at *
      clear hpc hE
      have HLE : Hid (leftAt wr w.heap.size = rest.length) := hleft
      clear hleft
      unfold At.val at hca
      go_wp2_with fail
      refine hca.mono ?_
      rintro e w2 ⟨rfl, hR2, hg2⟩
      have hown2 := owns_grown hown hg2 (Nat.lt_succ_self _)
      have hbr2 : Below w.heap.size w w2 := hbr.grown hg2 hbr.size (fun k hk => by cases hk; exact Nat.le_refl _)
      have hz2' := hR2.out.lt
      have hft := flat_snoc done a
      have HF : Hid (flat (done ++ [a]) = flat done ++ enc a) := hft
      clear hca hown hg2 hft hb0 c0
      go_wp2_with (at_builtin; refine wpList_append_lies _ rfl _ _ 53 rfl (w.heap.size + 1) 76 i0 _ 6 64 Tryz.underlying53 hi hz0 hz1 hz2 rfl (by decide) _ done.length _ rfl (hown2.alloc _) ⟨w2.heap.size, 0, none⟩ 1 1 (enc a) rfl rfl (news_at w2 a _) (enc_oneCell a) (by decide) (by unfold maxLen; omega) (by omega) (by simp; omega) (w2.heap.size + 1) (by simp) ?_; intro g capn w3 hown3 hgrow3 hat3 hlt3)
      have hR3 : RdAt w3 w.heap.size r2 := (hR2.out.alloc _).grown hgrow3 (ne_own hown2 _ (Nat.lt_succ_self _))
      have hl3 := leftAt_eq hR3
      go_roundw
      case rel => exact ⟨r2, done ++ [a], hR3, by rw [HF.out, List.length_append]; exact hown3, HE2, by omega, (below_alloc hbr2 _).grown hgrow3 (by simp; omega) (fun q hq => by have := owns_base hown2 q hq; omega)⟩
      case measure => rw [hl3, HLE.out]; omega
end Go.Proofs.YtahdlejgjcjeoabGreatDoor

namespace Go.Proofs.YtahdlejgjcjeoabGreatDoor
open Go.RowKit

theorem str_ne {a b : ByteArray} (h : a ≠ b) : (a.toList == b.toList) = false := by
  rw [beq_eq_false_iff_ne, Go.Lib.toList_data, Go.Lib.toList_data]
  exact fun e => h (ByteArray.ext (Array.toList_inj.1 e))

set_option maxRecDepth 100000 in
set_option maxHeartbeats 1000000 in
theorem decode_ok (l : List UInt8) (t : List At) (w : World) (hr : RulesAt w) (hg : Good l t) (hl : l.length ≤ 33554432) :
    Calls Tryz.prog 163 #[.string (bstr l)] w fun e w' => ∃ v, e = .returned (.tuple #[v, .int .i64 0]) ∧ w'.ownsRow w.heap.size 76 6 v t.length (flat t) ∧ Below w.heap.size w w' := by
  have hc := parse_any l w hl
  have hpl := parse_length (l.drop 8)
  have hsh := parse_short (l.drop 8)
  rw [hg.parse] at hc hpl hsh
  rw [List.length_drop] at hpl
  have HG : Hid (Good l t) := hg
  have HSH : Hid (∀ a ∈ t, short a) := hsh
  have HR : Hid (RulesAt w) := hr
  clear hr hg hsh
  go_enter Tryz.func163, Tryz.ntmps163
  go_wp2_with fail
  refine hc.mono ?_
  rintro e w1 ⟨v1, rfl, hown, hb1⟩
  have hce := encode_yes v1 t w1 (HR.out.below hb1 HR.out.1) (sliceOf_owns rfl hown) HSH.out (by omega) (List.all_eq_true.2 HG.out.2.1)
  clear hc
  go_wp2_with fail
  refine hce.mono ?_
  rintro e w2 ⟨out, rfl, ht, hb2⟩
  have heq : out = t := ht.out.unique HG.out.2.1 HG.out.1
  subst heq
  rw [← HG.out.2.2]
  have hbw2 : Below w.heap.size w w2 := hb1.trans (hb2.mono hb1.size)
  have hfin := owns_below hown hb2
  clear hce hown hb1 hb2 ht
  go_wp2
  go_ret2
  exact ⟨v1, rfl, hfin, hbw2⟩

set_option maxRecDepth 100000 in
set_option maxHeartbeats 1000000 in
theorem decode_bad (l : List UInt8) (w : World) (hr : RulesAt w) (hg : ∀ t, ¬ Good l t) (hl : l.length ≤ 33554432) :
    Calls Tryz.prog 163 #[.string (bstr l)] w fun e w' => e = .returned (.tuple #[.slice none 0 0, .int .i64 3]) ∧ Below w.heap.size w w' := by
  have hc := parse_any l w hl
  have hpl := parse_length (l.drop 8)
  have hsh := parse_short (l.drop 8)
  rw [List.length_drop] at hpl
  generalize parse (l.drop 8) = t at *
  have HG : Hid (∀ t, ¬ Good l t) := hg
  have HSH : Hid (∀ a ∈ t, short a) := hsh
  have HR : Hid (RulesAt w) := hr
  clear hr hg hsh
  go_enter Tryz.func163, Tryz.ntmps163
  go_wp2_with fail
  refine hc.mono ?_
  rintro e w1 ⟨v1, rfl, hown, hb1⟩
  cases hall : t.all mayB
  · have hce := encode_no v1 t w1 (HR.out.below hb1 HR.out.1) (sliceOf_owns rfl hown) HSH.out (by omega) hall
    clear hc hall hown
    go_wp2_with fail
    refine hce.mono ?_
    rintro e w2 ⟨rfl, hb2⟩
    have hbw2 : Below w.heap.size w w2 := hb1.trans (hb2.mono hb1.size)
    clear hce hb1 hb2
    generalize bstr [] = e0 at *
    generalize bstr l = sl at *
    go_wp2
    all_goals go_ret2
    all_goals exact ⟨rfl, hbw2⟩
  · have hce := encode_yes v1 t w1 (HR.out.below hb1 HR.out.1) (sliceOf_owns rfl hown) HSH.out (by omega) hall
    have HA : Hid (∀ a ∈ t, mayB a = true) := List.all_eq_true.1 hall
    clear hc hall hown
    go_wp2_with fail
    refine hce.mono ?_
    rintro e w2 ⟨out, rfl, ht, hb2⟩
    have hbw2 : Below w.heap.size w w2 := hb1.trans (hb2.mono hb1.size)
    have hne : bstr (be out.length 8 ++ encL out) ≠ bstr l := fun e => HG.out out (good_of HA.out ht.out (by have := congrArg (fun s => s.data.toList) e; exact this.symm))
    have hne2 := str_ne hne
    clear hce hb1 hb2 ht
    generalize bstr (be out.length 8 ++ encL out) = e0 at *
    generalize bstr l = sl at *
    go_wp2
    go_ret2
    exact ⟨rfl, hbw2⟩
end Go.Proofs.YtahdlejgjcjeoabGreatDoor

namespace Go.Proofs.YtahdlejgjcjeoabGreatDoor
open Go.RowKit

/-- What a log's first bytes seem to be. -/
def fKind (l : List UInt8) : Nat := num (l.take 1)
def fNum (l : List UInt8) : Nat := num ((l.drop 1).take 8)
def fBody (l : List UInt8) : List UInt8 := (l.drop 17).take (num ((l.drop 9).take 8))
structure FirstOk (l : List UInt8) : Prop where
  len : l.length ≤ 35184372088832
  num : fNum l < 4611686018427387904
  ln : Go.Proofs.YtahdlejgjcjeoabGreatDoor.num ((l.drop 9).take 8) < 4611686018427387904
  body : (fBody l).length ≤ 16777216

theorem good_len {l : List UInt8} {t : List At} (h : Good l t) (hl : l.length ≤ 16777216) : t.length ≤ 2097152 := by
  have hp := parse_length (l.drop 8)
  rw [h.parse, List.length_drop] at hp
  omega
theorem recBytes_le0 (k n : Nat) (l : List At) (h : ∀ a ∈ l, mayB a = true) : (recBytes ⟨k, n, l⟩).length ≤ 29 + 21 * l.length := by
  have ht := tell_told l
  have h1 := length_le_of_sub (sorted_ne ht.sorted) (fun x hx => (ht.great x hx).1)
  have h2 := encL_length (tell l) (fun x hx => fit2_of_may (h x (ht.great x hx).1))
  rw [recBytes_length]
  simp only [encS, List.length_append, be_length]
  omega
/-- The room of the answer, the reader behind it. -/
structure Fs (w W : World) : Prop where
  rs : W.heap[w.heap.size]? = some (.cells #[.int .i64 0, .int .i64 0, .slice none 0 0] 186 (0, 0))
  be : Below w.heap.size w W
  lt : w.heap.size + 1 < W.heap.size
theorem fs_start {w : World} {s : Value} (t u : TypeId) (ht : t = 186 := by rfl) : Fs w ((w.alloc (.cells #[.int .i64 0, .int .i64 0, .slice none 0 0] t)).alloc (.cells #[s] u)) := by
  subst ht
  refine ⟨?_, below_alloc (below_alloc (Below.refl _ w) _) _, by simp⟩
  rw [(below_alloc (Below.refl (w.alloc (.cells #[.int .i64 0, .int .i64 0, .slice none 0 0] 186)).heap.size _) _).block w.heap.size (by simp)]
  exact heap_alloc_new w _
theorem Fs.grown {w W W' : World} (h : Fs w W) (hg : W.grownBy W' (some (w.heap.size + 1))) : Fs w W' :=
  ⟨(hg.block _ (Nat.lt_of_succ_lt h.lt) (by simp)).trans h.rs, h.be.grown hg h.be.size (fun k hk => by cases hk; omega), Nat.lt_of_lt_of_le h.lt hg.size⟩
theorem Fs.below {w W W' : World} (h : Fs w W) (hb : Below W.heap.size W W') : Fs w W' :=
  ⟨(hb.block _ (Nat.lt_of_succ_lt h.lt)).trans h.rs, h.be.trans (hb.mono h.be.size), Nat.lt_of_lt_of_le h.lt hb.size⟩
theorem three_cells {w : World} {b : Nat} {x0 x1 x2 : Value} {e : TypeId} {fz : Nat × Nat} (h : w.heap[b]? = some (.cells #[x0, x1, x2] e fz)) : w.cell? ⟨b, 0, none⟩ = some x0 ∧ w.cell? ⟨b, 1, none⟩ = some x1 ∧ w.cell? ⟨b, 2, none⟩ = some x2 := by
  simp [World.cell?, h]

set_option maxRecDepth 100000 in
set_option maxHeartbeats 1000000 in
theorem first_no (l : List UInt8) (w : World) (hr : RulesAt w) (hf : FirstOk l) (hno : ∀ t, Good (fBody l) t → fKind l = 1 ∨ fKind l = 2 → ¬ recBytes ⟨fKind l, fNum l, t⟩ <+: l) :
    Calls Tryz.prog 119 #[.string (bstr l)] w fun e w' => Below w.heap.size w w' ∧ e = .returned (.tuple #[.agg #[.int .i64 0, .int .i64 0, .slice none 0 0], .int .i64 0]) := by
  obtain ⟨h1, h2, h3, h4⟩ := hf
  have hk : fKind l < 4611686018427387904 := Nat.lt_of_lt_of_le (num_le (l.take 1) 1 (by simp; omega)) (by decide)
  have HT : Hid (RulesAt w) := hr
  clear hr
  have HN1 : Hid (∀ W rb, RdAt W rb l → Calls Tryz.prog 162 #[.pointer (some ⟨rb, 0, none⟩), .int .i64 1] W fun e w' => e = .returned (.int .i64 (fKind l)) ∧ Hid (RdAt w' rb (l.drop 1)) ∧ W.grownBy w' (some rb)) := fun W rb h => number_big rb l 1 W h (by omega) (by omega) hk
  have HN2 : Hid (∀ W rb, RdAt W rb (l.drop 1) → Calls Tryz.prog 162 #[.pointer (some ⟨rb, 0, none⟩), .int .i64 8] W fun e w' => e = .returned (.int .i64 (fNum l)) ∧ Hid (RdAt w' rb (l.drop 9)) ∧ W.grownBy w' (some rb)) := fun W rb h => by
    have := number_big rb (l.drop 1) 8 W h (by rw [List.length_drop]; omega) (by omega) h2
    rw [List.drop_drop] at this
    exact this
  have HN3 : Hid (∀ W rb, RdAt W rb (l.drop 9) → Calls Tryz.prog 162 #[.pointer (some ⟨rb, 0, none⟩), .int .i64 8] W fun e w' => e = .returned (.int .i64 (num ((l.drop 9).take 8))) ∧ Hid (RdAt w' rb (l.drop 17)) ∧ W.grownBy w' (some rb)) := fun W rb h => by
    have := number_big rb (l.drop 9) 8 W h (by rw [List.length_drop]; omega) (by omega) h3
    rw [List.drop_drop] at this
    exact this
  have HTK : Hid (∀ W rb, RdAt W rb (l.drop 17) → Calls Tryz.prog 164 #[.pointer (some ⟨rb, 0, none⟩), .int .i64 (num ((l.drop 9).take 8))] W fun e w' => e = .returned (.string (bstr (fBody l))) ∧ W.grownBy w' (some rb)) := fun W rb h => by
    refine (take_big rb (l.drop 17) (num ((l.drop 9).take 8)) W h (by rw [List.length_drop]; omega) (by omega)).mono ?_
    rintro e w' ⟨rfl, _, hg⟩
    exact ⟨rfl, hg⟩
  generalize num ((l.drop 9).take 8) = ln at *
  by_cases hgood : ∃ t, Good (fBody l) t
  · obtain ⟨t, hg⟩ := hgood
    have HG := hid_of hg
    have HNO := hid_of (hno t hg)
    clear hno hg
    have HDC : Hid (∀ W, Below w.heap.size w W → Calls Tryz.prog 163 #[.string (bstr (fBody l))] W fun e w' => ∃ v, e = .returned (.tuple #[v, .int .i64 0]) ∧ w'.ownsRow W.heap.size 76 6 v t.length (flat t) ∧ Below W.heap.size W w') := fun W hW => decode_ok (fBody l) t W (HT.out.below hW HT.out.1) HG.out (by omega)
    by_cases hkd : fKind l = 1 ∨ fKind l = 2
    · have hnp := HNO.out hkd
      have hd : decide (recBytes ⟨fKind l, fNum l, t⟩ <+: l) = false := decide_eq_false hnp
      have hmay : ∀ a ∈ t, mayB a = true := HG.out.2.1
      have htl := good_len HG.out h4
      have HBY : Hid (∀ W v, Below w.heap.size w W → SliceOf W v t → Calls Tryz.prog 120 #[.agg #[.int .i64 (fKind l), .int .i64 (fNum l), v]] W fun e w' => ∃ v', e = .returned v' ∧ Hid (Buf W.heap.size w' v' (recBytes ⟨fKind l, fNum l, t⟩)) ∧ Below W.heap.size W w') := fun W v hW hs => prgBytes (fKind l) (fNum l) v t W (HT.out.below hW HT.out.1) hs hmay (by omega) (by omega) h2
      have hrl := recBytes_le0 (fKind l) (fNum l) t hmay
      have hrp : 0 < (recBytes ⟨fKind l, fNum l, t⟩).length := by rw [recBytes_length]; omega
      have HHP : Hid (∀ W, Calls Tryz.prog 165 #[.string (bstr l), .string (bstr (recBytes ⟨fKind l, fNum l, t⟩))] W fun e w' => e = .returned (.bool false) ∧ Below W.heap.size W w') := fun W => by
        have := hasPrefix l (recBytes ⟨fKind l, fNum l, t⟩) W (by omega) (by omega)
        rw [hd] at this
        exact this
      clear HNO hnp hd hmay HG
      have hk2 : (fKind l : Int) = 1 ∨ (fKind l : Int) = 2 := by omega
      generalize recBytes ⟨fKind l, fNum l, t⟩ = rb at *
      generalize fBody l = bd at *
      generalize fKind l = kd at *
      generalize fNum l = nm at *
      go_enter Tryz.func119, Tryz.ntmps119
      go_wp2_with fail
      have HF0 := hid_of (fs_start (w := w) (s := .string (bstr l)) 186 229)
      refine (HN1.out _ _ ⟨by simp, by simp⟩).mono ?_
      rintro e w1 ⟨rfl, hrd1, hg1⟩
      have HF1 := hid_of (HF0.out.grown hg1)
      clear HF0 hg1
      go_wp2_with fail
      refine (HN2.out _ _ hrd1.out).mono ?_
      rintro e w2 ⟨rfl, hrd2, hg2⟩
      have HF2 := hid_of (HF1.out.grown hg2)
      clear HF1 hg2 hrd1
      go_wp2_with fail
      refine (HN3.out _ _ hrd2.out).mono ?_
      rintro e w3 ⟨rfl, hrd3, hg3⟩
      have HF3 := hid_of (HF2.out.grown hg3)
      clear HF2 hg3 hrd2
      go_wp2_with fail
      refine (HTK.out _ _ hrd3.out).mono ?_
      rintro e w4 ⟨rfl, hg4⟩
      have HF4 := hid_of (HF3.out.grown hg4)
      clear HF3 hg4 hrd3 HN1 HN2 HN3 HTK
      go_wp2_with fail
      refine (HDC.out _ HF4.out.be).mono ?_
      rintro e w5 ⟨v5, rfl, hown5, hb5⟩
      have HF5 := hid_of (HF4.out.below hb5)
      have HS5 := hid_of (sliceOf_owns rfl hown5)
      have HO5 := hid_of (owns_mono hown5 (show w.heap.size + 1 ≤ w4.heap.size from Nat.le_of_lt HF4.out.lt))
      obtain ⟨ad5, cp5, hv5⟩ := own_form hown5
      subst hv5
      clear HF4 hb5 HDC hown5
      rcases hkd with rfl | rfl
      · have HB1 : Hid (∀ W v, Below w.heap.size w W → SliceOf W v t → Calls Tryz.prog 120 #[.agg #[.int .i64 1, .int .i64 nm, v]] W fun e w' => ∃ v', e = .returned v' ∧ Hid (Buf W.heap.size w' v' rb) ∧ Below W.heap.size W w') := HBY.out
        clear HBY
        go_wp2_with fail
        refine (HB1.out _ _ (below_alloc HF5.out.be _) (HS5.out.below (below_alloc (Below.refl _ _) _))).mono ?_
        rintro e w6 ⟨v6, rfl, hb6, hbw6⟩
        have HFX := hid_of ((HF5.out.below (below_alloc (Below.refl _ _) _)).below hbw6)
        obtain ⟨bb, cp6, hv6, hcv⟩ := buf_string hb6.out hrp
        subst hv6
        clear HF5 HS5 HO5 HB1 hbw6 hb6
        go_wp2_with fail
        refine (HHP.out _).mono ?_
        rintro e w7 ⟨rfl, hb7⟩
        have HFY := hid_of (HFX.out.below hb7)
        clear HFX hb7 HHP hcv
        obtain ⟨r0, r1, r2⟩ := three_cells HFY.out.rs
        have rf := blk_thaw HFY.out.rs
        have HBE := hid_of HFY.out.be
        clear HFY
        go_wp2
        refine bodyPost_ret (v := .tuple #[.agg #[.int .i64 0, .int .i64 0, .slice none 0 0], .int .i64 0]) (by simp [results, Tryz.results119, go_sem, r0, r1, r2]) rfl ⟨?_, rfl⟩
        repeat (with_reducible first | exact HBE.out | refine Below.drew ?_ | refine Below.setCell ?_ (by dsimp only; omega) _)
      · have HB1 : Hid (∀ W v, Below w.heap.size w W → SliceOf W v t → Calls Tryz.prog 120 #[.agg #[.int .i64 2, .int .i64 nm, v]] W fun e w' => ∃ v', e = .returned v' ∧ Hid (Buf W.heap.size w' v' rb) ∧ Below W.heap.size W w') := HBY.out
        clear HBY
        go_wp2_with fail
        refine (HB1.out _ _ (below_alloc HF5.out.be _) (HS5.out.below (below_alloc (Below.refl _ _) _))).mono ?_
        rintro e w6 ⟨v6, rfl, hb6, hbw6⟩
        have HFX := hid_of ((HF5.out.below (below_alloc (Below.refl _ _) _)).below hbw6)
        obtain ⟨bb, cp6, hv6, hcv⟩ := buf_string hb6.out hrp
        subst hv6
        clear HF5 HS5 HO5 HB1 hbw6 hb6
        go_wp2_with fail
        refine (HHP.out _).mono ?_
        rintro e w7 ⟨rfl, hb7⟩
        have HFY := hid_of (HFX.out.below hb7)
        clear HFX hb7 HHP hcv
        obtain ⟨r0, r1, r2⟩ := three_cells HFY.out.rs
        have rf := blk_thaw HFY.out.rs
        have HBE := hid_of HFY.out.be
        clear HFY
        go_wp2
        refine bodyPost_ret (v := .tuple #[.agg #[.int .i64 0, .int .i64 0, .slice none 0 0], .int .i64 0]) (by simp [results, Tryz.results119, go_sem, r0, r1, r2]) rfl ⟨?_, rfl⟩
        repeat (with_reducible first | exact HBE.out | refine Below.drew ?_ | refine Below.setCell ?_ (by dsimp only; omega) _)
    · have g1 : ((fKind l : Int) == 1) = false := by simp; omega
      have g2 : ((fKind l : Int) == 2) = false := by simp; omega
      have k1 : ¬ (fKind l : Int) = 1 := by omega
      have k2 : ¬ (fKind l : Int) = 2 := by omega
      have n1 : ¬ fKind l = 1 := fun e => hkd (.inl e)
      have n2 : ¬ fKind l = 2 := fun e => hkd (.inr e)
      have b1 : ((fKind l : Int) != 1) = true := by simp; omega
      have b2 : ((fKind l : Int) != 2) = true := by simp; omega
      clear HNO HG hkd
      generalize fBody l = bd at *
      generalize fKind l = kd at *
      generalize fNum l = nm at *
      go_enter Tryz.func119, Tryz.ntmps119
      go_wp2_with fail
      have HF0 := hid_of (fs_start (w := w) (s := .string (bstr l)) 186 229)
      refine (HN1.out _ _ ⟨by simp, by simp⟩).mono ?_
      rintro e w1 ⟨rfl, hrd1, hg1⟩
      have HF1 := hid_of (HF0.out.grown hg1)
      clear HF0 hg1
      go_wp2_with fail
      refine (HN2.out _ _ hrd1.out).mono ?_
      rintro e w2 ⟨rfl, hrd2, hg2⟩
      have HF2 := hid_of (HF1.out.grown hg2)
      clear HF1 hg2 hrd1
      go_wp2_with fail
      refine (HN3.out _ _ hrd2.out).mono ?_
      rintro e w3 ⟨rfl, hrd3, hg3⟩
      have HF3 := hid_of (HF2.out.grown hg3)
      clear HF2 hg3 hrd2
      go_wp2_with fail
      refine (HTK.out _ _ hrd3.out).mono ?_
      rintro e w4 ⟨rfl, hg4⟩
      have HF4 := hid_of (HF3.out.grown hg4)
      clear HF3 hg4 hrd3 HN1 HN2 HN3 HTK
      go_wp2_with fail
      refine (HDC.out _ HF4.out.be).mono ?_
      rintro e w5 ⟨v5, rfl, hown5, hb5⟩
      have HFX := hid_of (HF4.out.below hb5)
      have HS5 := hid_of (sliceOf_owns rfl hown5)
      have HO5 := hid_of (owns_mono hown5 (show w.heap.size + 1 ≤ w4.heap.size from Nat.le_of_lt HF4.out.lt))
      obtain ⟨ad5, cp5, hv5⟩ := own_form hown5
      subst hv5
      clear HF4 hb5 HDC hown5
      obtain ⟨r0, r1, r2⟩ := three_cells HFX.out.rs
      have rf := blk_thaw HFX.out.rs
      have HBE := hid_of HFX.out.be
      clear HFX
      go_wp2
      refine bodyPost_ret (v := .tuple #[.agg #[.int .i64 0, .int .i64 0, .slice none 0 0], .int .i64 0]) (by simp [results, Tryz.results119, go_sem, r0, r1, r2]) rfl ⟨?_, rfl⟩
      repeat (with_reducible first | exact HBE.out | refine Below.drew ?_ | refine Below.setCell ?_ (by dsimp only; omega) _)
  · have hbad : ∀ t, ¬ Good (fBody l) t := fun t h => hgood ⟨t, h⟩
    have HDC : Hid (∀ W, Below w.heap.size w W → Calls Tryz.prog 163 #[.string (bstr (fBody l))] W fun e w' => e = .returned (.tuple #[.slice none 0 0, .int .i64 3]) ∧ Below W.heap.size W w') := fun W hW => decode_bad (fBody l) W (HT.out.below hW HT.out.1) hbad (by omega)
    clear hgood hbad hno
    generalize fBody l = bd at *
    generalize fKind l = kd at *
    generalize fNum l = nm at *
    go_enter Tryz.func119, Tryz.ntmps119
    go_wp2_with fail
    have HF0 := hid_of (fs_start (w := w) (s := .string (bstr l)) 186 229)
    refine (HN1.out _ _ ⟨by simp, by simp⟩).mono ?_
    rintro e w1 ⟨rfl, hrd1, hg1⟩
    have HF1 := hid_of (HF0.out.grown hg1)
    clear HF0 hg1
    go_wp2_with fail
    refine (HN2.out _ _ hrd1.out).mono ?_
    rintro e w2 ⟨rfl, hrd2, hg2⟩
    have HF2 := hid_of (HF1.out.grown hg2)
    clear HF1 hg2 hrd1
    go_wp2_with fail
    refine (HN3.out _ _ hrd2.out).mono ?_
    rintro e w3 ⟨rfl, hrd3, hg3⟩
    have HF3 := hid_of (HF2.out.grown hg3)
    clear HF2 hg3 hrd2
    go_wp2_with fail
    refine (HTK.out _ _ hrd3.out).mono ?_
    rintro e w4 ⟨rfl, hg4⟩
    have HF4 := hid_of (HF3.out.grown hg4)
    clear HF3 hg4 hrd3 HN1 HN2 HN3 HTK
    go_wp2_with fail
    refine (HDC.out _ HF4.out.be).mono ?_
    rintro e w5 ⟨rfl, hb5⟩
    have HFX := hid_of (HF4.out.below hb5)
    clear HF4 hb5 HDC
    obtain ⟨r0, r1, r2⟩ := three_cells HFX.out.rs
    have rf := blk_thaw HFX.out.rs
    have HBE := hid_of HFX.out.be
    clear HFX
    go_wp2
    refine bodyPost_ret (v := .tuple #[.agg #[.int .i64 0, .int .i64 0, .slice none 0 0], .int .i64 0]) (by simp [results, Tryz.results119, go_sem, r0, r1, r2]) rfl ⟨?_, rfl⟩
    repeat (with_reducible first | exact HBE.out | refine Below.drew ?_ | refine Below.setCell ?_ (by dsimp only; omega) _)
set_option maxRecDepth 100000 in
set_option maxHeartbeats 1000000 in
theorem first_yes (l : List UInt8) (t : List At) (w : World) (hr : RulesAt w) (hf : FirstOk l) (hg : Good (fBody l) t) (hkd : fKind l = 1 ∨ fKind l = 2) (hpf : recBytes ⟨fKind l, fNum l, t⟩ <+: l) :
    Calls Tryz.prog 119 #[.string (bstr l)] w fun e w' => ∃ v, e = .returned (.tuple #[.agg #[.int .i64 (fKind l), .int .i64 (fNum l), v], .int .i64 (recBytes ⟨fKind l, fNum l, t⟩).length]) ∧ w'.ownsRow w.heap.size 76 6 v t.length (flat t) ∧ Below w.heap.size w w' := by
  obtain ⟨h1, h2, h3, h4⟩ := hf
  have hk : fKind l < 4611686018427387904 := Nat.lt_of_lt_of_le (num_le (l.take 1) 1 (by simp; omega)) (by decide)
  have HT : Hid (RulesAt w) := hr
  clear hr
  have HN1 : Hid (∀ W rb, RdAt W rb l → Calls Tryz.prog 162 #[.pointer (some ⟨rb, 0, none⟩), .int .i64 1] W fun e w' => e = .returned (.int .i64 (fKind l)) ∧ Hid (RdAt w' rb (l.drop 1)) ∧ W.grownBy w' (some rb)) := fun W rb h => number_big rb l 1 W h (by omega) (by omega) hk
  have HN2 : Hid (∀ W rb, RdAt W rb (l.drop 1) → Calls Tryz.prog 162 #[.pointer (some ⟨rb, 0, none⟩), .int .i64 8] W fun e w' => e = .returned (.int .i64 (fNum l)) ∧ Hid (RdAt w' rb (l.drop 9)) ∧ W.grownBy w' (some rb)) := fun W rb h => by
    have := number_big rb (l.drop 1) 8 W h (by rw [List.length_drop]; omega) (by omega) h2
    rw [List.drop_drop] at this
    exact this
  have HN3 : Hid (∀ W rb, RdAt W rb (l.drop 9) → Calls Tryz.prog 162 #[.pointer (some ⟨rb, 0, none⟩), .int .i64 8] W fun e w' => e = .returned (.int .i64 (num ((l.drop 9).take 8))) ∧ Hid (RdAt w' rb (l.drop 17)) ∧ W.grownBy w' (some rb)) := fun W rb h => by
    have := number_big rb (l.drop 9) 8 W h (by rw [List.length_drop]; omega) (by omega) h3
    rw [List.drop_drop] at this
    exact this
  have HTK : Hid (∀ W rb, RdAt W rb (l.drop 17) → Calls Tryz.prog 164 #[.pointer (some ⟨rb, 0, none⟩), .int .i64 (num ((l.drop 9).take 8))] W fun e w' => e = .returned (.string (bstr (fBody l))) ∧ W.grownBy w' (some rb)) := fun W rb h => by
    refine (take_big rb (l.drop 17) (num ((l.drop 9).take 8)) W h (by rw [List.length_drop]; omega) (by omega)).mono ?_
    rintro e w' ⟨rfl, _, hg⟩
    exact ⟨rfl, hg⟩
  generalize num ((l.drop 9).take 8) = ln at *
  have HG := hid_of hg
  clear hg
  have HDC : Hid (∀ W, Below w.heap.size w W → Calls Tryz.prog 163 #[.string (bstr (fBody l))] W fun e w' => ∃ v, e = .returned (.tuple #[v, .int .i64 0]) ∧ w'.ownsRow W.heap.size 76 6 v t.length (flat t) ∧ Below W.heap.size W w') := fun W hW => decode_ok (fBody l) t W (HT.out.below hW HT.out.1) HG.out (by omega)
  have hd : decide (recBytes ⟨fKind l, fNum l, t⟩ <+: l) = true := decide_eq_true hpf
  have hmay : ∀ a ∈ t, mayB a = true := HG.out.2.1
  have htl := good_len HG.out h4
  have HBY : Hid (∀ W v, Below w.heap.size w W → SliceOf W v t → Calls Tryz.prog 120 #[.agg #[.int .i64 (fKind l), .int .i64 (fNum l), v]] W fun e w' => ∃ v', e = .returned v' ∧ Hid (Buf W.heap.size w' v' (recBytes ⟨fKind l, fNum l, t⟩)) ∧ Below W.heap.size W w') := fun W v hW hs => prgBytes (fKind l) (fNum l) v t W (HT.out.below hW HT.out.1) hs hmay (by omega) (by omega) h2
  have hrl := recBytes_le0 (fKind l) (fNum l) t hmay
  have hrp : 0 < (recBytes ⟨fKind l, fNum l, t⟩).length := by rw [recBytes_length]; omega
  have HHP : Hid (∀ W, Calls Tryz.prog 165 #[.string (bstr l), .string (bstr (recBytes ⟨fKind l, fNum l, t⟩))] W fun e w' => e = .returned (.bool true) ∧ Below W.heap.size W w') := fun W => by
    have := hasPrefix l (recBytes ⟨fKind l, fNum l, t⟩) W (by omega) (by omega)
    rw [hd] at this
    exact this
  clear hpf hd hmay HG
  have hk2 : (fKind l : Int) = 1 ∨ (fKind l : Int) = 2 := by omega
  generalize recBytes ⟨fKind l, fNum l, t⟩ = rb at *
  generalize fBody l = bd at *
  generalize fKind l = kd at *
  generalize fNum l = nm at *
  go_enter Tryz.func119, Tryz.ntmps119
  go_wp2_with fail
  have HF0 := hid_of (fs_start (w := w) (s := .string (bstr l)) 186 229)
  refine (HN1.out _ _ ⟨by simp, by simp⟩).mono ?_
  rintro e w1 ⟨rfl, hrd1, hg1⟩
  have HF1 := hid_of (HF0.out.grown hg1)
  clear HF0 hg1
  go_wp2_with fail
  refine (HN2.out _ _ hrd1.out).mono ?_
  rintro e w2 ⟨rfl, hrd2, hg2⟩
  have HF2 := hid_of (HF1.out.grown hg2)
  clear HF1 hg2 hrd1
  go_wp2_with fail
  refine (HN3.out _ _ hrd2.out).mono ?_
  rintro e w3 ⟨rfl, hrd3, hg3⟩
  have HF3 := hid_of (HF2.out.grown hg3)
  clear HF2 hg3 hrd2
  go_wp2_with fail
  refine (HTK.out _ _ hrd3.out).mono ?_
  rintro e w4 ⟨rfl, hg4⟩
  have HF4 := hid_of (HF3.out.grown hg4)
  clear HF3 hg4 hrd3 HN1 HN2 HN3 HTK
  go_wp2_with fail
  refine (HDC.out _ HF4.out.be).mono ?_
  rintro e w5 ⟨v5, rfl, hown5, hb5⟩
  have HF5 := hid_of (HF4.out.below hb5)
  have HS5 := hid_of (sliceOf_owns rfl hown5)
  have HO5 := hid_of (owns_mono hown5 (show w.heap.size + 1 ≤ w4.heap.size from Nat.le_of_lt HF4.out.lt))
  obtain ⟨ad5, cp5, hv5⟩ := own_form hown5
  subst hv5
  clear HF4 hb5 HDC hown5
  rcases hkd with rfl | rfl
  · have HB1 : Hid (∀ W v, Below w.heap.size w W → SliceOf W v t → Calls Tryz.prog 120 #[.agg #[.int .i64 1, .int .i64 nm, v]] W fun e w' => ∃ v', e = .returned v' ∧ Hid (Buf W.heap.size w' v' rb) ∧ Below W.heap.size W w') := HBY.out
    clear HBY
    go_wp2_with fail
    refine (HB1.out _ _ (below_alloc HF5.out.be _) (HS5.out.below (below_alloc (Below.refl _ _) _))).mono ?_
    rintro e w6 ⟨v6, rfl, hb6, hbw6⟩
    have HFX := hid_of ((HF5.out.below (below_alloc (Below.refl _ _) _)).below hbw6)
    obtain ⟨bb, cp6, hv6, hcv⟩ := buf_string hb6.out hrp
    subst hv6
    have HO6 := hid_of (owns_below (owns_below HO5.out (below_alloc (Below.refl _ _) _)) hbw6)
    have s0 := (hbw6.cell (p := ⟨w5.heap.size, 0, none⟩) (by simp)).trans (by simp : _ = some (Value.int .i64 1))
    have s1 := (hbw6.cell (p := ⟨w5.heap.size, 1, none⟩) (by simp)).trans (by simp : _ = some (Value.int .i64 nm))
    have s2 := (hbw6.cell (p := ⟨w5.heap.size, 2, none⟩) (by simp)).trans (by simp : _ = some (Value.slice ad5 t.length cp5))
    have hs56 : w5.heap.size < w6.heap.size := by have := hbw6.size; simp at this; omega
    have hw5 : w.heap.size ≠ w5.heap.size := by have := HF5.out.lt; omega
    clear HF5 HS5 HO5 HB1 hbw6 hb6
    go_wp2_with fail
    refine (HHP.out _).mono ?_
    rintro e w7 ⟨rfl, hb7⟩
    have HFY := hid_of (HFX.out.below hb7)
    have HO7 := hid_of (owns_below HO6.out hb7)
    have t0 := (hb7.cell (p := ⟨w5.heap.size, 0, none⟩) hs56).trans s0
    have t1 := (hb7.cell (p := ⟨w5.heap.size, 1, none⟩) hs56).trans s1
    have t2 := (hb7.cell (p := ⟨w5.heap.size, 2, none⟩) hs56).trans s2
    obtain ⟨r0, r1, r2⟩ := three_cells HFY.out.rs
    have rf := blk_thaw HFY.out.rs
    have HBE := hid_of HFY.out.be
    have hrs := bstr_size rb
    clear HFX HFY hb7 HHP hcv HO6 s0 s1 s2
    go_wp2
    refine bodyPost_ret (v := .tuple #[.agg #[.int .i64 1, .int .i64 nm, .slice ad5 t.length cp5], .int .i64 rb.length]) (by simp [results, Tryz.results119, go_sem, r0, r1, r2]) rfl ⟨_, rfl, ?_, ?_⟩
    · refine owns_mono (base := w.heap.size + 1) ?_ (by omega)
      repeat (with_reducible first | exact HO7.out | refine owns_put ?_ (by omega))
    · repeat (with_reducible first | exact HBE.out | refine Below.drew ?_ | refine Below.setCell ?_ (by dsimp only; omega) _)
  · have HB1 : Hid (∀ W v, Below w.heap.size w W → SliceOf W v t → Calls Tryz.prog 120 #[.agg #[.int .i64 2, .int .i64 nm, v]] W fun e w' => ∃ v', e = .returned v' ∧ Hid (Buf W.heap.size w' v' rb) ∧ Below W.heap.size W w') := HBY.out
    clear HBY
    go_wp2_with fail
    refine (HB1.out _ _ (below_alloc HF5.out.be _) (HS5.out.below (below_alloc (Below.refl _ _) _))).mono ?_
    rintro e w6 ⟨v6, rfl, hb6, hbw6⟩
    have HFX := hid_of ((HF5.out.below (below_alloc (Below.refl _ _) _)).below hbw6)
    obtain ⟨bb, cp6, hv6, hcv⟩ := buf_string hb6.out hrp
    subst hv6
    have HO6 := hid_of (owns_below (owns_below HO5.out (below_alloc (Below.refl _ _) _)) hbw6)
    have s0 := (hbw6.cell (p := ⟨w5.heap.size, 0, none⟩) (by simp)).trans (by simp : _ = some (Value.int .i64 2))
    have s1 := (hbw6.cell (p := ⟨w5.heap.size, 1, none⟩) (by simp)).trans (by simp : _ = some (Value.int .i64 nm))
    have s2 := (hbw6.cell (p := ⟨w5.heap.size, 2, none⟩) (by simp)).trans (by simp : _ = some (Value.slice ad5 t.length cp5))
    have hs56 : w5.heap.size < w6.heap.size := by have := hbw6.size; simp at this; omega
    have hw5 : w.heap.size ≠ w5.heap.size := by have := HF5.out.lt; omega
    clear HF5 HS5 HO5 HB1 hbw6 hb6
    go_wp2_with fail
    refine (HHP.out _).mono ?_
    rintro e w7 ⟨rfl, hb7⟩
    have HFY := hid_of (HFX.out.below hb7)
    have HO7 := hid_of (owns_below HO6.out hb7)
    have t0 := (hb7.cell (p := ⟨w5.heap.size, 0, none⟩) hs56).trans s0
    have t1 := (hb7.cell (p := ⟨w5.heap.size, 1, none⟩) hs56).trans s1
    have t2 := (hb7.cell (p := ⟨w5.heap.size, 2, none⟩) hs56).trans s2
    obtain ⟨r0, r1, r2⟩ := three_cells HFY.out.rs
    have rf := blk_thaw HFY.out.rs
    have HBE := hid_of HFY.out.be
    have hrs := bstr_size rb
    clear HFX HFY hb7 HHP hcv HO6 s0 s1 s2
    go_wp2
    refine bodyPost_ret (v := .tuple #[.agg #[.int .i64 2, .int .i64 nm, .slice ad5 t.length cp5], .int .i64 rb.length]) (by simp [results, Tryz.results119, go_sem, r0, r1, r2]) rfl ⟨_, rfl, ?_, ?_⟩
    · refine owns_mono (base := w.heap.size + 1) ?_ (by omega)
      repeat (with_reducible first | exact HO7.out | refine owns_put ?_ (by omega))
    · repeat (with_reducible first | exact HBE.out | refine Below.drew ?_ | refine Below.setCell ?_ (by dsimp only; omega) _)
end Go.Proofs.YtahdlejgjcjeoabGreatDoor

namespace Go.Proofs.YtahdlejgjcjeoabGreatDoor
open Go.RowKit Go.MuLone

set_option maxRecDepth 100000 in
theorem prgState_no (x R n cap : Nat) (r : Int) (w : World) (h : ClAt w x R n cap) (hr : ¬ (0 ≤ r ∧ r < n)) :
    Calls Tryz.prog 50 #[.pointer (some ⟨x, 0, none⟩), .int .i64 r] w fun e w' => e = .returned (.tuple #[.slice none 0 0, .int .i64 5]) ∧ Below w.heap.size w w' := by
  have k41 := h.l41
  go_enter_defers Tryz.func50, Tryz.ntmps50
  go_wp2_with (go_at_call 44; refine (lock_free muLib ⟨x, 0, none⟩ _ h.c0 h.f0).mono ?_; rintro e w' ⟨rfl, rfl⟩)
  refine (upOne_no x r _ n cap _ k41 hr).mono ?_
  rintro e w1 ⟨rfl, rfl⟩
  go_wp2
  refine leaves_cons (f := 45) (args := #[.pointer (some ⟨x, 0, none⟩)]) (by simp) (by simp [go_sem]) ?_
  obtain ⟨u0, u1, u2⟩ := h.unlock (w2 := _) (Below.refl _ _)
  refine (unlock_deferred muLib ⟨x, 0, none⟩ .returning _ u0 u1).mono ?_
  rintro e u' w'' ⟨rfl, rfl, rfl⟩
  exact ⟨_, results_tmp2 rfl _ _ _, rfl, u2⟩
set_option maxRecDepth 100000 in
theorem prgStart_no (x R n cap : Nat) (r : Int) (w : World) (h : ClAt w x R n cap) (hr : ¬ (0 ≤ r ∧ r < n)) :
    Calls Tryz.prog 28 #[.pointer (some ⟨x, 0, none⟩), .int .i64 r] w fun e w' => e = .returned (.int .i64 5) ∧ Below w.heap.size w w' := by
  have k41 := h.l41
  go_enter_defers Tryz.func28, Tryz.ntmps28
  go_wp2_with (go_at_call 44; refine (lock_free muLib ⟨x, 0, none⟩ _ h.c0 h.f0).mono ?_; rintro e w' ⟨rfl, rfl⟩)
  refine (one_no x r _ n cap _ k41 hr).mono ?_
  rintro e w1 ⟨rfl, rfl⟩
  go_wp2
  refine leaves_cons (f := 45) (args := #[.pointer (some ⟨x, 0, none⟩)]) (by simp) (by simp [go_sem]) ?_
  obtain ⟨u0, u1, u2⟩ := h.unlock (w2 := _) (Below.refl _ _)
  refine (unlock_deferred muLib ⟨x, 0, none⟩ .returning _ u0 u1).mono ?_
  rintro e u' w'' ⟨rfl, rfl, rfl⟩
  exact ⟨_, results_tmp rfl _ _ _, rfl, u2⟩
set_option maxRecDepth 100000 in
theorem prgStart_up (x R n cap i : Nat) (w : World) (h : ClAt w x R n cap) (hi : i < n) (hup : w.cell? ⟨R, i * 14, none⟩ = some (.bool true)) :
    Calls Tryz.prog 28 #[.pointer (some ⟨x, 0, none⟩), .int .i64 i] w fun e w' => e = .returned (.int .i64 9) ∧ Below w.heap.size w w' := by
  have k41 := h.l41
  have kup := h.lR hup
  go_enter_defers Tryz.func28, Tryz.ntmps28
  go_wp2_with (go_at_call 44; refine (lock_free muLib ⟨x, 0, none⟩ _ h.c0 h.f0).mono ?_; rintro e w' ⟨rfl, rfl⟩)
  refine (one_yes x R i n cap _ k41 hi).mono ?_
  rintro e w1 ⟨rfl, rfl⟩
  go_wp2
  refine leaves_cons (f := 45) (args := #[.pointer (some ⟨x, 0, none⟩)]) (by simp) (by simp [go_sem]) ?_
  obtain ⟨u0, u1, u2⟩ := h.unlock (w2 := _) (Below.refl _ _)
  refine (unlock_deferred muLib ⟨x, 0, none⟩ .returning _ u0 u1).mono ?_
  rintro e u' w'' ⟨rfl, rfl, rfl⟩
  exact ⟨_, results_tmp rfl _ _ _, rfl, u2⟩
set_option maxRecDepth 100000 in
theorem prgState_yes (x R n cap i b m : Nat) (M : Sl → Option Gr) (w : World) (h : ClAt w x R n cap) (hi : i < n) (hup : w.cell? ⟨R, i * 14, none⟩ = some (.bool true)) (hst : w.cell? ⟨R, i * 14 + 3, none⟩ = some (.map (some b))) (hr : RulesAt w) (hx : x ≠ 1) (hbx : b ≠ x) (hm : StMap w b m M) (hmm : MayMap M) (hn : m ≤ 8388608) :
    Calls Tryz.prog 50 #[.pointer (some ⟨x, 0, none⟩), .int .i64 i] w fun e w' => ∃ v out, e = .returned (.tuple #[v, .int .i64 0]) ∧ w'.ownsRow w.heap.size 76 6 v out.length (flat out) ∧ Hid (TellOf M out) ∧ Below w.heap.size w w' := by
  have k41 := h.l41
  have kup := h.lR hup
  have kst := h.lR hst
  have hg1 := grown_setCell w ⟨x, 0, none⟩ (.int .i32 1)
  have HM : Hid (StMap (w.setCell ⟨x, 0, none⟩ (.int .i32 1)) b m M) := hm.kept hg1 (fun e => hbx (by cases e; rfl))
  have HR : Hid (RulesAt (w.setCell ⟨x, 0, none⟩ (.int .i32 1))) := by
    obtain ⟨a1, r1, r2, r3, r4, r5⟩ := hr
    have key : ∀ {o : Nat} {a b c d e : Int} {r : Bool}, ruleAt w o a b c d e r → ruleAt (w.setCell ⟨x, 0, none⟩ (.int .i32 1)) o a b c d e r := by
      intro o a b c d e r h
      obtain ⟨c0, c1, c2, c3, c4, c5⟩ := h
      refine ⟨?_, ?_, ?_, ?_, ?_, ?_⟩ <;> (rw [World.cell?_of_block (w := w) (hg1.block _ a1 (fun e => hx (Option.some.inj e).symm))]; assumption)
    exact ⟨Nat.lt_of_lt_of_le a1 hg1.size, key r1, key r2, key r3, key r4, key r5⟩
  clear hg1 hr hm
  go_enter_defers Tryz.func50, Tryz.ntmps50
  go_wp2_with (go_at_call 44; refine (lock_free muLib ⟨x, 0, none⟩ _ h.c0 h.f0).mono ?_; rintro e w' ⟨rfl, rfl⟩)
  refine (upOne_yes x R i n cap true _ k41 hi kup).mono ?_
  rintro e w1 ⟨rfl, rfl⟩
  go_wp2_with fail
  refine (tell_any b m M _ HR.out HM.out hmm hn).mono ?_
  rintro e w2 ⟨v, out, rfl, hown, htl, hb⟩
  rw [lock_size] at hown hb
  have hown' : Hid (w2.ownsRow w.heap.size 76 6 v out.length (flat out)) := hown
  obtain ⟨ad, cp, rfl⟩ := own_form hown
  clear hown
  go_wp2
  refine leaves_cons (f := 45) (args := #[.pointer (some ⟨x, 0, none⟩)]) (by simp) (by simp [go_sem]) ?_
  obtain ⟨u0, u1, u2⟩ := h.unlock (w2 := _) (hb)
  refine (unlock_deferred muLib ⟨x, 0, none⟩ .returning _ u0 u1).mono ?_
  rintro e u' w'' ⟨rfl, rfl, rfl⟩
  exact ⟨_, results_tmp2 rfl _ _ _, _, out, rfl, owns_put hown'.out h.lt, htl, u2⟩
end Go.Proofs.YtahdlejgjcjeoabGreatDoor
