/- Walk of the laws' textOf. -/
import Derived.Test.YtahdlejgjcjeoaaGreatDoorP38
import Derived.Test.YtahdlejgjcjeoaaGreatDoorP19
import Derived.Test.YtahdlejgjcjeoaaGreatDoorP34
import Derived.Test.YtahdlejgjcjeoaaGreatDoorP32
namespace Go.Proofs.YtahdlejgjcjeoaaGreatDoor
open Go.RowKit

theorem infoIOut : (Tryz.prog.info? 81).map (fun i => (i.zero, i.size, i.bytes)) = some (some (.agg #[.slice none 0 0, .int .i64 0]), 2, 32) := by kernel_rfl

set_option maxRecDepth 100000 in
set_option maxHeartbeats 4000000 in
theorem ownInts_any (B : Nat) (va : Nat → Value) (vl : Value) (es : Nat → List (Value × Int)) (baseL n : Nat) (L : List Value) (w : World)
    (hI : Bk w B va es) (hL : w.ownsRow baseL 3 1 vl n L) (hbase : baseL ≤ w.heap.size)
    (hsep : ∀ q, vl.ownBlock = some q → q < w.heap.size ∧ q ≠ B ∧ (∀ j, j < 4 → some q ≠ (va j).ownBlock) ∧ ∀ j, j < 4 → ∀ p ∈ es j, p.1.ownBlock ≠ some q)
    (hlen : n ≤ 8388608) (hes : (es 1).length ≤ 16000000) :
    Calls Tryz.prog 136 #[.pointer (some ⟨B, 0, none⟩), vl] w fun e w' => e = .returned (.tuple #[]) ∧ ∃ vf ef, Hid (Bk w' B (updF va 1 vf) (updF es 1 ef)) ∧ ef.length = (es 1).length + 4 ∧ Hid (∀ p ∈ ef, p ∈ es 1 ∨ ∀ q, p.1.ownBlock = some q → w.heap.size ≤ q ∨ some q = vl.ownBlock) ∧ Hid (Fr (fun q => q = B ∨ some q = vl.ownBlock ∨ some q = (va 1).ownBlock) w w') := by
  obtain ⟨X, hX⟩ : ∃ X : Nat → Prop, X = fun q => q = B ∨ some q = vl.ownBlock ∨ some q = (va 1).ownBlock := ⟨_, rfl⟩
  rw [← hX]
  have HXB : Hid (X B) := by rw [hX]; exact .inl rfl
  have HXV : Hid (∀ q, vl.ownBlock = some q → X q) := by rw [hX]; exact fun q hq => .inr (.inl hq.symm)
  have HXA : Hid (∀ q, (va 1).ownBlock = some q → X q) := by rw [hX]; exact fun q hq => .inr (.inr hq.symm)
  clear hX
  obtain ⟨adL, capL, rfl⟩ := own_form hL
  obtain ⟨adA, capA, hva⟩ := own_form (hI.row 1 (by decide))
  have c1 := hI.c 1 (by decide)
  rw [hva] at c1
  have HVA : Hid (va 1 = .slice adA (es 1).length capA) := hva
  have HI : Hid (Bk w B va es) := hI
  have HL : Hid (w.ownsRow baseL 3 1 (.slice adL n capL) n L) := hL
  have HSEP : Hid (∀ q, (Value.slice adL n capL).ownBlock = some q → q < w.heap.size ∧ q ≠ B ∧ (∀ j, j < 4 → some q ≠ (va j).ownBlock) ∧ ∀ j, j < 4 → ∀ p ∈ es j, p.1.ownBlock ≠ some q) := hsep
  have hn : L.length = n := by have := hL.1; omega
  clear hI hL hsep hva
  obtain ⟨i0, hi, hz0, hz1, hz2⟩ := info_parts infoInt
  obtain ⟨i1, hi1, hy0, hy1, hy2⟩ := info_parts infoIOut
  obtain ⟨K, HK⟩ : ∃ K, Hid (K = (es 1).length) := ⟨_, rfl⟩
  rw [← HK.out] at c1 hes
  go_enter Tryz.func136, Tryz.ntmps136
  go_wp2
  go_loopw [5] (fun i wr => ∃ (j : Nat) (L' : List Value), j ≤ n ∧ i = .int .i64 j ∧ L'.length = n ∧ Hid (wr.ownsRow baseL 3 1 (.slice adL n capL) n L') ∧ Hid (∀ t, t < j → L'[t]? = some (.int .i64 (-1 - (K : Int)))) ∧ Hid (Bk wr B va es) ∧ Hid (Fr X w wr)) (fun i _ => n - (intOf i).toNat)
  case atStart => exact ⟨0, L, Nat.zero_le _, rfl, hn, HL, fun t ht => by omega, HI, Fr.refl _ _⟩
  case round =>
    clear c1
    obtain ⟨j, L', hj, rfl, hlL, hown, hmk, hinv, hfr⟩ := hrel
    by_cases hl : j < n
    · obtain ⟨g, rfl⟩ : ∃ g, adL = some ⟨g, 0, none⟩ := by
        rcases hown.out.2 with ⟨_, h0⟩ | ⟨g, cap, cur, hv, _⟩
        · omega
        · cases hv; exact ⟨g, rfl⟩
      have hsg := HSEP.out g rfl
      have q1 : (j : Int) < (n : Int) := by omega
      obtain ⟨w3, rfl⟩ : ∃ w3 : World, w3 = wr := ⟨_, rfl⟩
      have hown3 := hown.out
      have hinv3 := hinv.out
      have hfr3 := hfr.out
      obtain ⟨⟨u, d0, -⟩, f0⟩ := owns_cell1 hown3 j (by omega)
      have hst := owns_store1 hown3 j (by omega) (.int .i64 (-1 - (K : Int)))
      have hgr := grown_setCell w3 ⟨g, j, none⟩ (.int .i64 (-1 - (K : Int)))
      have HI3 : Hid (Bk (w3.setCell ⟨g, j, none⟩ (.int .i64 (-1 - (K : Int)))) B va es) := hinv3.kept hgr (fun e => hsg.2.1 (by cases e; rfl)) (fun t ht q hq e => hsg.2.2.1 t ht (by rw [hq, e])) (fun t ht p hp q hq e => hsg.2.2.2 t ht p hp (by rw [hq, e]))
      have HF3 : Hid (Fr X w (w3.setCell ⟨g, j, none⟩ (.int .i64 (-1 - (K : Int))))) := hfr3.step hgr (fun q hq => by cases hq; exact .inr (HXV.out g rfl))
      have HM3 : Hid (∀ t, t < j + 1 → (L'.set j (.int .i64 (-1 - (K : Int))))[t]? = some (.int .i64 (-1 - (K : Int)))) := by
        intro t ht
        by_cases e : t = j
        · subst e; simp [show t < L'.length by omega]
        · have := hmk.out t (by omega)
          simpa [Ne.symm e] using this
      have HST : Hid ((w3.setCell ⟨g, j, none⟩ (.int .i64 (-1 - (K : Int)))).ownsRow baseL 3 1 (.slice (some ⟨g, 0, none⟩) n capL) n (L'.set j (.int .i64 (-1 - (K : Int))))) := hst
      have HLL : Hid ((L'.set j (.int .i64 (-1 - (K : Int)))).length = n) := by rw [Hid]; simpa using hlL
      clear hst hgr hown hown3 hinv3 hfr3 hinv hfr hmk hsg
      go_wp2
      exact ⟨⟨j + 1, _, by omega, by go_num, HLL, HST, HM3, HI3, HF3⟩, by simp [intOf]; omega⟩
    · have hjn : j = n := by omega
      subst hjn
      have hLm := all_reps1 hlL hmk.out
      have hown' := hown.out
      rw [hLm] at hown'
      have hkc : mkC 1 (K : Int) = [.int .i64 (-1 - (K : Int))] := rfl
      rw [← hkc] at hown'
      have hst : OwnS w X (Value.slice adL j capL).ownBlock va es B baseL 1 K j wr (.slice adL j capL) (.slice adA K capA) (es 1) := ⟨by rw [HK.out, ← HVA.out, updF_self, updF_self]; exact hinv.out, hown', fun q hq => ⟨Nat.lt_of_lt_of_le (HSEP.out q hq).1 hfr.out.size, (HSEP.out q hq).2.1, by rw [HK.out, ← HVA.out, updF_self]; exact (HSEP.out q hq).2.2.1⟩, fun p hp q h1 h2 => absurd h1 ((HSEP.out q h2).2.2.2 1 (by decide) p hp), fun t ht _ p hp q hq => (HSEP.out q hq).2.2.2 t ht p hp, hfr.out, fun q hq => .inr ⟨HXV.out q hq, hq.symm⟩, fun p hp => .inl hp, fun q hq => .inr (HXA.out q (by rw [HVA.out, ← HK.out]; exact hq)), Nat.le_trans hbase hfr.out.size, ⟨by omega, by omega⟩, by omega, by decide⟩
      have hinvr := hst.inv
      have cr := hinvr.c 1 (by decide)
      have hlt := hinvr.lt
      have hrowr := hinvr.row 1 (by decide)
      rw [updF_same] at cr
      rw [updF_same, updF_same] at hrowr
      have HEL : Hid ((es 1).length = K) := HK.out.symm
      rw [HEL.out] at hrowr
      clear hown hown' hmk hinv hfr hLm HSEP HI HL hlL hkc
      have HST : Hid (OwnS w X (Value.slice adL j capL).ownBlock va es B baseL 1 K j wr (.slice adL j capL) (.slice adA K capA) (es 1)) := hst
      clear hst hinvr
      have hrow2 : wr.ownsRow (B + 1) 81 2 (.slice adA K capA) K (flatE (es 1)) := hrowr
      clear hrowr
      go_wp2_with (at_builtin; refine wpList_append_two _ rfl _ _ 66 rfl (B + 1) 81 i1 _ 2 32 Tryz.underlying66 hi1 hy0 hy1 hy2 rfl (by decide) _ K _ rfl (hrow2.alloc _) ⟨wr.heap.size, 0, none⟩ 1 1 [.slice adL j capL, .int .i64 K] rfl rfl (news_pair wr _ _ _) (pair_oneCell rfl _) (by decide) (by unfold maxLen; omega) (by omega) (by simp; omega) ?_; intro gA capA' wA hownA hcaseA; obtain ⟨ca, fa⟩ := HST.out.inv.after (f := 1) (by decide) _ (by rw [updF_same]; exact hcaseA); rw [updF_same] at ca)
      have HS1 := HST.out.push HXB.out _ (by rw [HEL.out]; exact hownA) hcaseA
      rw [HEL.out] at HS1
      clear HST cr hrow2 hownA hcaseA ca fa hlt
      go_loopw [1, 6] (fun s1 s6 wr => ∃ (r : Nat) (vf : Value) (ef : List (Value × Int)), r ≤ 3 ∧ s6 = .int .i64 r ∧ ef.length = K + 1 + r ∧ Hid (OwnS w X (Value.slice adL j capL).ownBlock va es B baseL 1 K (j + r) wr s1 vf ef)) (fun _ s6 _ => 3 - (intOf s6).toNat)
      case atStart => exact ⟨0, _, _, by omega, rfl, by rw [List.length_append, HEL.out]; rfl, HS1⟩
      case round =>
        clear HS1
        obtain ⟨r, vf, ef, hr, rfl, hes', hst⟩ := hrel
        have HES : Hid (ef.length = K + 1 + r) := hes'
        have hesle : ef.length ≤ 16000004 := by omega
        clear hes'
        by_cases hr3 : r < 3
        · obtain ⟨ad1, cap1, hv1⟩ := own_form hst.out.own
          subst hv1
          obtain ⟨w3, rfl⟩ : ∃ w3 : World, w3 = wr := ⟨_, rfl⟩
          have hst3 := hst.out
          have hkc : mkC 1 (K : Int) = [.int .i64 (-1 - (K : Int))] := rfl
          have hown3 : w3.ownsRow baseL 3 1 (.slice ad1 (j + r) cap1) (j + r) (reps (j + r) [.int .i64 (-1 - (K : Int))]) := by rw [← hkc]; exact hst3.own
          have HKC : Hid (mkC 1 (K : Int) = [.int .i64 (-1 - (K : Int))]) := hkc
          have hbase3 := hst3.base
          have HS3 : Hid (OwnS w X (Value.slice adL j capL).ownBlock va es B baseL 1 K (j + r) w3 (.slice ad1 (j + r) cap1) vf ef) := hst3
          clear hst hst3 hkc
          go_wp2_with (first | (at_builtin; have _t := hown3; refine wpList_append_two _ rfl _ _ 79 rfl baseL 3 i0 _ 1 8 Tryz.underlying79 hi hz0 hz1 hz2 rfl (by decide) _ (j + r) _ rfl (hown3.alloc _) ⟨w3.heap.size, 0, none⟩ 1 1 [.int .i64 (-1 - (K : Int))] rfl rfl (World.news_of_block (heap_alloc_new w3 _)) (by simp [Value.oneCell']) (by decide) (by unfold maxLen; omega) (by omega) (by simp; omega) ?_; intro gL capN wN hownN hcaseN; have HSN : Hid (OwnS w X (Value.slice adL j capL).ownBlock va es B baseL 1 K (j + r + 1) wN (.slice (some ⟨gL, 0, none⟩) (j + r + 1) capN) vf ef) := HS3.out.append (by omega) _ (by rw [HKC.out]; exact hownN) hcaseN; have cN := HSN.out.inv.c 1 (by decide); have hltN := HSN.out.inv.lt; have hrowN := HSN.out.inv.row 1 (by decide); rw [updF_same] at cN; rw [updF_same, updF_same] at hrowN; obtain ⟨adF, capF, hvF⟩ := own_form hrowN; subst hvF; have hrowM : wN.ownsRow (B + 1) 81 2 (.slice adF ef.length capF) ef.length (flatE ef) := hrowN; clear hownN hcaseN hown3 HS3 hrowN) | (at_builtin; refine wpList_append_two _ rfl _ _ 66 rfl (B + 1) 81 i1 _ 2 32 Tryz.underlying66 hi1 hy0 hy1 hy2 rfl (by decide) _ ef.length _ rfl (hrowM.alloc _) ⟨wN.heap.size, 0, none⟩ 1 1 [.slice (some ⟨gL, 0, none⟩) (j + r + 1) capN, .int .i64 K] rfl rfl (news_pair wN _ _ _) (pair_oneCell rfl _) (by decide) (by unfold maxLen; omega) (by omega) (by simp; omega) ?_; intro gA capA' wA hownA hcaseA; obtain ⟨ca, fa⟩ := HSN.out.inv.after (f := 1) (by decide) _ (by rw [updF_same]; exact hcaseA); rw [updF_same] at ca))
          have HS4 := HSN.out.push HXB.out _ hownA hcaseA
          clear HSN cN hrowM hownA hcaseA ca fa hltN
          exact ⟨⟨r + 1, _, _, by omega, by go_num, by have := HES.out; rw [List.length_append]; show ef.length + 1 = _; omega, HS4⟩, by simp [intOf]; omega⟩
        · go_wp2
          go_end0
          exact ⟨rfl, vf, ef, hst.out.inv, by have := HES.out; have := HEL.out; omega, hst.out.ent, hst.out.fr⟩
end Go.Proofs.YtahdlejgjcjeoaaGreatDoor

namespace Go.Proofs.YtahdlejgjcjeoaaGreatDoor
open Go.RowKit

theorem infoEOut : (Tryz.prog.info? 84).map (fun i => (i.zero, i.size, i.bytes)) = some (some (.agg #[.slice none 0 0, .int .i64 0]), 2, 32) := by kernel_rfl

set_option maxRecDepth 100000 in
set_option maxHeartbeats 4000000 in
theorem ownEntries_none (B : Nat) (va : Nat → Value) (es : Nat → List (Value × Int)) (w : World) (hI : Bk w B va es) (hes : (es 3).length ≤ 16000000) :
    Calls Tryz.prog 130 #[.pointer (some ⟨B, 0, none⟩), .slice none 0 0] w fun e w' => e = .returned (.tuple #[]) ∧ ∃ vf ef, Hid (Bk w' B (updF va 3 vf) (updF es 3 ef)) ∧ ef.length = (es 3).length + 4 ∧ Hid (Fr (fun q => q = B ∨ some q = (va 3).ownBlock) w w') := by
  obtain ⟨X, hX⟩ : ∃ X : Nat → Prop, X = fun q => q = B ∨ some q = (va 3).ownBlock := ⟨_, rfl⟩
  rw [← hX]
  have HXB : Hid (X B) := by rw [hX]; exact .inl rfl
  have HXA : Hid (∀ q, (va 3).ownBlock = some q → X q) := by rw [hX]; exact fun q hq => .inr hq.symm
  clear hX
  obtain ⟨adA, capA, hva⟩ := own_form (hI.row 3 (by decide))
  have c3 := hI.c 3 (by decide)
  rw [hva] at c3
  have HVA : Hid (va 3 = .slice adA (es 3).length capA) := hva
  have HI : Hid (Bk w B va es) := hI
  clear hI hva
  obtain ⟨i0, hi, hz0, hz1, hz2⟩ := info_parts infoEntry
  obtain ⟨i1, hi1, hy0, hy1, hy2⟩ := info_parts infoEOut
  obtain ⟨K, HK⟩ : ∃ K, Hid (K = (es 3).length) := ⟨_, rfl⟩
  rw [← HK.out] at c3 hes
  go_enter Tryz.func130, Tryz.ntmps130
  go_wp2
  go_loopw [4] (fun s wr => s = .int .i64 0 ∧ wr = w) (fun _ _ => 0)
  case atStart => exact ⟨rfl, rfl⟩
  case round =>
    obtain ⟨rfl, rfl⟩ := hrel
    obtain ⟨w, rfl⟩ : ∃ w : World, w = wr := ⟨_, rfl⟩
    go_wp2
    go_loopw [6] (fun s wr => s = .int .i64 0 ∧ wr = w) (fun _ _ => 0)
    case atStart => exact ⟨rfl, rfl⟩
    case round =>
      obtain ⟨rfl, rfl⟩ := hrel
      have hst : OwnS wr X none va es B 0 3 K 0 wr (.slice none 0 0) (.slice adA K capA) (es 3) := ⟨by rw [HK.out, ← HVA.out, updF_self, updF_self]; exact HI.out, ⟨rfl, .inl ⟨rfl, rfl⟩⟩, fun q hq => (by cases hq), fun p hp q h1 h2 => (by cases h2), fun t ht _ p hp q hq => (by cases hq), Fr.refl _ _, fun q hq => (by cases hq), fun p hp => .inl hp, fun q hq => .inr (HXA.out q (by rw [HVA.out, ← HK.out]; exact hq)), Nat.zero_le _, ⟨by omega, by omega⟩, by omega, by decide⟩
      have hinvr := hst.inv
      have cr := hinvr.c 3 (by decide)
      have hlt := hinvr.lt
      have hrowr := hinvr.row 3 (by decide)
      rw [updF_same] at cr
      rw [updF_same, updF_same] at hrowr
      have HEL : Hid ((es 3).length = K) := HK.out.symm
      rw [HEL.out] at hrowr
      have HST : Hid (OwnS wr X none va es B 0 3 K 0 wr (.slice none 0 0) (.slice adA K capA) (es 3)) := hst
      clear hst hinvr
      have hrow2 : wr.ownsRow (B + 1) 84 2 (.slice adA K capA) K (flatE (es 3)) := hrowr
      clear hrowr
      obtain ⟨w0, rfl⟩ : ∃ w0 : World, w0 = wr := ⟨_, rfl⟩
      go_wp2_with (at_builtin; refine wpList_append_two _ rfl _ _ 68 rfl (B + 1) 84 i1 _ 2 32 Tryz.underlying68 hi1 hy0 hy1 hy2 rfl (by decide) _ K _ rfl (hrow2.alloc _) ⟨w0.heap.size, 0, none⟩ 1 1 [.slice none 0 0, .int .i64 K] rfl rfl (news_pair w0 _ _ _) (pair_oneCell rfl _) (by decide) (by unfold maxLen; omega) (by omega) (by simp; omega) ?_; intro gA capA' wA hownA hcaseA; obtain ⟨ca, fa⟩ := HST.out.inv.after (f := 3) (by decide) _ (by rw [updF_same]; exact hcaseA); rw [updF_same] at ca)
      have HS1 := HST.out.push HXB.out _ (by rw [HEL.out]; exact hownA) hcaseA
      rw [HEL.out] at HS1
      clear HST cr hrow2 hownA hcaseA ca fa hlt
      go_loopw [1, 7] (fun s1 s7 wr => ∃ (r : Nat) (vf : Value) (ef : List (Value × Int)), r ≤ 3 ∧ s7 = .int .i64 r ∧ ef.length = K + 1 + r ∧ Hid (OwnS w0 X none va es B 0 3 K r wr s1 vf ef)) (fun _ s7 _ => 3 - (intOf s7).toNat)
      case atStart => exact ⟨0, _, _, by omega, rfl, by rw [List.length_append, HEL.out]; rfl, HS1⟩
      case round =>
        clear HS1
        obtain ⟨r, vf, ef, hr, rfl, hes', hst⟩ := hrel
        have HES : Hid (ef.length = K + 1 + r) := hes'
        have hesle : ef.length ≤ 16000004 := by omega
        clear hes'
        by_cases hr3 : r < 3
        · obtain ⟨ad1, cap1, hv1⟩ := own_form hst.out.own
          subst hv1
          obtain ⟨w3, rfl⟩ : ∃ w3 : World, w3 = wr := ⟨_, rfl⟩
          have hst3 := hst.out
          have hown3 : w3.ownsRow 0 86 3 (.slice ad1 r cap1) r (reps r [.int .i64 (-1 - (K : Int)), .int .i64 0, .slice none 0 0]) := hst3.own
          have HS3 : Hid (OwnS w0 X none va es B 0 3 K r w3 (.slice ad1 r cap1) vf ef) := hst3
          clear hst hst3
          go_wp2_with (first | (at_builtin; have _t := hown3; refine wpList_append_two _ rfl _ _ 82 rfl 0 86 i0 _ 3 40 Tryz.underlying82 hi hz0 hz1 hz2 rfl (by decide) _ r _ rfl (hown3.alloc _) ⟨w3.heap.size, 0, none⟩ 1 1 [.int .i64 (-1 - (K : Int)), .int .i64 0, .slice none 0 0] rfl rfl (World.news_of_block (heap_alloc_new w3 _)) (three_one rfl) (by decide) (by unfold maxLen; omega) (by omega) (Nat.zero_le _) ?_; intro gL capN wN hownN hcaseN; have HSN : Hid (OwnS w0 X none va es B 0 3 K (r + 1) wN (.slice (some ⟨gL, 0, none⟩) (r + 1) capN) vf ef) := HS3.out.append (by omega) _ hownN hcaseN; have cN := HSN.out.inv.c 3 (by decide); have hltN := HSN.out.inv.lt; have hrowN := HSN.out.inv.row 3 (by decide); rw [updF_same] at cN; rw [updF_same, updF_same] at hrowN; obtain ⟨adF, capF, hvF⟩ := own_form hrowN; subst hvF; have hrowM : wN.ownsRow (B + 1) 84 2 (.slice adF ef.length capF) ef.length (flatE ef) := hrowN; clear hownN hcaseN hown3 HS3 hrowN) | (at_builtin; refine wpList_append_two _ rfl _ _ 68 rfl (B + 1) 84 i1 _ 2 32 Tryz.underlying68 hi1 hy0 hy1 hy2 rfl (by decide) _ ef.length _ rfl (hrowM.alloc _) ⟨wN.heap.size, 0, none⟩ 1 1 [.slice (some ⟨gL, 0, none⟩) (r + 1) capN, .int .i64 K] rfl rfl (news_pair wN _ _ _) (pair_oneCell rfl _) (by decide) (by unfold maxLen; omega) (by omega) (by simp; omega) ?_; intro gA capA' wA hownA hcaseA; obtain ⟨ca, fa⟩ := HSN.out.inv.after (f := 3) (by decide) _ (by rw [updF_same]; exact hcaseA); rw [updF_same] at ca))
          have HS4 := HSN.out.push HXB.out _ hownA hcaseA
          clear HSN cN hrowM hownA hcaseA ca fa hltN
          exact ⟨⟨r + 1, _, _, by omega, by go_num, by have := HES.out; rw [List.length_append]; show ef.length + 1 = _; omega, HS4⟩, by simp [intOf]; omega⟩
        · go_wp2
          go_end0
          exact ⟨rfl, vf, ef, hst.out.inv, by have := HES.out; have := HEL.out; omega, hst.out.fr⟩
end Go.Proofs.YtahdlejgjcjeoaaGreatDoor

namespace Go.Proofs.YtahdlejgjcjeoaaGreatDoor
open Go.RowKit

theorem digs_zero (f : Nat) : digs f 0 = [] := by
  cases f <;> simp [digs]
theorem digs_pos {f k : Nat} (h : 0 < k) : digs (f + 1) k = UInt8.ofNat (48 + k % 10) :: digs f (k / 10) := by
  rw [digs, if_neg (by omega)]
theorem dig_str (k : Nat) : strOfNums [48 + (k : Int) % 10] = bstr [UInt8.ofNat (48 + k % 10)] := by
  have e : (48 + (k : Int) % 10).toNat = 48 + k % 10 := by omega
  simp only [strOfNums, bstr, List.map_cons, List.map_nil, e]

set_option maxRecDepth 100000 in
set_option maxHeartbeats 1000000 in
theorem textOf_any (k : Nat) (w : World) (hk : k ≤ 16777216) :
    Calls Tryz.prog 39 #[.int .i64 k] w fun e w' => e = .returned (.string (markT k)) ∧ Below w.heap.size w w' := by
  have hcv := conv_one
  go_enter Tryz.func39, Tryz.ntmps39
  go_wp2
  go_loopw [0, 3] (fun s0 s2 wr => ∃ (f m : Nat) (done : List UInt8), s0 = .int .i64 m ∧ s2 = .string (bstr ([109, 97, 114, 107, 32] ++ done)) ∧ Hid (done ++ digs f m = digs 20 k) ∧ Hid (m < 10 ^ f) ∧ done.length + f ≤ 20 ∧ m ≤ 16777216 ∧ Below w.heap.size w wr) (fun s0 _ _ => (intOf s0).toNat)
  case atStart => exact ⟨20, k, [], rfl, rfl, rfl, by rw [Hid]; omega, by simp, hk, Below.refl _ _⟩
  case round =>
    obtain ⟨f, m, done, rfl, rfl, hd, hm, hlen, hmb, hb⟩ := hrel
    by_cases h0 : 0 < m
    · obtain ⟨f', rfl⟩ : ∃ f', f = f' + 1 := by
        cases f with
        | zero => have := hm.out; simp at this; omega
        | succ f' => exact ⟨f', rfl⟩
      have q1 : ((m : Int) ≤ 0) = False := by simp; omega
      have q2 : ((0 : Int) < (m : Int)) = True := by simp; omega
      have HD : Hid ((done ++ [UInt8.ofNat (48 + m % 10)]) ++ digs f' (m / 10) = digs 20 k) := by
        have := hd.out
        rw [digs_pos h0] at this
        rw [Hid, List.append_assoc]
        exact this
      have HM : Hid (m / 10 < 10 ^ f') := Nat.div_lt_of_lt_mul (by have := hm.out; rw [Nat.pow_succ] at this; omega)
      have HS : Hid (bstr ([109, 97, 114, 107, 32] ++ done) ++ strOfNums [48 + (m : Int) % 10] = bstr ([109, 97, 114, 107, 32] ++ (done ++ [UInt8.ofNat (48 + m % 10)]))) := by rw [Hid, dig_str, bstr_append, List.append_assoc]
      have hsz1 : (bstr ([109, 97, 114, 107, 32] ++ done)).size = 5 + done.length := by rw [bstr_size, List.length_append]; rfl
      have hsz2 : (strOfNums [48 + (m : Int) % 10]).size = 1 := by rw [strOfNums_size]; rfl
      have hw1 : IntKind.i64.wrap ((m : Int) / 10) = (m : Int) / 10 := wrap_small (by omega) (by omega)
      generalize bstr ([109, 97, 114, 107, 32] ++ done) = sb at *
      go_wp2
      refine ⟨⟨f', m / 10, done ++ [UInt8.ofNat (48 + m % 10)], by go_num, ?_, HD, HM, by rw [List.length_append, List.length_singleton]; omega, by omega, ?_⟩, ?_⟩
      · rw [HS.out]
      · exact below_alloc hb _
      · simp only [intOf]
        omega
    · obtain rfl : m = 0 := by omega
      have HE : Hid (markT k = bstr ([109, 97, 114, 107, 32] ++ done)) := by
        have := hd.out
        rw [digs_zero, List.append_nil] at this
        rw [Hid, markT, this]
      generalize bstr ([109, 97, 114, 107, 32] ++ done) = sb at *
      go_wp2
      go_ret
      exact ⟨by rw [HE.out]; rfl, hb⟩
end Go.Proofs.YtahdlejgjcjeoaaGreatDoor
