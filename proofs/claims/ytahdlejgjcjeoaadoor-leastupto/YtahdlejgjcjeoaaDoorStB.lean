/- Walks of the program's mayBe and AllMayBe. -/
import Derived.Test.YtahdlejgjcjeoaaDoorStA
namespace Go.Proofs.YtahdlejgjcjeoaaDoor
open Go.RowKit

set_option maxHeartbeats 2000000 in
theorem mayBe_any (a : At) (w : World) (h : RulesAt w) (ha : short a) :
    Calls Tryd.prog 69 #[a.val] w fun e w' => e = .returned (.bool (mayB a)) ∧ Below w.heap.size w w' := by
  obtain ⟨ty, key, side, who, elem, n⟩ := a
  simp only [short] at ha
  obtain ⟨hk, he⟩ := ha
  obtain ⟨h0, r1, r2, r3, r4, r5⟩ := h
  unfold At.val
  simp only
  by_cases ht : 1 ≤ ty ∧ ty ≤ 5
  · have hwt : wi ty 1 5 = true := (wi_iff _ _ _).2 ht
    rcases kinds5 ht.1 ht.2 with rfl | rfl | rfl | rfl | rfl
    · obtain ⟨c0, c1, c2, c3, c4, c5⟩ := r1
      clear r2 r3 r4 r5
      go_enter Tryd.func69, Tryd.ntmps69
      go_wp2_with (first | (go_at_call 51; refine (isType_any _ _).mono ?_; rintro e w' ⟨rfl, rfl⟩) | (go_at_call 97; refine (within_any _ _ _ _).mono ?_; rintro e w' ⟨rfl, rfl⟩))
      all_goals go_ret
      all_goals go_light
      all_goals refine ⟨ret_bool ?_, by repeat (first | exact Below.refl _ _ | refine below_drewN ?_ _ | refine Below.setCell ?_ (by simp) _ | refine Below.alloc ?_ (by simp) _)⟩
      all_goals clear c0 c1 c2 c3 c4 c5
      all_goals rw [Bool.eq_iff_iff]
      all_goals simp only [mayB, decide_eq_true_eq, Bool.false_eq_true, wi_iff, false_iff] at *
      all_goals first | omega | (simp_all; done) | (simp_all; omega) | (simp_all; refine ⟨fun hq => ⟨by omega, by omega, by omega, hq⟩, fun hq => hq.2.2.2⟩)
    · obtain ⟨c0, c1, c2, c3, c4, c5⟩ := r2
      clear r1 r3 r4 r5
      go_enter Tryd.func69, Tryd.ntmps69
      go_wp2_with (first | (go_at_call 51; refine (isType_any _ _).mono ?_; rintro e w' ⟨rfl, rfl⟩) | (go_at_call 97; refine (within_any _ _ _ _).mono ?_; rintro e w' ⟨rfl, rfl⟩))
      all_goals go_ret
      all_goals go_light
      all_goals refine ⟨ret_bool ?_, by repeat (first | exact Below.refl _ _ | refine below_drewN ?_ _ | refine Below.setCell ?_ (by simp) _ | refine Below.alloc ?_ (by simp) _)⟩
      all_goals clear c0 c1 c2 c3 c4 c5
      all_goals rw [Bool.eq_iff_iff]
      all_goals simp only [mayB, decide_eq_true_eq, Bool.false_eq_true, wi_iff, false_iff] at *
      all_goals first | omega | (simp_all; done) | (simp_all; omega) | (simp_all; refine ⟨fun hq => ⟨by omega, by omega, by omega, hq⟩, fun hq => hq.2.2.2⟩)
    · obtain ⟨c0, c1, c2, c3, c4, c5⟩ := r3
      clear r1 r2 r4 r5
      go_enter Tryd.func69, Tryd.ntmps69
      go_wp2_with (first | (go_at_call 51; refine (isType_any _ _).mono ?_; rintro e w' ⟨rfl, rfl⟩) | (go_at_call 97; refine (within_any _ _ _ _).mono ?_; rintro e w' ⟨rfl, rfl⟩))
      all_goals go_ret
      all_goals go_light
      all_goals refine ⟨ret_bool ?_, by repeat (first | exact Below.refl _ _ | refine below_drewN ?_ _ | refine Below.setCell ?_ (by simp) _ | refine Below.alloc ?_ (by simp) _)⟩
      all_goals clear c0 c1 c2 c3 c4 c5
      all_goals rw [Bool.eq_iff_iff]
      all_goals simp only [mayB, decide_eq_true_eq, Bool.false_eq_true, wi_iff, false_iff] at *
      all_goals first | omega | (simp_all; done) | (simp_all; omega) | (simp_all; refine ⟨fun hq => ⟨by omega, by omega, by omega, hq⟩, fun hq => hq.2.2.2⟩)
    · obtain ⟨c0, c1, c2, c3, c4, c5⟩ := r4
      clear r1 r2 r3 r5
      go_enter Tryd.func69, Tryd.ntmps69
      go_wp2_with (first | (go_at_call 51; refine (isType_any _ _).mono ?_; rintro e w' ⟨rfl, rfl⟩) | (go_at_call 97; refine (within_any _ _ _ _).mono ?_; rintro e w' ⟨rfl, rfl⟩))
      all_goals go_ret
      all_goals go_light
      all_goals refine ⟨ret_bool ?_, by repeat (first | exact Below.refl _ _ | refine below_drewN ?_ _ | refine Below.setCell ?_ (by simp) _ | refine Below.alloc ?_ (by simp) _)⟩
      all_goals clear c0 c1 c2 c3 c4 c5
      all_goals rw [Bool.eq_iff_iff]
      all_goals simp only [mayB, decide_eq_true_eq, Bool.false_eq_true, wi_iff, false_iff] at *
      all_goals first | omega | (simp_all; done) | (simp_all; omega) | (simp_all; refine ⟨fun hq => ⟨by omega, by omega, by omega, hq⟩, fun hq => hq.2.2.2⟩)
    · obtain ⟨c0, c1, c2, c3, c4, c5⟩ := r5
      clear r1 r2 r3 r4
      go_enter Tryd.func69, Tryd.ntmps69
      go_wp2_with (first | (go_at_call 51; refine (isType_any _ _).mono ?_; rintro e w' ⟨rfl, rfl⟩) | (go_at_call 97; refine (within_any _ _ _ _).mono ?_; rintro e w' ⟨rfl, rfl⟩))
      all_goals go_ret
      all_goals go_light
      all_goals refine ⟨ret_bool ?_, by repeat (first | exact Below.refl _ _ | refine below_drewN ?_ _ | refine Below.setCell ?_ (by simp) _ | refine Below.alloc ?_ (by simp) _)⟩
      all_goals clear c0 c1 c2 c3 c4 c5
      all_goals rw [Bool.eq_iff_iff]
      all_goals simp only [mayB, decide_eq_true_eq, Bool.false_eq_true, wi_iff, false_iff] at *
      all_goals first | omega | (simp_all; done) | (simp_all; omega) | (simp_all; refine ⟨fun hq => ⟨by omega, by omega, by omega, hq⟩, fun hq => hq.2.2.2⟩)
  · have hwt : wi ty 1 5 = false := (wi_false _ _ _).2 ht
    clear r1 r2 r3 r4 r5
    go_enter Tryd.func69, Tryd.ntmps69
    go_wp2_with (first | (go_at_call 51; refine (isType_any _ _).mono ?_; rintro e w' ⟨rfl, rfl⟩) | (go_at_call 97; refine (within_any _ _ _ _).mono ?_; rintro e w' ⟨rfl, rfl⟩))
    go_ret
    go_light
    refine ⟨ret_bool ?_, by repeat (first | exact Below.refl _ _ | refine below_drewN ?_ _ | refine Below.setCell ?_ (by simp) _ | refine Below.alloc ?_ (by simp) _)⟩
    rw [Bool.eq_iff_iff]
    simp only [mayB, decide_eq_true_eq, Bool.false_eq_true, false_iff] at *
    omega

set_option maxHeartbeats 1000000 in
theorem allMayBe_any (v : Value) (l : List At) (w : World) (hr : RulesAt w) (hv : SliceOf w v l) (hs : ∀ a ∈ l, short a) (hlen : l.length ≤ 281474976710656) :
    Calls Tryd.prog 39 #[v] w fun e w' => e = .returned (.bool (l.all mayB)) ∧ Below w.heap.size w w' := by
  obtain ⟨ad, cap, rfl, hcap, H⟩ := hv
  have HR : Hid (0 < l.length → ∃ b off, ad = some ⟨b, off, none⟩ ∧ b < w.heap.size ∧ RowAt w b off l) := H
  clear H
  have HS : Hid (∀ a ∈ l, short a) := hs
  clear hs
  have HT : Hid (RulesAt w) := hr
  clear hr
  go_enter Tryd.func39, Tryd.ntmps39
  go_wp2
  go_loopw [7] (fun i wr => ∃ k : Nat, k ≤ l.length ∧ i = .int .i64 k ∧ Hid ((l.take k).all mayB = true) ∧ Below w.heap.size w wr) (fun i _ => l.length - (intOf i).toNat)
  case atStart => exact ⟨0, Nat.zero_le _, rfl, by simp [Hid], Below.refl _ _⟩
  case round =>
    obtain ⟨k, hk, rfl, ht, hbw⟩ := hrel
    by_cases hl : k < l.length
    · obtain ⟨b, off, rfl, hb, hrow⟩ := HR.out (by omega)
      obtain ⟨c0, c1, c2, c3, c4, c5⟩ := (hrow.below hbw hb) k hl
      clear hrow HR
      have hsk := HS.out (l[k]) (List.getElem_mem hl)
      have hsz := hbw.size
      have HTr : Hid (RulesAt wr) := HT.out.below hbw HT.out.1
      generalize hak : l[k] = a at *
      have HA : Hid (l[k] = a) := hak
      clear hak
      go_wp2_with fail
      refine (mayBe_any a _ ?hrl hsk).mono ?_
      case hrl => exact HTr.out.below ((Below.refl _ wr).alloc (Nat.le_refl _) _) HTr.out.1
      rintro e w1 ⟨rfl, hb1⟩
      have hbw1 : Below w.heap.size w w1 := (hbw.alloc hsz _).trans (hb1.mono (by simp; omega))
      clear hb1
      cases hm : mayB a
      · go_wp2
        go_ret
        refine ⟨ret_bool ?_, hbw1⟩
        symm
        rw [List.all_eq_false]
        exact ⟨a, HA.out ▸ List.getElem_mem hl, by simp [hm]⟩
      · go_wp2
        go_roundw
        case rel => exact ⟨k + 1, by omega, by go_num, (by rw [Hid, all_snoc _ _ _ hl, HA.out, hm, ht.out]; rfl), hbw1⟩
        case measure => simp [intOf]; omega
    · go_wp2
      go_ret
      refine ⟨ret_bool ?_, hbw⟩
      rw [← ht.out, List.take_of_length_le (by omega)]

end Go.Proofs.YtahdlejgjcjeoaaDoor
