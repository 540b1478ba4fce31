/- Walk of the program's split. -/
import Derived.Test.YtahdlejgjcjeoaaGreatDoorP14
import Derived.Test.YtahdlejgjcjeoaaGreatDoorP08
namespace Go.Proofs.YtahdlejgjcjeoaaGreatDoor
open Go.RowKit Go.Sort

theorem acmp_eq (a b : At) : acmp a b = scmp ⟨a.ty, a.key, a.side, a.who, a.elem⟩ ⟨b.ty, b.key, b.side, b.who, b.elem⟩ := by
  simp only [acmp, scmp, orI]
  split <;> (try split) <;> (try split) <;> (try split) <;> (try split) <;> simp_all
theorem acmp_tp : TP acmp := by
  have : acmp = fun a b : At => scmp ((fun a : At => (⟨a.ty, a.key, a.side, a.who, a.elem⟩ : Sl)) a) ((fun a : At => (⟨a.ty, a.key, a.side, a.who, a.elem⟩ : Sl)) b) := by funext a b; exact acmp_eq a b
  rw [this]; exact scmp_tp.comap _
theorem acmp_swo : SWO (ltOf acmp) where
  irrefl x := by simp [ltOf, acmp_tp.refl]
  trans x y z h1 h2 := by
    simp only [ltOf, decide_eq_true_eq] at *
    exact acmp_tp.lt_le h1 (by omega)
  ntrans x y z h1 h2 := by
    simp only [ltOf, decide_eq_false_iff_not] at *
    have e1 := acmp_tp.anti x y
    have e2 := acmp_tp.anti y z
    have e3 := acmp_tp.anti x z
    have := acmp_tp.trans z y x (by omega) (by omega)
    omega
/-- Where the slots part the program's order is the document's. -/
theorem acmp_plc (a b : At) (h : plc a b ≠ 0) : acmp a b = plc a b := by
  rw [acmp_eq, plc_eq] at *
  by_cases ht : a.ty = b.ty
  · by_cases h5 : a.ty = 5
    · have h5b : b.ty = 5 := by omega
      have e0 : ∀ x, ci x x = 0 := fun x => (ci_zero x x).2 rfl
      have z0 : ∀ x, ordS x x = 0 := fun x => (ordS_zero x x).2 rfl
      simp only [slot, h5, h5b, if_true, scmp, e0, z0] at h ⊢
      simp only [ne_eq, not_true_eq_false, if_false] at h ⊢
      split at h
      · rename_i hk; rw [if_pos hk, if_pos hk]
      · exact absurd rfl h
    · have h5b : ¬ b.ty = 5 := by omega
      simp only [slot, h5, h5b, if_false]
  · have hc : ci a.ty b.ty ≠ 0 := by rw [Ne, ci_zero]; exact ht
    simp only [scmp, slot_ty]
    rw [if_pos hc, if_pos hc]

abbrev inhAt : Inhabited At := ⟨zAt⟩

theorem flatK_eq (C : List At) : @flatK At inhAt enc 6 C.toArray = (flat C).toArray := by
  letI := inhAt
  apply Array.ext
  · simp [flat_length]
  · intro t h1 h2
    have ht : t < C.length * 6 := by simpa using h1
    have hk : t / 6 < C.length := by omega
    have hg := flat_get C (t / 6) (t % 6) hk (Nat.mod_lt _ (by decide))
    rw [show t / 6 * 6 + t % 6 = t by omega] at hg
    have e1 : (flatK enc 6 C.toArray)[t]! = (enc C.toArray[t / 6]!)[t % 6]! := get_flatK enc 6 C.toArray t (by simpa using ht)
    have e2 : C.toArray[t / 6]! = C[t / 6] := by simp [hk]
    rw [e2] at e1
    have e3 : (flatK enc 6 C.toArray)[t]! = (flatK enc 6 C.toArray)[t] := getElem!_pos _ t h1
    rw [← e3, e1]
    have hl : t % 6 < (enc C[t / 6]).length := by show t % 6 < 6; omega
    rw [List.getElem?_eq_getElem hl, List.getElem?_eq_some_iff] at hg
    obtain ⟨hh, hg⟩ := hg
    rw [getElem!_pos (enc C[t / 6]) (t % 6) hl, ← hg]
    simp

theorem holdsK_of_block {w : World} {g : Nat} {cur : Array Value} {e : TypeId} {C : List At} (hb : w.heap[g]? = some (.cells cur e (0, 0))) (ht : cur.toList.take (C.length * 6) = flat C) : @HoldsK At inhAt enc 6 w g 0 C.toArray := by
  letI := inhAt
  unfold HoldsK
  rw [flatK_eq]
  intro j hj
  have hj' : j < (flat C).length := by simpa using hj
  refine ⟨?_, by simp [World.frozen?, hb]⟩
  have hl := flat_length C
  have h1 : (cur.toList.take (C.length * 6))[j]? = (flat C)[j]? := by rw [ht]
  rw [List.getElem?_take_of_lt (by omega)] at h1
  simp only [World.cell?, hb, Nat.zero_add]
  simp only [Option.isSome_none, Bool.false_eq_true, if_false]
  rw [← Array.getElem?_toList, h1]
  simp [hj']

theorem heap_sortedK {w : World} {g n : Nat} {os : Array Obj} {cur : Array Value} {e : TypeId} (F : Array Value) (hb : w.heap[g]? = some (.cells cur e (0, 0))) :
    (grow (putRow id (Sort.ahead w n) g 0 F) os).heap[g]? = some (.cells (putCells id 0 F cur) e (0, 0)) := by
  have hlt := (Array.getElem?_eq_some_iff.1 hb).1
  rw [heap_grow_old _ _ (by simpa using hlt)]
  simp [putRow, mapBlock, Sort.ahead, Array.getElem?_modify, hb, onCells]
theorem grownBy_sortedK {w : World} {g n : Nat} {os : Array Obj} (F : Array Value) : w.grownBy (grow (putRow id (Sort.ahead w n) g 0 F) os) (some g) := by
  refine ⟨rfl, rfl, rfl, by simp, fun k hk hne => ?_⟩
  rw [heap_grow_old _ _ (by simpa using hk)]
  have : g ≠ k := fun e => hne (by rw [e])
  simp [putRow, mapBlock, Sort.ahead, Array.getElem?_modify, this]
theorem take_putCellsK (cur : Array Value) (F : List Value) (h : F.length ≤ cur.size) : (putCells id 0 F.toArray cur).toList.take F.length = F := by
  apply List.ext_getElem?
  intro j
  by_cases hj : j < F.length
  · rw [List.getElem?_take_of_lt hj, Array.getElem?_toList]
    simp [putCells, hj, show j < cur.size by omega]
  · rw [List.getElem?_take_eq_none (by omega), List.getElem?_eq_none (by omega)]

theorem cmpLays (blk off size : Nat) (w : World) : @CmpLays At inhAt Tryz.prog 105 #[] enc 6 acmp blk off size w :=
  fun _ _ _ _ x y => compareAtoms_any x y _

/-- SortFunc, on a row of the call's own: a permutation, sorted by the program's order; nothing else has turned. -/
theorem sort_any (base g cap : Nat) (C : List At) (w : World) (hown : w.ownsRow base 77 6 (.slice (some ⟨g, 0, none⟩) C.length cap) C.length (flat C)) (hlen : C.length < 4611686018427387904) :
    Calls Tryz.prog 104 #[.slice (some ⟨g, 0, none⟩) C.length cap, .func (.func 105) #[] #[]] w fun e w' =>
      e = .returned (.tuple #[]) ∧ ∃ C' : List At, C'.Perm C ∧ C'.Pairwise (fun x y => 0 ≤ acmp y x) ∧ w'.ownsRow base 77 6 (.slice (some ⟨g, 0, none⟩) C.length cap) C.length (flat C') ∧ w.grownBy w' (some g) := by
  letI := inhAt
  rcases hown.2 with ⟨h0, _⟩ | ⟨g', cap', cur, hv, hbase, hb, h1, h2, h3, h4⟩
  · cases h0
  cases hv
  have eg : ∀ args w, (callFunc 105 args).run Tryz.prog w = .ok (.enter 105 args) w := enters_of Tryz.func105 (by kernel_rfl) rfl
  have hH := holdsK_of_block hb h4
  have hcon := AnyQ.slices_SortFunc sortAtoms 6 Tryz.isAgg77 Tryz.sizeOf77 enc (fun _ => rfl) enc_oneCell acmp acmp_swo 105 #[] g 0 cap C.toArray w eg (cmpLays g 0 C.toArray.size w) hH (Array.getElem?_eq_some_iff.1 hb).1 (by simpa using hlen)
  rw [show C.toArray.size = C.length from rfl] at hcon
  refine Calls.mono (show Calls Tryz.prog 104 _ _ _ from hcon) ?_
  rintro e w' ⟨rfl, d', n, os, hp, hs, rfl⟩
  obtain ⟨hsize, _, hperm⟩ := hp
  have hperm' : d'.toList.Perm C := by
    have e1 : (d'.extract 0 C.length).toList = d'.toList := by rw [← show d'.size = C.length from hsize]; simp
    have e2 : (C.toArray.extract 0 C.length).toList = C := by simp
    rw [e1, e2] at hperm
    exact hperm
  have hlen' : d'.toList.length = C.length := hperm'.length_eq
  refine ⟨rfl, d'.toList, hperm', ?_, ?_, ?_⟩
  · rw [List.pairwise_iff_getElem]
    intro i j hi hj hij
    have := hs i j (Nat.zero_le _) hij (by omega)
    simp only [ltOf, decide_eq_false_iff_not] at this
    have e1 : d'[j]! = d'.toList[j] := by rw [getElem!_pos d' j (by simpa using hj)]; simp
    have e2 : d'[i]! = d'.toList[i] := by rw [getElem!_pos d' i (by simpa using hi)]; simp
    rw [e1, e2] at this
    omega
  · have hF : flatK enc 6 d' = (flat d'.toList).toArray := by have := flatK_eq d'.toList; simpa using this
    have hfl := flat_length d'.toList
    unfold sortWorldK putRowK
    rw [hF]
    refine ⟨by rw [hfl, hlen'], .inr ⟨g, cap, _, rfl, hbase, heap_sortedK _ hb, h1, h2, by simp [putCells, h3], ?_⟩⟩
    have := take_putCellsK cur (flat d'.toList) (by rw [hfl, hlen', h3]; exact Nat.mul_le_mul_right _ h1)
    rw [hfl, hlen'] at this
    exact this
  · exact grownBy_sortedK _
end Go.Proofs.YtahdlejgjcjeoaaGreatDoor

namespace Go.Proofs.YtahdlejgjcjeoaaGreatDoor
open Go.RowKit

set_option maxHeartbeats 2000000 in
theorem mayBe_any (a : At) (w : World) (h : RulesAt w) (ha : short a) :
    Calls Tryz.prog 212 #[a.val] w fun e w' => e = .returned (.bool (mayB a)) ∧ Below w.heap.size w w' := by
  obtain ⟨ty, key, side, who, elem, n⟩ := a
  simp only [short] at ha
  obtain ⟨hk, he⟩ := ha
  obtain ⟨h0, r1, r2, r3, r4, r5⟩ := h
  unfold At.val
  simp only
  by_cases ht : 1 ≤ ty ∧ ty ≤ 5
  · have hwt : wi ty 1 5 = true := (wi_iff _ _ _).2 ht
    rcases kinds5 ht.1 ht.2 with rfl | rfl | rfl | rfl | rfl
    · obtain ⟨c0, c1, c2, c3, c4, c5⟩ := r1
      clear r2 r3 r4 r5
      go_enter Tryz.func212, Tryz.ntmps212
      go_wp2_with (first | (go_at_call 140; refine (isType_any _ _).mono ?_; rintro e w' ⟨rfl, rfl⟩) | (go_at_call 180; refine (within_any _ _ _ _).mono ?_; rintro e w' ⟨rfl, rfl⟩))
      all_goals go_ret
      all_goals go_light
      all_goals refine ⟨ret_bool ?_, by repeat (first | exact Below.refl _ _ | refine below_drewN ?_ _ | refine Below.setCell ?_ (by simp) _ | refine Below.alloc ?_ (by simp) _)⟩
      all_goals clear c0 c1 c2 c3 c4 c5
      all_goals rw [Bool.eq_iff_iff]
      all_goals simp only [mayB, decide_eq_true_eq, Bool.false_eq_true, wi_iff, false_iff] at *
      all_goals first | omega | (simp_all; done) | (simp_all; omega) | (simp_all; refine ⟨fun hq => ⟨by omega, by omega, by omega, hq⟩, fun hq => hq.2.2.2⟩)
    · obtain ⟨c0, c1, c2, c3, c4, c5⟩ := r2
      clear r1 r3 r4 r5
      go_enter Tryz.func212, Tryz.ntmps212
      go_wp2_with (first | (go_at_call 140; refine (isType_any _ _).mono ?_; rintro e w' ⟨rfl, rfl⟩) | (go_at_call 180; refine (within_any _ _ _ _).mono ?_; rintro e w' ⟨rfl, rfl⟩))
      all_goals go_ret
      all_goals go_light
      all_goals refine ⟨ret_bool ?_, by repeat (first | exact Below.refl _ _ | refine below_drewN ?_ _ | refine Below.setCell ?_ (by simp) _ | refine Below.alloc ?_ (by simp) _)⟩
      all_goals clear c0 c1 c2 c3 c4 c5
      all_goals rw [Bool.eq_iff_iff]
      all_goals simp only [mayB, decide_eq_true_eq, Bool.false_eq_true, wi_iff, false_iff] at *
      all_goals first | omega | (simp_all; done) | (simp_all; omega) | (simp_all; refine ⟨fun hq => ⟨by omega, by omega, by omega, hq⟩, fun hq => hq.2.2.2⟩)
    · obtain ⟨c0, c1, c2, c3, c4, c5⟩ := r3
      clear r1 r2 r4 r5
      go_enter Tryz.func212, Tryz.ntmps212
      go_wp2_with (first | (go_at_call 140; refine (isType_any _ _).mono ?_; rintro e w' ⟨rfl, rfl⟩) | (go_at_call 180; refine (within_any _ _ _ _).mono ?_; rintro e w' ⟨rfl, rfl⟩))
      all_goals go_ret
      all_goals go_light
      all_goals refine ⟨ret_bool ?_, by repeat (first | exact Below.refl _ _ | refine below_drewN ?_ _ | refine Below.setCell ?_ (by simp) _ | refine Below.alloc ?_ (by simp) _)⟩
      all_goals clear c0 c1 c2 c3 c4 c5
      all_goals rw [Bool.eq_iff_iff]
      all_goals simp only [mayB, decide_eq_true_eq, Bool.false_eq_true, wi_iff, false_iff] at *
      all_goals first | omega | (simp_all; done) | (simp_all; omega) | (simp_all; refine ⟨fun hq => ⟨by omega, by omega, by omega, hq⟩, fun hq => hq.2.2.2⟩)
    · obtain ⟨c0, c1, c2, c3, c4, c5⟩ := r4
      clear r1 r2 r3 r5
      go_enter Tryz.func212, Tryz.ntmps212
      go_wp2_with (first | (go_at_call 140; refine (isType_any _ _).mono ?_; rintro e w' ⟨rfl, rfl⟩) | (go_at_call 180; refine (within_any _ _ _ _).mono ?_; rintro e w' ⟨rfl, rfl⟩))
      all_goals go_ret
      all_goals go_light
      all_goals refine ⟨ret_bool ?_, by repeat (first | exact Below.refl _ _ | refine below_drewN ?_ _ | refine Below.setCell ?_ (by simp) _ | refine Below.alloc ?_ (by simp) _)⟩
      all_goals clear c0 c1 c2 c3 c4 c5
      all_goals rw [Bool.eq_iff_iff]
      all_goals simp only [mayB, decide_eq_true_eq, Bool.false_eq_true, wi_iff, false_iff] at *
      all_goals first | omega | (simp_all; done) | (simp_all; omega) | (simp_all; refine ⟨fun hq => ⟨by omega, by omega, by omega, hq⟩, fun hq => hq.2.2.2⟩)
    · obtain ⟨c0, c1, c2, c3, c4, c5⟩ := r5
      clear r1 r2 r3 r4
      go_enter Tryz.func212, Tryz.ntmps212
      go_wp2_with (first | (go_at_call 140; refine (isType_any _ _).mono ?_; rintro e w' ⟨rfl, rfl⟩) | (go_at_call 180; refine (within_any _ _ _ _).mono ?_; rintro e w' ⟨rfl, rfl⟩))
      all_goals go_ret
      all_goals go_light
      all_goals refine ⟨ret_bool ?_, by repeat (first | exact Below.refl _ _ | refine below_drewN ?_ _ | refine Below.setCell ?_ (by simp) _ | refine Below.alloc ?_ (by simp) _)⟩
      all_goals clear c0 c1 c2 c3 c4 c5
      all_goals rw [Bool.eq_iff_iff]
      all_goals simp only [mayB, decide_eq_true_eq, Bool.false_eq_true, wi_iff, false_iff] at *
      all_goals first | omega | (simp_all; done) | (simp_all; omega) | (simp_all; refine ⟨fun hq => ⟨by omega, by omega, by omega, hq⟩, fun hq => hq.2.2.2⟩)
  · have hwt : wi ty 1 5 = false := (wi_false _ _ _).2 ht
    clear r1 r2 r3 r4 r5
    go_enter Tryz.func212, Tryz.ntmps212
    go_wp2_with (first | (go_at_call 140; refine (isType_any _ _).mono ?_; rintro e w' ⟨rfl, rfl⟩) | (go_at_call 180; refine (within_any _ _ _ _).mono ?_; rintro e w' ⟨rfl, rfl⟩))
    go_ret
    go_light
    refine ⟨ret_bool ?_, by repeat (first | exact Below.refl _ _ | refine below_drewN ?_ _ | refine Below.setCell ?_ (by simp) _ | refine Below.alloc ?_ (by simp) _)⟩
    rw [Bool.eq_iff_iff]
    simp only [mayB, decide_eq_true_eq, Bool.false_eq_true, false_iff] at *
    omega

set_option maxHeartbeats 1000000 in
theorem allMayBe_any (v : Value) (l : List At) (w : World) (hr : RulesAt w) (hv : SliceOf w v l) (hs : ∀ a ∈ l, short a) (hlen : l.length ≤ 281474976710656) :
    Calls Tryz.prog 179 #[v] w fun e w' => e = .returned (.bool (l.all mayB)) ∧ Below w.heap.size w w' := by
  obtain ⟨ad, cap, rfl, hcap, H⟩ := hv
  have HR : Hid (0 < l.length → ∃ b off, ad = some ⟨b, off, none⟩ ∧ b < w.heap.size ∧ RowAt w b off l) := H
  clear H
  have HS : Hid (∀ a ∈ l, short a) := hs
  clear hs
  have HT : Hid (RulesAt w) := hr
  clear hr
  go_enter Tryz.func179, Tryz.ntmps179
  go_wp2
  go_loopw [7] (fun i wr => ∃ k : Nat, k ≤ l.length ∧ i = .int .i64 k ∧ Hid ((l.take k).all mayB = true) ∧ Below w.heap.size w wr) (fun i _ => l.length - (intOf i).toNat)
  case atStart => exact ⟨0, Nat.zero_le _, rfl, by simp [Hid], Below.refl _ _⟩
  case round =>
    obtain ⟨k, hk, rfl, ht, hbw⟩ := hrel
    by_cases hl : k < l.length
    · obtain ⟨b, off, rfl, hb, hrow⟩ := HR.out (by omega)
      obtain ⟨c0, c1, c2, c3, c4, c5⟩ := (hrow.below hbw hb) k hl
      clear hrow HR
      have hsk := HS.out (l[k]) (List.getElem_mem hl)
      have hsz := hbw.size
      have HTr : Hid (RulesAt wr) := HT.out.below hbw HT.out.1
      generalize hak : l[k] = a at *
      have HA : Hid (l[k] = a) := hak
      clear hak
      go_wp2_with fail
      refine (mayBe_any a _ ?hrl hsk).mono ?_
      case hrl => exact HTr.out.below ((Below.refl _ wr).alloc (Nat.le_refl _) _) HTr.out.1
      rintro e w1 ⟨rfl, hb1⟩
      have hbw1 : Below w.heap.size w w1 := (hbw.alloc hsz _).trans (hb1.mono (by simp; omega))
      clear hb1
      cases hm : mayB a
      · go_wp2
        go_ret
        refine ⟨ret_bool ?_, hbw1⟩
        symm
        rw [List.all_eq_false]
        exact ⟨a, HA.out ▸ List.getElem_mem hl, by simp [hm]⟩
      · go_wp2
        go_roundw
        case rel => exact ⟨k + 1, by omega, by go_num, (by rw [Hid, all_snoc _ _ _ hl, HA.out, hm, ht.out]; rfl), hbw1⟩
        case measure => simp [intOf]; omega
    · go_wp2
      go_ret
      refine ⟨ret_bool ?_, hbw⟩
      rw [← ht.out, List.take_of_length_le (by omega)]

end Go.Proofs.YtahdlejgjcjeoaaGreatDoor

namespace Go.Proofs.YtahdlejgjcjeoaaGreatDoor
open Go.RowKit

def mxG (g h : Gr) : Gr := if gcmp g h < 0 then h else g

set_option maxHeartbeats 1000000 in
theorem greater_any (g h : Gr) (w : World) :
    Calls Tryz.prog 158 #[g.val, h.val] w fun e w' => e = .returned (mxG g h).val ∧ Below w.heap.size w w' := by
  have hcon := fun W => compareGrades_any g h W
  obtain ⟨n1, w1, e1⟩ := g
  obtain ⟨n2, w2, e2⟩ := h
  have HM : Hid (mxG ⟨n1, w1, e1⟩ ⟨n2, w2, e2⟩ = if gcmp ⟨n1, w1, e1⟩ ⟨n2, w2, e2⟩ < 0 then ⟨n2, w2, e2⟩ else ⟨n1, w1, e1⟩) := rfl
  generalize gcmp ⟨n1, w1, e1⟩ ⟨n2, w2, e2⟩ = c at *
  unfold Gr.val at *
  simp only at *
  go_enter Tryz.func158, Tryz.ntmps158
  go_wp2_with fail
  refine (hcon _).mono ?_
  rintro e w3 ⟨rfl, hb3⟩
  obtain ⟨hc3, hf3⟩ := bcell hb3
  have hz : w.heap.size + 1 + 1 < w3.heap.size := by have := hb3.size; simp at this; omega
  have hbw : Below w.heap.size w w3 := (below_alloc (below_alloc (below_alloc (Below.refl _ w) _) _) _).trans (hb3.mono (by simp; omega))
  clear hcon
  by_cases hlt : c < 0
  · go_wp2
    refine bodyPost_ret (v := Gr.val ⟨n2, w2, e2⟩) (by simp [results, Tryz.results158, go_sem, Gr.val, hc3]) rfl ⟨by rw [HM.out, if_pos hlt]; rfl, ?_⟩
    refine Below.setCell (Below.setCell (Below.setCell hbw ?_ _) ?_ _) ?_ _ <;> (dsimp only; omega)
  · go_wp2
    refine bodyPost_ret (v := Gr.val ⟨n1, w1, e1⟩) (by simp [results, Tryz.results158, go_sem, Gr.val, hc3]) rfl ⟨by rw [HM.out, if_neg (by omega)]; rfl, ?_⟩
    refine Below.setCell (Below.setCell (Below.setCell hbw ?_ _) ?_ _) ?_ _ <;> (dsimp only; omega)

set_option maxHeartbeats 1000000 in
theorem unite_any (s : Sl) (g : Gr) (w : World) (h : RulesAt w) (h1 : 1 ≤ s.ty) (h5 : s.ty ≤ 5) :
    Calls Tryz.prog 103 #[s.val, g.val] w fun e w' => e = .returned (unite s g).val ∧ Below w.heap.size w w' := by
  obtain ⟨ty, key, side, who, elem⟩ := s
  obtain ⟨n, who', elem'⟩ := g
  simp only at h1 h5
  have HT : Hid (RulesAt w) := h
  clear h
  unfold Sl.val Gr.val
  simp only
  by_cases ht : ty = 5
  · subst ht
    go_enter Tryz.func103, Tryz.ntmps103
    go_wp2_with fail
    refine (isRegister_any 5 _ ?hrl (by omega) (by omega)).mono ?_
    case hrl => exact HT.out.below (B := w.heap.size) (by repeat (first | exact Below.refl _ _ | refine below_alloc ?_ _)) HT.out.1
    rintro e w1 ⟨rfl, rfl⟩
    go_wp2
    refine bodyPost_ret (v := At.val ⟨5, key, 0, who', elem', n⟩) (by simp [results, Tryz.results103, go_sem, At.val]) rfl ⟨by simp [unite], ?_⟩
    go_light
    exact below_alloc (below_alloc (below_alloc (Below.refl _ w) _) _) _
  · have hk : (ty == 5) = false := by simp [ht]
    go_enter Tryz.func103, Tryz.ntmps103
    go_wp2_with fail
    refine (isRegister_any ty _ ?hrl (by omega) (by omega)).mono ?_
    case hrl => exact HT.out.below (B := w.heap.size) (by repeat (first | exact Below.refl _ _ | refine below_alloc ?_ _)) HT.out.1
    rintro e w1 ⟨rfl, rfl⟩
    go_wp2
    refine bodyPost_ret (v := At.val ⟨ty, key, side, who, elem, n⟩) (by simp [results, Tryz.results103, go_sem, At.val]) rfl ⟨by simp [unite, ht], ?_⟩
    go_light
    exact below_alloc (below_alloc (below_alloc (Below.refl _ w) _) _) _

end Go.Proofs.YtahdlejgjcjeoaaGreatDoor

namespace Go.Proofs.YtahdlejgjcjeoaaGreatDoor
open Go.RowKit

set_option maxHeartbeats 1000000 in
theorem split_any (a : At) (w : World) (h : RulesAt w) (h1 : 1 ≤ a.ty) (h5 : a.ty ≤ 5) :
    Calls Tryz.prog 157 #[a.val] w fun e w' => e = .returned (.tuple #[(slot a).val, (grade a).val]) ∧ Below w.heap.size w w' := by
  obtain ⟨ty, key, side, who, elem, n⟩ := a
  simp only at h1 h5
  have HT : Hid (RulesAt w) := h
  clear h
  unfold At.val
  simp only
  by_cases ht : ty = 5
  · subst ht
    go_enter Tryz.func157, Tryz.ntmps157
    go_wp2_with fail
    refine (isRegister_any 5 _ ?hrl (by omega) (by omega)).mono ?_
    case hrl => exact HT.out.below (B := w.heap.size) (by repeat (first | exact Below.refl _ _ | refine below_alloc ?_ _)) HT.out.1
    rintro e w1 ⟨rfl, rfl⟩
    go_wp2
    go_region
    all_goals go_wp2
    refine bodyPost_ret (v := .tuple #[Sl.val ⟨5, key, 0, 0, ByteArray.empty⟩, Gr.val ⟨n, who, elem⟩]) (by simp [results, Tryz.results157, go_sem, Sl.val, Gr.val]; rfl) rfl ⟨by simp [slot, grade], ?_⟩
    go_light
    repeat (first | exact Below.refl _ _ | refine below_drewN ?_ _ | refine Below.drew ?_ | refine Below.setCell ?_ (by simp) _ | refine below_alloc ?_ _)
  · have hk : (ty == 5) = false := by simp [ht]
    go_enter Tryz.func157, Tryz.ntmps157
    go_wp2_with fail
    refine (isRegister_any ty _ ?hrl (by omega) (by omega)).mono ?_
    case hrl => exact HT.out.below (B := w.heap.size) (by repeat (first | exact Below.refl _ _ | refine below_alloc ?_ _)) HT.out.1
    rintro e w1 ⟨rfl, rfl⟩
    go_wp2
    go_region
    all_goals go_wp2
    refine bodyPost_ret (v := .tuple #[Sl.val ⟨ty, key, side, who, elem⟩, Gr.val ⟨n, 0, ByteArray.empty⟩]) (by simp [results, Tryz.results157, go_sem, Sl.val, Gr.val]; rfl) rfl ⟨by simp [slot, grade, ht], ?_⟩
    go_light
    repeat (first | exact Below.refl _ _ | refine below_drewN ?_ _ | refine Below.drew ?_ | refine Below.setCell ?_ (by simp) _ | refine below_alloc ?_ _)
end Go.Proofs.YtahdlejgjcjeoaaGreatDoor
