/- Walk of the program's rise. -/
import Derived.Test.YtahdlejgjcjeoabGreatDoorS20
import Derived.Test.YtahdlejgjcjeoabGreatDoorS05
import Derived.Deep.RegionLaw
import Derived.Test.YtahdlejgjcjeoabGreatDoorS19
import Derived.Test.YtahdlejgjcjeoabGreatDoorS14
namespace Go.Proofs.YtahdlejgjcjeoabGreatDoor
open Go.RowKit Go.Maps

def regSlot (key : ByteArray) : Sl := ⟨5, key, 0, 0, ByteArray.empty⟩
theorem register_none {M : Sl → Option Gr} {l T : List At} {key : ByteArray} (h : Holds2 M l) (hl : ∀ a ∈ l, mayB a = true) (hT : IsTold l T) (hM : M (regSlot key) = none) : valN 5 key T = 0 ∧ valE T 5 key T = [] := by
  have he : ofKey T 5 key = [] := by
    rw [List.eq_nil_iff_forall_not_mem]
    intro a ha
    obtain ⟨h1, h2, h3⟩ := mem_ofKey.1 ha
    have hm := ((told_inM h hl hT a).1 h1).2
    have : slot a = regSlot key := by unfold slot regSlot; rw [if_pos h2, h2, h3]
    rw [this, hM] at hm
    cases hm
  unfold valN valE
  rw [he]
  simp
theorem register_some {M : Sl → Option Gr} {l T : List At} {key : ByteArray} {g : Gr} (h : Holds2 M l) (hl : ∀ a ∈ l, mayB a = true) (hT : IsTold l T) (hM : M (regSlot key) = some g) : valN 5 key T = g.n ∧ valE T 5 key T = [g.elem] := by
  obtain ⟨a, ha, h1, h2⟩ := h.only _ _ hM
  have haT : a ∈ T := (told_inM h hl hT a).2 ⟨hl a ha, by rw [h1, h2]; exact hM⟩
  have hty : a.ty = 5 := by rw [← slot_ty a, h1]; rfl
  have hke : a.key = key := by rw [← slot_key a, h1]; rfl
  have hg : g = ⟨a.n, a.who, a.elem⟩ := by rw [← h2]; unfold grade; rw [if_pos hty]
  have he : ofKey T 5 key = [a] := by
    refine sorted_ext plc_tp (ofKey_sorted hT.sorted 5 key) (List.pairwise_singleton _ _) fun x => ?_
    rw [mem_ofKey, List.mem_singleton]
    constructor
    · rintro ⟨x1, x2, x3⟩
      have hs : slot x = slot a := by rw [h1]; unfold slot regSlot; rw [if_pos x2, x2, x3]
      have hxm := (told_inM h hl hT x).1 x1
      have ham := (told_inM h hl hT a).1 haT
      have hgr : grade x = grade a := by
        have := hxm.2
        rw [hs, ham.2] at this
        exact (Option.some.inj this).symm
      rw [← unite_eq x hxm.1, ← unite_eq a ham.1, hs, hgr]
    · rintro rfl
      exact ⟨haT, hty, hke⟩
  unfold valN valE keepsE
  rw [he, hg]
  simp

set_option maxRecDepth 100000 in
set_option maxHeartbeats 1000000 in
theorem register_any (b n : Nat) (M : Sl → Option Gr) (key : ByteArray) (w : World) (hm : StMap w b n M) (hk : key.size ≤ 1099511627776) :
    Calls Tryz.prog 157 #[.map (some b), .string key] w fun e w' => ∃ v, e = .returned (.agg #[.int .i64 (match M (regSlot key) with | some g => g.n | none => 0), v]) ∧ Hid (w'.ownsRow w.heap.size 9 1 v (match M (regSlot key) with | some _ => 1 | none => 0) (match M (regSlot key) with | some g => [.string g.elem] | none => [])) ∧ Below w.heap.size w w' := by
  have hok : (regSlot key).ok := ⟨(by decide : (Lit.int .i64 5).wf = true), (by show key.size ≤ maxLen; unfold maxLen; omega), (by decide : (Lit.int .i64 0).wf = true), (by decide : (Lit.int .i64 0).wf = true), (by decide : ByteArray.empty.size ≤ maxLen)⟩
  have hem : (ByteArray.empty : ByteArray) = ⟨#[]⟩ := rfl
  cases hM : M (regSlot key) with
  | none =>
    have hgot : got M (regSlot key) = ⟨0, 0, ByteArray.empty⟩ := by unfold got; rw [hM]; rfl
    have hsome : (M (regSlot key)).isSome = false := by rw [hM]; rfl
    clear hM
    go_enter Tryz.func157, Tryz.ntmps157
    go_wp2_with (at_lookup; refine wpList_st_look_exp _ rfl _ _ 122 rfl Tryz.underlying122 b n M rfl (by first | exact hm | exact hm.alloc _ | exact (hm.alloc _).alloc _) (regSlot key) hok rfl ⟨0, 0, ByteArray.empty⟩ false hgot hsome ?_)
    refine bodyPost_ret (v := .agg #[.int .i64 0, .slice none 0 0]) ?_ rfl ⟨_, rfl, ⟨rfl, .inl ⟨rfl, rfl⟩⟩, below_alloc (below_alloc (Below.refl _ _) _) _⟩
    simp [results, Tryz.results157, go_sem]
  | some g =>
    have hgot : got M (regSlot key) = g := by unfold got; rw [hM]; rfl
    have hsome : (M (regSlot key)).isSome = true := by rw [hM]; rfl
    clear hM
    go_enter Tryz.func157, Tryz.ntmps157
    go_wp2_with (at_lookup; refine wpList_st_look_exp _ rfl _ _ 122 rfl Tryz.underlying122 b n M rfl (by first | exact hm | exact hm.alloc _ | exact (hm.alloc _).alloc _) (regSlot key) hok rfl g true hgot hsome ?_)
    refine bodyPost_ret (v := .agg #[.int .i64 g.n, .slice (some ⟨w.heap.size + 1 + 1, 0, none⟩) 1 1]) ?_ rfl ⟨_, rfl, ⟨rfl, .inr ⟨w.heap.size + 1 + 1, 1, #[.string g.elem], rfl, by omega, ?_, Nat.le_refl _, by unfold maxLen; omega, rfl, rfl⟩⟩, below_alloc (below_alloc (below_alloc (Below.refl _ _) _) _) _⟩
    · simp [results, Tryz.results157, go_sem]
    · have := heap_alloc_new ((w.alloc (.cells #[.int .i64 g.n, .slice (some ⟨w.heap.size + 1 + 1, 0, none⟩) 1 1] 129)).alloc (.cells #[.int .i64 g.n, .int .i64 g.who, .string g.elem] 213)) (.cells #[.string g.elem] 9)
      simpa using this

/-- What a Read answers. -/
def readCode (l : List At) (kind : Int) : Int := if l.all mayB then (if 1 ≤ kind ∧ kind ≤ 5 then 0 else 6) else 1
def ReadSpec (l : List At) (kind : Int) (key : ByteArray) (n : Int) (es : List ByteArray) : Prop :=
  (readCode l kind = 0 ∧ (∀ a ∈ l, mayB a = true) ∧ ∃ T, IsTold l T ∧ n = valN kind key T ∧ es = valE T kind key T) ∨ (readCode l kind ≠ 0 ∧ n = 0 ∧ es = [])
theorem ReadSpec.unique {l : List At} {kind : Int} {key : ByteArray} {n m : Int} {es fs : List ByteArray} (h : ReadSpec l kind key n es) (k : ReadSpec l kind key m fs) : n = m ∧ es = fs := by
  rcases h with ⟨h0, hm, T, hT, rfl, rfl⟩ | ⟨h0, rfl, rfl⟩
  · rcases k with ⟨_, _, T', hT', rfl, rfl⟩ | ⟨k0, _⟩
    · obtain rfl := hT.unique hm hT'
      exact ⟨rfl, rfl⟩
    · exact absurd h0 k0
  · rcases k with ⟨k0, _⟩ | ⟨_, rfl, rfl⟩
    · exact absurd k0 h0
    · exact ⟨rfl, rfl⟩

/-- The answer's own cells, not yet written. -/
def ResAt (w : World) (q : Nat) : Prop := w.heap[q]? = some (.cells #[.int .i64 0, .slice none 0 0] 129 (0, 0))
theorem ResAt.cells {w : World} {q : Nat} (h : ResAt w q) : w.cell? ⟨q, 0, none⟩ = some (.int .i64 0) ∧ w.cell? ⟨q, 1, none⟩ = some (.slice none 0 0) ∧ w.frozen? ⟨q, 0, none⟩ = false ∧ w.frozen? ⟨q, 1, none⟩ = false := by
  unfold ResAt at h
  refine ⟨?_, ?_, ?_, ?_⟩ <;> simp [World.cell?, World.frozen?, h]
theorem ResAt.below {w w' : World} {q B : Nat} (h : ResAt w q) (hb : Below B w w') (hq : q < B) : ResAt w' q := by
  unfold ResAt at *
  rw [hb.block q hq]
  exact h
theorem owns_set {w : World} {base q o : Nat} {e : TypeId} {s n : Nat} {v u : Value} {xs : List Value} (h : w.ownsRow base e s v n xs) (hq : q < base) : (w.setCell ⟨q, o, none⟩ u).ownsRow base e s v n xs :=
  owns_grown (r := q) h ⟨rfl, rfl, rfl, by simp, fun i _ hne => Below.heap_setCell _ _ _ i (fun e => hne (by rw [e]))⟩ hq

set_option maxRecDepth 100000 in
set_option maxHeartbeats 2000000 in
theorem read_yes (v : Value) (l T : List At) (kind : Int) (key : ByteArray) (w : World) (hr : RulesAt w) (h1 : SliceOf w v l) (hs1 : ∀ a ∈ l, short a) (hlen : l.length ≤ 4194304) (hk : key.size ≤ 1099511627776) (hl : l.all mayB = true) (hT : IsTold l T) (hki : 1 ≤ kind ∧ kind ≤ 5) :
    Calls Tryz.prog 106 #[v, .int .i64 kind, .string key] w fun e w' => ∃ v', e = .returned (.tuple #[.agg #[.int .i64 (valN kind key T), v'], .int .i64 0]) ∧ Hid (w'.ownsRow w.heap.size 9 1 v' (valE T kind key T).length ((valE T kind key T).map Value.string)) ∧ Below w.heap.size w w' := by
  have hmay : ∀ a ∈ l, mayB a = true := List.all_eq_true.1 hl
  have HML : Hid (∀ a ∈ l, mayB a = true) := hmay
  have HT : Hid (IsTold l T) := hT
  have HC1 : Hid (∀ W, Below w.heap.size w W → Calls Tryz.prog 152 #[v] W fun e w' => ∃ b, e = .returned (.tuple #[.map (some b), .int .i64 0]) ∧ W.heap.size ≤ b ∧ StMap w' b l.length (addTo (fun _ => none) l) ∧ Below W.heap.size W w') := fun W hW => of_yes v l W (hr.below hW hr.1) (h1.below hW) hs1 (by omega) hl
  have HH : Hid (Holds2 (addTo (fun _ => none) l) l) := holds_list l
  generalize addTo (fun _ => none) l = M at *
  have hwi : wi kind 1 5 = true := by unfold wi; simp; omega
  clear hr h1 hs1 hl hT hmay
  go_enter Tryz.func106, Tryz.ntmps106
  go_wp2_with fail
  have hb0 := below_alloc (Below.refl _ w) (.cells #[.int .i64 0, .slice none 0 0] 129)
  have hz0 : (w.alloc (.cells #[.int .i64 0, .slice none 0 0] 129)).heap.size = w.heap.size + 1 := by simp
  have hr0 : ResAt (w.alloc (.cells #[.int .i64 0, .slice none 0 0] 129)) w.heap.size := heap_alloc_new w _
  generalize w.alloc (.cells #[.int .i64 0, .slice none 0 0] 129) = w0 at *
  refine (HC1.out w0 hb0).mono ?_
  rintro e w1 ⟨b, rfl, hbb, hst1, hb1⟩
  have hbw1 : Below w.heap.size w w1 := hb0.trans (hb1.mono hb0.size)
  have hr1 := hr0.below hb1 (by omega)
  have hz1 := hb1.size
  clear HC1
  go_wp2_with fail
  refine (isType_any kind w1).mono ?_
  rintro e w2 ⟨rfl, rfl⟩
  rw [hwi]
  have hc2 := narrow_any b l.length M kind key w2 hst1
  go_wp2_with fail
  refine hc2.mono ?_
  rintro e w3 ⟨rfl, hst3, hg3⟩
  have hbw3 : Below w.heap.size w w3 := hbw1.grown hg3 hbw1.size (fun k hk => by cases hk; omega)
  have hz3 := hg3.size
  have hr3 : ResAt w3 w.heap.size := by
    unfold ResAt at *
    rw [hg3.block w.heap.size (by omega) (by simp; omega)]
    exact hr1
  have HMM : Hid (MayMap (narrowM M kind key)) := by
    intro s g hs
    unfold narrowM at hs
    split at hs
    · exact HH.out.mayMap HML.out s g hs
    · cases hs
  clear hc2 hst1 hg3 hb1 hbw1 hr1 hr0 hb0
  have hcase : (kind = 1 ∨ kind = 2) ∨ (kind = 3 ∨ kind = 4) ∨ kind = 5 := by omega
  rcases hcase with h12 | h34 | rfl
  · have hct := total_any b l.length (narrowM M kind key) w3 hst3.out HMM.out (by omega)
    have HV : Hid (∀ C, Coll (narrowM M kind key) (fun _ => false) C → svs C = valN kind key T) := fun C hC => (svs_perm (coll_perm HH.out HML.out HT.out hC)).trans (total_val (kind := kind) (key := key) (fun a ha => HML.out a (HT.out.great a ha).1) h12).1
    have HE : Hid (valE T kind key T = []) := (total_val (kind := kind) (key := key) (fun a ha => HML.out a (HT.out.great a ha).1) h12).2
    have hfin : ∀ W : World, Hid (W.ownsRow w.heap.size 9 1 (.slice none 0 0) (valE T kind key T).length ((valE T kind key T).map Value.string)) := fun W => by rw [HE.out]; exact ⟨rfl, .inl ⟨rfl, rfl⟩⟩
    rcases h12 with rfl | rfl
    · go_wp2_with fail
      refine hct.mono ?_
      rintro e w4 ⟨C, rfl, hC, hb4⟩
      obtain ⟨c0, c1, f0, f1⟩ := (hr3.below hb4 (by omega)).cells
      have hbw4 : Below w.heap.size w w4 := hbw3.trans (hb4.mono hbw3.size)
      rw [HV.out C hC.out]
      clear hct hC hr3
      go_wp2
      refine bodyPost_ret (v := .tuple #[.agg #[.int .i64 (valN 1 key T), .slice none 0 0], .int .i64 0]) ?_ rfl ⟨_, rfl, hfin _, (hbw4.setCell (Nat.le_refl _) _).setCell (Nat.le_refl _) _⟩
      simp [results, Tryz.results106, go_sem, c0, c1]
    · go_wp2_with fail
      refine hct.mono ?_
      rintro e w4 ⟨C, rfl, hC, hb4⟩
      obtain ⟨c0, c1, f0, f1⟩ := (hr3.below hb4 (by omega)).cells
      have hbw4 : Below w.heap.size w w4 := hbw3.trans (hb4.mono hbw3.size)
      rw [HV.out C hC.out]
      clear hct hC hr3
      go_wp2
      refine bodyPost_ret (v := .tuple #[.agg #[.int .i64 (valN 2 key T), .slice none 0 0], .int .i64 0]) ?_ rfl ⟨_, rfl, hfin _, (hbw4.setCell (Nat.le_refl _) _).setCell (Nat.le_refl _) _⟩
      simp [results, Tryz.results106, go_sem, c0, c1]
  · have hct := elems_any b l.length (narrowM M kind key) w3 hst3.out HMM.out (by omega)
    have HV : Hid (∀ C (ys : List ByteArray), Coll (narrowM M kind key) (fun _ => false) C ∧ ys.Perm (elemsOf (narrowM M kind key) C) ∧ ys.Pairwise (fun x y => ordS x y ≤ 0) → ys = valE T kind key T) := fun C ys ⟨hC, hp, hs⟩ => by
      have he := elems_val (kind := kind) (key := key) HH.out HML.out HT.out h34
      refine texts_ext (hp.trans ?_) hs he.2
      rw [← he.1]
      exact elemsOf_perm (coll_perm HH.out HML.out HT.out hC)
    have HN : Hid (valN kind key T = 0) := valN_set T kind key h34
    rcases h34 with rfl | rfl
    · go_wp2_with fail
      refine hct.mono ?_
      rintro e w4 ⟨v4, C, ys, rfl, hown4, hC, hb4⟩
      obtain ⟨c0, c1, f0, f1⟩ := (hr3.below hb4 (by omega)).cells
      have hbw4 : Below w.heap.size w w4 := hbw3.trans (hb4.mono hbw3.size)
      obtain rfl := HV.out C ys hC.out
      have HO : Hid (w4.ownsRow w3.heap.size 9 1 v4 (valE T 3 key T).length ((valE T 3 key T).map Value.string)) := hown4
      obtain ⟨ad, cp, rfl⟩ := own_form hown4
      clear hct hC hr3 hown4
      go_wp2
      refine bodyPost_ret (v := .tuple #[.agg #[.int .i64 0, .slice ad (valE T 3 key T).length cp], .int .i64 0]) ?_ rfl ⟨_, by rw [HN.out], owns_mono (owns_set (owns_set HO.out (by omega)) (by omega)) (by omega), (hbw4.setCell (Nat.le_refl _) _).setCell (Nat.le_refl _) _⟩
      simp [results, Tryz.results106, go_sem, c0, c1]
    · go_wp2_with fail
      refine hct.mono ?_
      rintro e w4 ⟨v4, C, ys, rfl, hown4, hC, hb4⟩
      obtain ⟨c0, c1, f0, f1⟩ := (hr3.below hb4 (by omega)).cells
      have hbw4 : Below w.heap.size w w4 := hbw3.trans (hb4.mono hbw3.size)
      obtain rfl := HV.out C ys hC.out
      have HO : Hid (w4.ownsRow w3.heap.size 9 1 v4 (valE T 4 key T).length ((valE T 4 key T).map Value.string)) := hown4
      obtain ⟨ad, cp, rfl⟩ := own_form hown4
      clear hct hC hr3 hown4
      go_wp2
      refine bodyPost_ret (v := .tuple #[.agg #[.int .i64 0, .slice ad (valE T 4 key T).length cp], .int .i64 0]) ?_ rfl ⟨_, by rw [HN.out], owns_mono (owns_set (owns_set HO.out (by omega)) (by omega)) (by omega), (hbw4.setCell (Nat.le_refl _) _).setCell (Nat.le_refl _) _⟩
      simp [results, Tryz.results106, go_sem, c0, c1]
  · have hct := register_any b l.length (narrowM M 5 key) key w3 hst3.out hk
    have hnm : narrowM M 5 key (regSlot key) = M (regSlot key) := by unfold narrowM regSlot; simp
    rw [hnm] at hct
    cases hM : M (regSlot key) with
    | none =>
      have HV : Hid (valN 5 key T = 0 ∧ valE T 5 key T = []) := register_none HH.out HML.out HT.out hM
      rw [hM] at hct
      clear hM hnm
      go_wp2_with fail
      refine hct.mono ?_
      rintro e w4 ⟨v4, rfl, hown4, hb4⟩
      obtain ⟨c0, c1, f0, f1⟩ := (hr3.below hb4 (by omega)).cells
      have hbw4 : Below w.heap.size w w4 := hbw3.trans (hb4.mono hbw3.size)
      obtain ⟨ad, cp, rfl⟩ := own_form hown4.out
      clear hct hr3
      go_wp2
      refine bodyPost_ret (v := .tuple #[.agg #[.int .i64 0, .slice ad 0 cp], .int .i64 0]) ?_ rfl ⟨_, by rw [HV.out.1], by rw [HV.out.2]; exact owns_mono (owns_set (owns_set hown4.out (by omega)) (by omega)) (by omega), (hbw4.setCell (Nat.le_refl _) _).setCell (Nat.le_refl _) _⟩
      simp [results, Tryz.results106, go_sem, c0, c1]
    | some g =>
      have HV : Hid (valN 5 key T = g.n ∧ valE T 5 key T = [g.elem]) := register_some HH.out HML.out HT.out hM
      rw [hM] at hct
      clear hM hnm
      go_wp2_with fail
      refine hct.mono ?_
      rintro e w4 ⟨v4, rfl, hown4, hb4⟩
      obtain ⟨c0, c1, f0, f1⟩ := (hr3.below hb4 (by omega)).cells
      have hbw4 : Below w.heap.size w w4 := hbw3.trans (hb4.mono hbw3.size)
      obtain ⟨ad, cp, rfl⟩ := own_form hown4.out
      clear hct hr3
      go_wp2
      refine bodyPost_ret (v := .tuple #[.agg #[.int .i64 g.n, .slice ad 1 cp], .int .i64 0]) ?_ rfl ⟨_, by rw [HV.out.1], by rw [HV.out.2]; exact owns_mono (owns_set (owns_set hown4.out (by omega)) (by omega)) (by omega), (hbw4.setCell (Nat.le_refl _) _).setCell (Nat.le_refl _) _⟩
      simp [results, Tryz.results106, go_sem, c0, c1]
end Go.Proofs.YtahdlejgjcjeoabGreatDoor

namespace Go.Proofs.YtahdlejgjcjeoabGreatDoor
open Go.RowKit Go.Maps

set_option maxRecDepth 100000 in
set_option maxHeartbeats 1000000 in
theorem read_no (v : Value) (l : List At) (kind : Int) (key : ByteArray) (w : World) (hr : RulesAt w) (h1 : SliceOf w v l) (hs1 : ∀ a ∈ l, short a) (hlen : l.length ≤ 4194304) (hl : l.all mayB = false) :
    Calls Tryz.prog 106 #[v, .int .i64 kind, .string key] w fun e w' => e = .returned (.tuple #[.agg #[.int .i64 0, .slice none 0 0], .int .i64 1]) ∧ Below w.heap.size w w' := by
  have HC1 : Hid (∀ W, Below w.heap.size w W → Calls Tryz.prog 152 #[v] W fun e w' => e = .returned (.tuple #[.map none, .int .i64 1]) ∧ Below W.heap.size W w') := fun W hW => of_no v l W (hr.below hW hr.1) (h1.below hW) hs1 (by omega) hl
  clear hr h1 hs1 hl
  go_enter Tryz.func106, Tryz.ntmps106
  go_wp2_with fail
  have hb0 := below_alloc (Below.refl _ w) (.cells #[.int .i64 0, .slice none 0 0] 129)
  have hz0 : (w.alloc (.cells #[.int .i64 0, .slice none 0 0] 129)).heap.size = w.heap.size + 1 := by simp
  have hr0 : ResAt (w.alloc (.cells #[.int .i64 0, .slice none 0 0] 129)) w.heap.size := heap_alloc_new w _
  generalize w.alloc (.cells #[.int .i64 0, .slice none 0 0] 129) = w0 at *
  refine (HC1.out w0 hb0).mono ?_
  rintro e w1 ⟨rfl, hb1⟩
  have hbw1 : Below w.heap.size w w1 := hb0.trans (hb1.mono hb0.size)
  obtain ⟨c0, c1, f0, f1⟩ := (hr0.below hb1 (by omega)).cells
  clear HC1 hr0
  go_wp2
  refine bodyPost_ret (v := .tuple #[.agg #[.int .i64 0, .slice none 0 0], .int .i64 1]) ?_ rfl ⟨rfl, ?_⟩
  · simp [results, Tryz.results106, go_sem, c0, c1]
  · exact (hbw1.setCell (Nat.le_refl _) _).setCell (Nat.le_refl _) _

set_option maxRecDepth 100000 in
set_option maxHeartbeats 1000000 in
theorem read_op (v : Value) (l : List At) (kind : Int) (key : ByteArray) (w : World) (hr : RulesAt w) (h1 : SliceOf w v l) (hs1 : ∀ a ∈ l, short a) (hlen : l.length ≤ 4194304) (hl : l.all mayB = true) (hki : ¬ (1 ≤ kind ∧ kind ≤ 5)) :
    Calls Tryz.prog 106 #[v, .int .i64 kind, .string key] w fun e w' => e = .returned (.tuple #[.agg #[.int .i64 0, .slice none 0 0], .int .i64 6]) ∧ Below w.heap.size w w' := by
  have HC1 : Hid (∀ W, Below w.heap.size w W → Calls Tryz.prog 152 #[v] W fun e w' => ∃ b, e = .returned (.tuple #[.map (some b), .int .i64 0]) ∧ W.heap.size ≤ b ∧ StMap w' b l.length (addTo (fun _ => none) l) ∧ Below W.heap.size W w') := fun W hW => of_yes v l W (hr.below hW hr.1) (h1.below hW) hs1 (by omega) hl
  have hwi : wi kind 1 5 = false := by unfold wi; simp; omega
  clear hr h1 hs1 hl
  go_enter Tryz.func106, Tryz.ntmps106
  go_wp2_with fail
  have hb0 := below_alloc (Below.refl _ w) (.cells #[.int .i64 0, .slice none 0 0] 129)
  have hz0 : (w.alloc (.cells #[.int .i64 0, .slice none 0 0] 129)).heap.size = w.heap.size + 1 := by simp
  have hr0 : ResAt (w.alloc (.cells #[.int .i64 0, .slice none 0 0] 129)) w.heap.size := heap_alloc_new w _
  generalize w.alloc (.cells #[.int .i64 0, .slice none 0 0] 129) = w0 at *
  refine (HC1.out w0 hb0).mono ?_
  rintro e w1 ⟨b, rfl, hbb, -, hb1⟩
  have hbw1 : Below w.heap.size w w1 := hb0.trans (hb1.mono hb0.size)
  obtain ⟨c0, c1, f0, f1⟩ := (hr0.below hb1 (by omega)).cells
  clear HC1 hr0
  go_wp2_with fail
  refine (isType_any kind w1).mono ?_
  rintro e w2 ⟨rfl, rfl⟩
  rw [hwi]
  go_wp2
  refine bodyPost_ret (v := .tuple #[.agg #[.int .i64 0, .slice none 0 0], .int .i64 6]) ?_ rfl ⟨rfl, ?_⟩
  · simp [results, Tryz.results106, go_sem, c0, c1]
  · exact (hbw1.setCell (Nat.le_refl _) _).setCell (Nat.le_refl _) _

/-- There is a told list of every state. -/
theorem told_exists (l : List At) : ∃ T, IsTold l T := by
  have hp := List.mergeSort_perm (leftTo l l.length) (fun x y => decide (plc x y ≤ 0))
  have hs := List.pairwise_mergeSort (le := fun x y : At => decide (plc x y ≤ 0)) (fun a b c h1 h2 => by simp only [decide_eq_true_eq] at *; exact plc_tp.trans a b c h1 h2) (fun a b => by
    simp only [Bool.or_eq_true, decide_eq_true_eq]
    have := plc_tp.anti a b
    omega) (leftTo l l.length)
  have ha : ((leftTo l l.length).mergeSort (fun x y => decide (plc x y ≤ 0))).Pairwise (fun x y => plc x y ≠ 0) := (hp.pairwise_iff (fun {x y} hxy e => hxy (plc_symm e))).2 left_apart
  refine ⟨_, ⟨List.Pairwise.imp₂ (fun {x y} h1 h2 => ?_) ha hs, fun x hx => left_great x (hp.mem_iff.1 hx), fun y hy => ?_⟩⟩
  · simp only [decide_eq_true_eq] at h2
    omega
  · obtain ⟨x, hx, h⟩ := left_all y hy
    exact ⟨x, hp.mem_iff.2 hx, h⟩

theorem latRead_any (v : Value) (l : List At) (kind : Int) (key : ByteArray) (w : World) (hr : RulesAt w) (h1 : SliceOf w v l) (hs1 : ∀ a ∈ l, short a) (hlen : l.length ≤ 4194304) (hk : key.size ≤ 1099511627776) :
    Calls Tryz.prog 106 #[v, .int .i64 kind, .string key] w fun e w' => ∃ n v' es, e = .returned (.tuple #[.agg #[.int .i64 n, v'], .int .i64 (readCode l kind)]) ∧ w'.ownsRow w.heap.size 9 1 v' es.length (es.map Value.string) ∧ Hid (ReadSpec l kind key n es ∧ (readCode l kind = 0 ∨ v' = .slice none 0 0)) ∧ Below w.heap.size w w' := by
  cases hl : l.all mayB
  · have hc : readCode l kind = 1 := by unfold readCode; rw [hl]; rfl
    refine (read_no v l kind key w hr h1 hs1 hlen hl).mono ?_
    rintro e w' ⟨rfl, hb⟩
    rw [hc]
    exact ⟨0, _, [], rfl, ⟨rfl, .inl ⟨rfl, rfl⟩⟩, ⟨.inr ⟨by omega, rfl, rfl⟩, .inr rfl⟩, hb⟩
  · by_cases hki : 1 ≤ kind ∧ kind ≤ 5
    · have hc : readCode l kind = 0 := by unfold readCode; rw [hl, if_pos rfl, if_pos hki]
      obtain ⟨T, hT⟩ := told_exists l
      refine (read_yes v l T kind key w hr h1 hs1 hlen hk hl hT hki).mono ?_
      rintro e w' ⟨v', rfl, ho, hb⟩
      rw [hc]
      exact ⟨_, v', _, rfl, ho.out, ⟨.inl ⟨hc, List.all_eq_true.1 hl, T, hT, rfl, rfl⟩, .inl rfl⟩, hb⟩
    · have hc : readCode l kind = 6 := by unfold readCode; rw [hl, if_pos rfl, if_neg hki]
      refine (read_op v l kind key w hr h1 hs1 hlen hl hki).mono ?_
      rintro e w' ⟨rfl, hb⟩
      rw [hc]
      exact ⟨0, _, [], rfl, ⟨rfl, .inl ⟨rfl, rfl⟩⟩, ⟨.inr ⟨by omega, rfl, rfl⟩, .inr rfl⟩, hb⟩
end Go.Proofs.YtahdlejgjcjeoabGreatDoor

namespace Go.Proofs.YtahdlejgjcjeoabGreatDoor
open Go.RowKit Go.Maps

end Go.Proofs.YtahdlejgjcjeoabGreatDoor

namespace Go.Proofs.YtahdlejgjcjeoabGreatDoor
open Go.RowKit

end Go.Proofs.YtahdlejgjcjeoabGreatDoor

namespace Go.Proofs.YtahdlejgjcjeoabGreatDoor
open Go.RowKit

end Go.Proofs.YtahdlejgjcjeoabGreatDoor

namespace Go.Proofs.YtahdlejgjcjeoabGreatDoor
open Go.RowKit Go.MuLone

end Go.Proofs.YtahdlejgjcjeoabGreatDoor

namespace Go.Proofs.YtahdlejgjcjeoabGreatDoor
open Go.RowKit Go.MuLone

theorem row_string {w : World} {B : Nat} {v : Value} {xs : List UInt8} (ho : w.ownsRow B 5 1 v xs.length (bcells xs)) : (convert 124 9 v).run Tryz.prog w = .ok (.string (bstr xs)) w := by
  rcases ho.2 with ⟨hv, h1⟩ | ⟨g, cap, cur, hv, _, hh, h1, h2, h3, h4⟩
  · obtain rfl := List.length_eq_zero_iff.1 h1
    rw [hv]
    exact run_convert_bytes_nil (P := Tryz.prog) w 124 5 Tryz.underlying124 Tryz.underlying5 0 0 9 Tryz.underlying9
  · rw [hv, ← bstr_nums]
    refine run_convert_bytes_arg w 124 5 Tryz.underlying124 Tryz.underlying5 g 0 xs.length cap _ (by simp) (fun i hi => ?_) 9 Tryz.underlying9
    have := ho.cells (g := g) (by rw [hv]; rfl) i (.int .u8 (xs[i].toNat : Int)) (by simp [bcells, hi])
    rw [Addr.add_lit] at this
    rw [this]
    simp [List.getD, hi]

end Go.Proofs.YtahdlejgjcjeoabGreatDoor

namespace Go.Proofs.YtahdlejgjcjeoabGreatDoor
open Go.RowKit

theorem RowC.trunc {w : World} {col : Col} {κ : Nat × Nat} {e : TypeId} {n m cap : Nat} {ad : Option Addr} {xs : List Value} (h : RowC w col κ e 1 (.slice ad n cap) n xs) (hm : m ≤ n) : RowC w col κ e 1 (.slice ad m cap) m (xs.take m) := by
  refine ⟨⟨by rw [List.length_take, h.own.1]; omega, ?_⟩, fun q hq => h.col q (by cases ad with | none => cases hq | some A => exact hq)⟩
  rcases h.own.2 with ⟨hv, h0⟩ | ⟨g, cap', cur, hv, hg, hh, h1, h2, h3, h4⟩
  · cases hv
    exact .inl ⟨by rw [show m = 0 by omega], by omega⟩
  · cases hv
    refine .inr ⟨g, cap, cur, rfl, hg, hh, by omega, h2, h3, ?_⟩
    rw [← h4, List.take_take]
    congr 1
    omega


/-- What of a log is left to be read behind k records. -/
def restOf (p : Rep) (k : Nat) : List UInt8 := ((p.log.drop k).map recBytes).flatten ++ p.torn
def riseD (D : PrD) (p : Rep) (V k : Nat) : PrD := { D with num := lastNum (p.log.take k), base := lastNum (p.log.take k), n := V, M := addTo (fun _ => none) ((p.log.take k).map (·.d)).flatten }
def RiseMid (w : World) (col : Col) (o x i : Nat) (K : PrK) (D : PrD) (p : Rep) (V k : Nat) (wr : World) : Prop := ∃ col1, PrI wr col1 o x i K (riseD D p V k) ∧ FrC (ofPrg o i) col col1 w wr

theorem restOf_succ (p : Rep) (k : Nat) (h : k < p.log.length) : restOf p k = recBytes p.log[k] ++ restOf p (k + 1) := by
  unfold restOf
  rw [List.drop_eq_getElem_cons h, List.map_cons, List.flatten_cons, List.append_assoc]
theorem restOf_le (p : Rep) (k : Nat) : (restOf p k).length ≤ (logBytes p).length := by
  induction k with
  | zero => exact Nat.le_refl _
  | succ k ih =>
    by_cases h : k < p.log.length
    · rw [restOf_succ p k h, List.length_append] at ih
      omega
    · have e : restOf p (k + 1) = restOf p k := by
        unfold restOf
        rw [List.drop_of_length_le (by omega), List.drop_of_length_le (by omega)]
      rw [e]
      exact ih
theorem restOf_end (p : Rep) : restOf p p.log.length = p.torn := by simp [restOf]
theorem lastNum_succ (l : List Rec) (k : Nat) (h : k < l.length) : lastNum (l.take (k + 1)) = (l[k]).num := by
  rw [List.take_succ_eq_append_getElem h]
  unfold lastNum
  rw [List.getLast?_concat]
  rfl
theorem Rec.okOf {U : List At} {N : Nat} (hL : Lim U N) {r : Rec} (h1 : ToldMay r.d) (h2 : ∀ a ∈ r.d, a ∈ U) (h3 : r.num ≤ N) (h4 : r.kind = 1 ∨ r.kind = 2) : r.ok ∧ (encS r.d).length ≤ 2752520 ∧ r.num ≤ 2097152 := by
  have h5 := recBytes_le r.kind r.num r.d h1.2
  rw [recBytes_length] at h5
  have h6 := h1.length h2
  have h7 := hL.2
  have h8 := hL.1
  dsimp only at h5
  exact ⟨⟨h4, by omega, by omega, h1⟩, by omega, by omega⟩
/-- A record at the head. -/
theorem first_whole {r : Rec} {l : List UInt8} (h : r.ok) (hs : (encS r.d).length ≤ 2752520) (hn : r.num ≤ 2097152) (hl : (recBytes r ++ l).length ≤ 8796093022208) : FirstOk (recBytes r ++ l) ∧ fKind (recBytes r ++ l) = r.kind ∧ fNum (recBytes r ++ l) = r.num ∧ Good (fBody (recBytes r ++ l)) r.d := by
  obtain ⟨a1, a2, a3, a4⟩ := rec_reads h (List.prefix_append (recBytes r) l)
  have hb : fBody (recBytes r ++ l) = encS r.d := by unfold fBody; rw [a3, a4]
  refine ⟨⟨by omega, by unfold fNum; rw [a2]; omega, by rw [a3]; omega, by rw [hb]; omega⟩, a1, a2, ?_⟩
  rw [hb]
  exact h.told.good
theorem take_field (bs : List UInt8) (k a b : Nat) : ((bs.take k).drop a).take b = ((bs.drop a).take b).take (k - a) := by
  rw [List.drop_take, List.take_take, List.take_take, Nat.min_comm]
/-- A torn record, or nothing. -/
theorem first_torn {r : Rec} {k : Nat} (h : r.ok) (hs : (encS r.d).length ≤ 2752520) (hn : r.num ≤ 2097152) (hk : k < (recBytes r).length) : FirstOk ((recBytes r).take k) ∧ ∀ t, Good (fBody ((recBytes r).take k)) t → fKind ((recBytes r).take k) = 1 ∨ fKind ((recBytes r).take k) = 2 → ¬ recBytes ⟨fKind ((recBytes r).take k), fNum ((recBytes r).take k), t⟩ <+: (recBytes r).take k := by
  obtain ⟨a1, a2, a3, a4⟩ := rec_reads h (List.prefix_refl (recBytes r))
  have hl := recBytes_length r
  have f2 : fNum ((recBytes r).take k) ≤ r.num := by
    unfold fNum
    rw [take_field, ← a2]
    exact num_mono _ _
  have f3 : num ((((recBytes r).take k).drop 9).take 8) ≤ (encS r.d).length := by
    rw [take_field, ← a3]
    exact num_mono _ _
  have f4 : (fBody ((recBytes r).take k)).length ≤ (recBytes r).length := by
    unfold fBody
    rw [List.length_take, List.length_drop, List.length_take]
    omega
  refine ⟨⟨by rw [List.length_take]; omega, by omega, by omega, by omega⟩, fun t hg hkd => torn_none h ⟨hkd, by dsimp only; omega, ?_, ⟨hg.1, hg.2.1⟩⟩ hk⟩
  have hb : (encS t).length ≤ (recBytes r).length := by
    have : encS t = fBody ((recBytes r).take k) := by
      have htm : ToldMay t := ⟨hg.1, hg.2.1⟩
      unfold encS
      rw [htm.tell]
      exact hg.2.2.symm
    rw [this]
    exact f4
  dsimp only
  omega
end Go.Proofs.YtahdlejgjcjeoabGreatDoor
