/- slices.Delete of one element, of entries and of frames. -/
import Derived.Test.YtahdlejgjcjeoabGreatDoorS06
import Derived.Test.YtahdlejgjcjeoabGreatDoorS01
import Derived.Deep.RegionLaw
import Derived.Deep.DeepAppendRoom
namespace Go.Proofs.YtahdlejgjcjeoabGreatDoor
open Go.RowKit

/-- A map is emptied. -/
def emptied (w : World) (b clock : Nat) : World := { w with heap := w.heap.setIfInBounds b (.map #[] clock) }
theorem clear_map (b : Nat) (ty : TypeId) (W : World) (es : Array MapEntry) (clock : Nat) (h : W.heap[b]? = some (.map es clock)) : (Builtin.clear_ #[122] ty #[.map (some b)]).run Tryz.prog W = .ok (.tuple #[]) (emptied W b clock) := by
  simp [Builtin.clear_, run_underlying Tryz.underlying122, MapKept.run_getObj_map h, MapKept.run_setObj_map _ h, Result.andThen, emptied]
theorem emptied_grown (w : World) (b clock : Nat) : w.grownBy (emptied w b clock) (some b) := by
  refine ⟨rfl, rfl, rfl, by simp [emptied], fun k hk hne => ?_⟩
  have : b ≠ k := fun e => hne (by rw [e])
  simp [emptied, this]
theorem emptied_cell (w : World) (b clock : Nat) (a : Addr) (h : b ≠ a.block) : (emptied w b clock).cell? a = w.cell? a := by
  have : (emptied w b clock).heap[a.block]? = w.heap[a.block]? := by simp [emptied, h]
  simp [World.cell?, this]
theorem emptied_frozen (w : World) (b clock : Nat) (a : Addr) (h : b ≠ a.block) : (emptied w b clock).frozen? a = w.frozen? a := by
  have : (emptied w b clock).heap[a.block]? = w.heap[a.block]? := by simp [emptied, h]
  simp [World.frozen?, this]
theorem emptied_map {w : World} {b clock : Nat} (h : b < w.heap.size) : StMap (emptied w b clock) b 0 (fun _ => none) := by
  refine ⟨.map [], ⟨#[], clock, by simp [emptied, h], ⟨by simp, ?_, by simp⟩, Nat.le_refl _, rfl⟩, fun s _ _ => rfl, fun s g h => by cases h⟩
  exact MapKept.stamped_empty clock
theorem StMap.heap {w : World} {b n : Nat} {M : Sl → Option Gr} (h : StMap w b n M) : ∃ es clock, w.heap[b]? = some (.map es clock) := by
  obtain ⟨D, ⟨es, clock, h1, _⟩, _⟩ := h
  exact ⟨es, clock, h1⟩

def fall1 (w : World) (R i : Nat) : World := ((w.setCell ⟨R, i * 14, none⟩ (.bool false)).setCell ⟨R, i * 14 + 1, none⟩ (.int .i64 0)).setCell ⟨R, i * 14 + 2, none⟩ (.int .i64 0)
def fall2 (w : World) (R i : Nat) : World := ((((((w.setCell ⟨R, i * 14 + 4, none⟩ (.slice none 0 0)).setCell ⟨R, i * 14 + 5, none⟩ (.int .i64 0)).setCell ⟨R, i * 14 + 5 + 1, none⟩ (.int .i64 0)).setCell ⟨R, i * 14 + 5 + 2, none⟩ (.int .i64 0)).setCell ⟨R, i * 14 + 5 + 3, none⟩ (.int .i64 0)).setCell ⟨R, i * 14 + 5 + 4, none⟩ (.int .i64 0)).setCell ⟨R, i * 14 + 5 + 5, none⟩ (.int .i64 0)

set_option maxRecDepth 100000 in
set_option maxHeartbeats 1000000 in
theorem fall_cells (R i : Nat) (D : PrD) (w : World) (hc : Cells14 w R i D) (es : Array MapEntry) (clock : Nat) (hm : w.heap[D.b]? = some (.map es clock)) (hbR : D.b ≠ R) :
    Calls Tryz.prog 69 #[.pointer (some ⟨R, i * 14, none⟩)] w fun e w' => e = .returned (.tuple #[]) ∧ w' = fall2 (emptied (fall1 w R i) D.b clock) R i := by
  obtain ⟨c0, c1, c2, c3, c4, c11, c12, c13, fz, ak⟩ := hc
  generalize hW1 : fall1 w R i = W1
  have hm1 : W1.heap[D.b]? = some (.map es clock) := by
    subst hW1
    unfold fall1
    rw [Below.heap_setCell _ _ _ _ hbR, Below.heap_setCell _ _ _ _ hbR, Below.heap_setCell _ _ _ _ hbR]
    exact hm
  have hcl := fun ty => clear_map D.b ty W1 es clock hm1
  have k4 : (emptied W1 D.b clock).cell? ⟨R, i * 14 + 4, none⟩ = some D.vb := by
    rw [emptied_cell _ _ _ _ hbR, ← hW1]
    simp [fall1, World.cell?_setCell_other, c4]
  have kf : ∀ k, (emptied W1 D.b clock).frozen? ⟨R, k, none⟩ = false := fun k => by
    rw [emptied_frozen _ _ _ _ hbR, ← hW1]
    simp [fall1, fz]
  have ka : ∀ q, q < 6 → (emptied W1 D.b clock).cell? ⟨R, i * 14 + (5 + q), none⟩ = some (Value.int IntKind.i64 ↑(D.ak q)) := fun q hq => by
    rw [emptied_cell _ _ _ _ hbR, ← hW1]
    unfold fall1
    rw [World.cell?_setCell_other _ _ _ _ (by simp), World.cell?_setCell_other _ _ _ _ (by simp), World.cell?_setCell_other _ _ _ _ (by simp)]
    exact ak q hq
  have ka0 := ka 0 (by omega)
  have ka1 := ka 1 (by omega)
  have ka2 := ka 2 (by omega)
  have ka3 := ka 3 (by omega)
  have ka4 := ka 4 (by omega)
  have ka5 := ka 5 (by omega)
  clear ka hm1
  generalize emptied W1 D.b clock = W2 at *
  subst hW1
  unfold fall1 at hcl
  go_enter Tryz.func69, Tryz.ntmps69
  go_wp2
  go_end0
  exact ⟨rfl, rfl⟩

/-- What a replica's call may turn. -/
def ofPrg (o i : Nat) : Nat × Nat → Prop := fun κ => κ = (o, 2) ∨ ofRep o i κ
theorem PrB.put2 {w : World} {col : Col} {o x i k : Nat} {K : PrK} {D : PrD} {u : Value} (h : PrB w col o x (some i) (K.setD i D)) (hi : i < K.Ds.length) (hk : k < 14) (D' : PrD) (hD : D.cells.set k u = D'.cells) : PrB (w.setCell ⟨K.R, i * 14 + k, none⟩ u) col o x (some i) (K.setD i D') ∧ FrC (fun κ => κ = (o, 2)) col col w (w.setCell ⟨K.R, i * 14 + k, none⟩ u) := by
  have hi' : i < (K.setD i D).Ds.length := by rw [K.setD_len]; exact hi
  have := PrB.put h hi' hk D' (u := u) (by rw [K.setD_at]; exact hD)
  rw [K.setD_setD] at this
  exact this
theorem PrB.self {w : World} {col : Col} {o x i : Nat} {ex : Option Nat} {K : PrK} (h : PrB w col o x ex K) (hi : i < K.Ds.length) : PrB w col o x ex (K.setD i K.Ds[i]) := by
  have : K.setD i K.Ds[i] = K := by simp [PrK.setD]
  rw [this]
  exact h
theorem frC_emptied {S : Nat × Nat → Prop} {col : Col} {w : World} {b clock : Nat} (h : S (col b)) : FrC S col col w (emptied w b clock) :=
  ⟨(Fr.refl _ w).step (emptied_grown w b clock) (fun q hq => by cases hq; exact .inr h), fun _ _ => rfl⟩
theorem PrRep.bR {w : World} {col : Col} {o x i : Nat} {ex : Option Nat} {K : PrK} {D : PrD} (h : PrB w col o x ex K) (hp : PrRep w col o i D) : D.b ≠ K.R := fun e => by
  have h1 := hp.cb
  rw [e, h.cR] at h1
  have := congrArg Prod.snd h1
  simp only at this
  omega
def PrD.fall (D : PrD) : PrD := { D with up := false, num := 0, base := 0, n := 0, M := fun _ => none, vb := .slice none 0 0, es := [], ak := fun _ => 0 }
theorem prgFall {w : World} {col : Col} {o x i : Nat} {K : PrK} {D : PrD} (h : PrB w col o x (some i) (K.setD i D)) (h6 : K.Ds.length ≤ 6) (hi : i < K.Ds.length) (hp : PrRep w col o i D) :
    Calls Tryz.prog 69 #[.pointer (some ⟨K.R, i * 14, none⟩)] w fun e w' => e = .returned (.tuple #[]) ∧ PrB w' col o x (some i) (K.setD i D.fall) ∧ PrRep w' col o i D.fall ∧ FrC (ofPrg o i) col col w w' := by
  have hi' : i < (K.setD i D).Ds.length := by rw [K.setD_len]; exact hi
  have hc := h.cells hi'
  rw [K.setD_at] at hc
  obtain ⟨es, clock, hm⟩ := hp.st.heap
  have hbR : D.b ≠ K.R := PrRep.bR (K := K.setD i D) h hp
  refine (fall_cells K.R i D w hc es clock hm hbR).mono ?_
  rintro e w' ⟨rfl, rfl⟩
  obtain ⟨h1, f1⟩ := h.put2 hi (k := 0) (u := .bool false) (by omega) { D with up := false } rfl
  obtain ⟨h2, f2⟩ := h1.put2 hi (k := 1) (u := .int .i64 0) (by omega) { D with up := false, num := 0 } rfl
  obtain ⟨h3, f3⟩ := h2.put2 hi (k := 2) (u := .int .i64 0) (by omega) { D with up := false, num := 0, base := 0 } rfl
  have F3 : FrC (fun κ => κ = (o, 2)) col col w (fall1 w K.R i) := (f1.trans f2).trans f3
  have h3' : PrB (fall1 w K.R i) col o x (some i) (K.setD i { D with up := false, num := 0, base := 0 }) := h3
  clear h1 h2 h3 f1 f2 f3
  generalize fall1 w K.R i = w3 at *
  have hcb := hp.cb
  have hlt3 : D.b < w3.heap.size := Nat.lt_of_lt_of_le hp.st.lt F3.size
  have F4 : FrC (ofRep o i) col col w3 (emptied w3 D.b clock) := frC_emptied (by rw [hcb]; exact ⟨rfl, by show 10 ≤ 10 + i; omega, by show (10 + i) % 10 = i; omega⟩)
  have F4' : FrC (fun κ => κ = (o, 10 + i)) col col w3 (emptied w3 D.b clock) := frC_emptied hcb
  have hst : StMap (emptied w3 D.b clock) D.b 0 (fun _ => none) := emptied_map hlt3
  have h4 := (h3'.rest (by rw [K.setD_len]; exact h6) (by rw [K.setD_len]; exact hi) F4).as { D with up := false, num := 0, base := 0, n := 0, M := fun _ => none } (fun hi => by rw [K.setD_at]; rfl)
  rw [K.setD_setD] at h4
  generalize emptied w3 D.b clock = w4 at *
  clear h3'
  obtain ⟨h5, f5⟩ := h4.put2 hi (k := 4) (u := .slice none 0 0) (by omega) { D with up := false, num := 0, base := 0, n := 0, M := fun _ => none, vb := .slice none 0 0, es := [] } rfl
  obtain ⟨h6', f6⟩ := h5.put2 hi (k := 5) (u := .int .i64 0) (by omega) { D with up := false, num := 0, base := 0, n := 0, M := fun _ => none, vb := .slice none 0 0, es := [], ak := fun q => if q < 1 then 0 else D.ak q } rfl
  obtain ⟨h7, f7⟩ := h6'.put2 hi (k := 6) (u := .int .i64 0) (by omega) { D with up := false, num := 0, base := 0, n := 0, M := fun _ => none, vb := .slice none 0 0, es := [], ak := fun q => if q < 2 then 0 else D.ak q } rfl
  obtain ⟨h8, f8⟩ := h7.put2 hi (k := 7) (u := .int .i64 0) (by omega) { D with up := false, num := 0, base := 0, n := 0, M := fun _ => none, vb := .slice none 0 0, es := [], ak := fun q => if q < 3 then 0 else D.ak q } rfl
  obtain ⟨h9, f9⟩ := h8.put2 hi (k := 8) (u := .int .i64 0) (by omega) { D with up := false, num := 0, base := 0, n := 0, M := fun _ => none, vb := .slice none 0 0, es := [], ak := fun q => if q < 4 then 0 else D.ak q } rfl
  obtain ⟨h10, f10⟩ := h9.put2 hi (k := 9) (u := .int .i64 0) (by omega) { D with up := false, num := 0, base := 0, n := 0, M := fun _ => none, vb := .slice none 0 0, es := [], ak := fun q => if q < 5 then 0 else D.ak q } rfl
  obtain ⟨h11, f11⟩ := h10.put2 hi (k := 10) (u := .int .i64 0) (by omega) D.fall rfl
  have F11 : FrC (fun κ => κ = (o, 2)) col col w4 (fall2 w4 K.R i) := (((((f5.trans f6).trans f7).trans f8).trans f9).trans f10).trans f11
  have H11 : PrB (fall2 w4 K.R i) col o x (some i) (K.setD i D.fall) := h11
  clear h5 h6' h7 h8 h9 h10 h11 f5 f6 f7 f8 f9 f10 f11
  generalize fall2 w4 K.R i = w5 at *
  have n2 : ∀ j, j ≠ 2 → ¬ ((o, j) = (o, 2)) := fun j hj e => hj (congrArg Prod.snd e)
  have n10 : ∀ j, j ≠ 10 + i → ¬ ((o, j) = (o, 10 + i)) := fun j hj e => hj (congrArg Prod.snd e)
  refine ⟨rfl, H11, ⟨?_, hcb, rowC_nil _ _ _ _ _, (fun e he => by cases he), ((hp.log.kept F3 (n2 _ (by omega))).kept F4' (n10 _ (by omega))).kept F11 (n2 _ (by omega))⟩, ?_⟩
  · exact hst.block (F11.fr.block _ hst.lt (by rw [hcb]; exact n2 _ (by omega)))
  · exact ((F3.mono fun x hx => .inl hx).trans (F4.mono fun x hx => .inr hx)).trans (F11.mono fun x hx => .inl hx)
theorem PrD.is.fall {D : PrD} {p : Rep} (h : D.is p) : D.fall.is p.fall where
  up := rfl
  num := rfl
  base := rfl
  M := rfl
  buf := rfl
  ak q hq := by simp only [PrD.fall, Rep.fall, List.getD, List.getElem?_replicate]; split <;> rfl
  bytes := h.bytes
  frames := h.frames
  weight := h.weight
end Go.Proofs.YtahdlejgjcjeoabGreatDoor

namespace Go.Proofs.YtahdlejgjcjeoabGreatDoor
open Go.RowKit

set_option maxHeartbeats 2000000 in
theorem mayBe_any (a : At) (w : World) (h : RulesAt w) (ha : short a) :
    Calls Tryz.prog 214 #[a.val] w fun e w' => e = .returned (.bool (mayB a)) ∧ Below w.heap.size w w' := by
  obtain ⟨ty, key, side, who, elem, n⟩ := a
  simp only [short] at ha
  obtain ⟨hk, he⟩ := ha
  obtain ⟨h0, r1, r2, r3, r4, r5⟩ := h
  unfold At.val
  simp only
  by_cases ht : 1 ≤ ty ∧ ty ≤ 5
  · have hwt : wi ty 1 5 = true := (wi_iff _ _ _).2 ht
    rcases kinds5 ht.1 ht.2 with rfl | rfl | rfl | rfl | rfl
    · obtain ⟨c0, c1, c2, c3, c4, c5⟩ := r1
      clear r2 r3 r4 r5
      go_enter Tryz.func214, Tryz.ntmps214
      go_wp2_with (first | (go_at_call 153; refine (isType_any _ _).mono ?_; rintro e w' ⟨rfl, rfl⟩) | (go_at_call 191; refine (within_any _ _ _ _).mono ?_; rintro e w' ⟨rfl, rfl⟩))
      all_goals go_ret
      all_goals go_light
      all_goals refine ⟨ret_bool ?_, by repeat (first | exact Below.refl _ _ | refine below_drewN ?_ _ | refine Below.setCell ?_ (by simp) _ | refine Below.alloc ?_ (by simp) _)⟩
      all_goals clear c0 c1 c2 c3 c4 c5
      all_goals rw [Bool.eq_iff_iff]
      all_goals simp only [mayB, decide_eq_true_eq, Bool.false_eq_true, wi_iff, false_iff] at *
      all_goals first | omega | (simp_all; done) | (simp_all; omega) | (simp_all; refine ⟨fun hq => ⟨by omega, by omega, by omega, hq⟩, fun hq => hq.2.2.2⟩)
    · obtain ⟨c0, c1, c2, c3, c4, c5⟩ := r2
      clear r1 r3 r4 r5
      go_enter Tryz.func214, Tryz.ntmps214
      go_wp2_with (first | (go_at_call 153; refine (isType_any _ _).mono ?_; rintro e w' ⟨rfl, rfl⟩) | (go_at_call 191; refine (within_any _ _ _ _).mono ?_; rintro e w' ⟨rfl, rfl⟩))
      all_goals go_ret
      all_goals go_light
      all_goals refine ⟨ret_bool ?_, by repeat (first | exact Below.refl _ _ | refine below_drewN ?_ _ | refine Below.setCell ?_ (by simp) _ | refine Below.alloc ?_ (by simp) _)⟩
      all_goals clear c0 c1 c2 c3 c4 c5
      all_goals rw [Bool.eq_iff_iff]
      all_goals simp only [mayB, decide_eq_true_eq, Bool.false_eq_true, wi_iff, false_iff] at *
      all_goals first | omega | (simp_all; done) | (simp_all; omega) | (simp_all; refine ⟨fun hq => ⟨by omega, by omega, by omega, hq⟩, fun hq => hq.2.2.2⟩)
    · obtain ⟨c0, c1, c2, c3, c4, c5⟩ := r3
      clear r1 r2 r4 r5
      go_enter Tryz.func214, Tryz.ntmps214
      go_wp2_with (first | (go_at_call 153; refine (isType_any _ _).mono ?_; rintro e w' ⟨rfl, rfl⟩) | (go_at_call 191; refine (within_any _ _ _ _).mono ?_; rintro e w' ⟨rfl, rfl⟩))
      all_goals go_ret
      all_goals go_light
      all_goals refine ⟨ret_bool ?_, by repeat (first | exact Below.refl _ _ | refine below_drewN ?_ _ | refine Below.setCell ?_ (by simp) _ | refine Below.alloc ?_ (by simp) _)⟩
      all_goals clear c0 c1 c2 c3 c4 c5
      all_goals rw [Bool.eq_iff_iff]
      all_goals simp only [mayB, decide_eq_true_eq, Bool.false_eq_true, wi_iff, false_iff] at *
      all_goals first | omega | (simp_all; done) | (simp_all; omega) | (simp_all; refine ⟨fun hq => ⟨by omega, by omega, by omega, hq⟩, fun hq => hq.2.2.2⟩)
    · obtain ⟨c0, c1, c2, c3, c4, c5⟩ := r4
      clear r1 r2 r3 r5
      go_enter Tryz.func214, Tryz.ntmps214
      go_wp2_with (first | (go_at_call 153; refine (isType_any _ _).mono ?_; rintro e w' ⟨rfl, rfl⟩) | (go_at_call 191; refine (within_any _ _ _ _).mono ?_; rintro e w' ⟨rfl, rfl⟩))
      all_goals go_ret
      all_goals go_light
      all_goals refine ⟨ret_bool ?_, by repeat (first | exact Below.refl _ _ | refine below_drewN ?_ _ | refine Below.setCell ?_ (by simp) _ | refine Below.alloc ?_ (by simp) _)⟩
      all_goals clear c0 c1 c2 c3 c4 c5
      all_goals rw [Bool.eq_iff_iff]
      all_goals simp only [mayB, decide_eq_true_eq, Bool.false_eq_true, wi_iff, false_iff] at *
      all_goals first | omega | (simp_all; done) | (simp_all; omega) | (simp_all; refine ⟨fun hq => ⟨by omega, by omega, by omega, hq⟩, fun hq => hq.2.2.2⟩)
    · obtain ⟨c0, c1, c2, c3, c4, c5⟩ := r5
      clear r1 r2 r3 r4
      go_enter Tryz.func214, Tryz.ntmps214
      go_wp2_with (first | (go_at_call 153; refine (isType_any _ _).mono ?_; rintro e w' ⟨rfl, rfl⟩) | (go_at_call 191; refine (within_any _ _ _ _).mono ?_; rintro e w' ⟨rfl, rfl⟩))
      all_goals go_ret
      all_goals go_light
      all_goals refine ⟨ret_bool ?_, by repeat (first | exact Below.refl _ _ | refine below_drewN ?_ _ | refine Below.setCell ?_ (by simp) _ | refine Below.alloc ?_ (by simp) _)⟩
      all_goals clear c0 c1 c2 c3 c4 c5
      all_goals rw [Bool.eq_iff_iff]
      all_goals simp only [mayB, decide_eq_true_eq, Bool.false_eq_true, wi_iff, false_iff] at *
      all_goals first | omega | (simp_all; done) | (simp_all; omega) | (simp_all; refine ⟨fun hq => ⟨by omega, by omega, by omega, hq⟩, fun hq => hq.2.2.2⟩)
  · have hwt : wi ty 1 5 = false := (wi_false _ _ _).2 ht
    clear r1 r2 r3 r4 r5
    go_enter Tryz.func214, Tryz.ntmps214
    go_wp2_with (first | (go_at_call 153; refine (isType_any _ _).mono ?_; rintro e w' ⟨rfl, rfl⟩) | (go_at_call 191; refine (within_any _ _ _ _).mono ?_; rintro e w' ⟨rfl, rfl⟩))
    go_ret
    go_light
    refine ⟨ret_bool ?_, by repeat (first | exact Below.refl _ _ | refine below_drewN ?_ _ | refine Below.setCell ?_ (by simp) _ | refine Below.alloc ?_ (by simp) _)⟩
    rw [Bool.eq_iff_iff]
    simp only [mayB, decide_eq_true_eq, Bool.false_eq_true, false_iff] at *
    omega

set_option maxHeartbeats 1000000 in
theorem allMayBe_any (v : Value) (l : List At) (w : World) (hr : RulesAt w) (hv : SliceOf w v l) (hs : ∀ a ∈ l, short a) (hlen : l.length ≤ 281474976710656) :
    Calls Tryz.prog 190 #[v] w fun e w' => e = .returned (.bool (l.all mayB)) ∧ Below w.heap.size w w' := by
  obtain ⟨ad, cap, rfl, hcap, H⟩ := hv
  have HR : Hid (0 < l.length → ∃ b off, ad = some ⟨b, off, none⟩ ∧ b < w.heap.size ∧ RowAt w b off l) := H
  clear H
  have HS : Hid (∀ a ∈ l, short a) := hs
  clear hs
  have HT : Hid (RulesAt w) := hr
  clear hr
  go_enter Tryz.func190, Tryz.ntmps190
  go_wp2
  go_loopw [7] (fun i wr => ∃ k : Nat, k ≤ l.length ∧ i = .int .i64 k ∧ Hid ((l.take k).all mayB = true) ∧ Below w.heap.size w wr) (fun i _ => l.length - (intOf i).toNat)
  case atStart => exact ⟨0, Nat.zero_le _, rfl, by simp [Hid], Below.refl _ _⟩
  case round =>
    obtain ⟨k, hk, rfl, ht, hbw⟩ := hrel
    by_cases hl : k < l.length
    · obtain ⟨b, off, rfl, hb, hrow⟩ := HR.out (by omega)
      obtain ⟨c0, c1, c2, c3, c4, c5⟩ := (hrow.below hbw hb) k hl
      clear hrow HR
      have hsk := HS.out (l[k]) (List.getElem_mem hl)
      have hsz := hbw.size
      have HTr : Hid (RulesAt wr) := HT.out.below hbw HT.out.1
      generalize hak : l[k] = a at *
      have HA : Hid (l[k] = a) := hak
      clear hak
      go_wp2_with fail
      refine (mayBe_any a _ ?hrl hsk).mono ?_
      case hrl => exact HTr.out.below ((Below.refl _ wr).alloc (Nat.le_refl _) _) HTr.out.1
      rintro e w1 ⟨rfl, hb1⟩
      have hbw1 : Below w.heap.size w w1 := (hbw.alloc hsz _).trans (hb1.mono (by simp; omega))
      clear hb1
      cases hm : mayB a
      · go_wp2
        go_ret
        refine ⟨ret_bool ?_, hbw1⟩
        symm
        rw [List.all_eq_false]
        exact ⟨a, HA.out ▸ List.getElem_mem hl, by simp [hm]⟩
      · go_wp2
        go_roundw
        case rel => exact ⟨k + 1, by omega, by go_num, (by rw [Hid, all_snoc _ _ _ hl, HA.out, hm, ht.out]; rfl), hbw1⟩
        case measure => simp [intOf]; omega
    · go_wp2
      go_ret
      refine ⟨ret_bool ?_, hbw⟩
      rw [← ht.out, List.take_of_length_le (by omega)]

end Go.Proofs.YtahdlejgjcjeoabGreatDoor

namespace Go.Proofs.YtahdlejgjcjeoabGreatDoor
open Go.RowKit

/-- The cells of one step of the table. -/
def stepAt (w : World) (o : Nat) (ms n0 n1 me : Int) (mv : Bool) : Prop :=
  w.cell? ⟨0, o, none⟩ = some (.int .i64 ms) ∧ w.cell? ⟨0, o + 1, none⟩ = some (.int .i64 n0) ∧ w.cell? ⟨0, o + 2, none⟩ = some (.int .i64 n1) ∧ w.cell? ⟨0, o + 3, none⟩ = some (.int .i64 me) ∧ w.cell? ⟨0, o + 4, none⟩ = some (.bool mv)
/-- THE TABLE IS LAID. -/
def StepsAt (w : World) : Prop := 0 < w.heap.size ∧ stepAt w 0 0 1 1000 0 false ∧ stepAt w 5 0 (-1000) 1000 0 true ∧ stepAt w 10 0 0 0 8 false ∧ stepAt w 15 1 0 0 8 false ∧ stepAt w 20 0 0 0 8 false
theorem stepAt.block {w w' : World} (hb : w'.heap[0]? = w.heap[0]?) {o : Nat} {a b c d : Int} {r : Bool} (h : stepAt w o a b c d r) : stepAt w' o a b c d r := by
  obtain ⟨c0, c1, c2, c3, c4⟩ := h
  refine ⟨?_, ?_, ?_, ?_, ?_⟩ <;> (rw [World.cell?_of_block (w := w) hb]; assumption)
theorem StepsAt.block {w w' : World} (h : StepsAt w) (hb : w'.heap[0]? = w.heap[0]?) (hs : w.heap.size ≤ w'.heap.size) : StepsAt w' := by
  obtain ⟨h1, r1, r2, r3, r4, r5⟩ := h
  exact ⟨Nat.lt_of_lt_of_le h1 hs, r1.block hb, r2.block hb, r3.block hb, r4.block hb, r5.block hb⟩
theorem StepsAt.below {w w' : World} (h : StepsAt w) {B : Nat} (hb : Below B w w') (h1 : 0 < B) : StepsAt w' := h.block (hb.block 0 h1) hb.size

set_option maxHeartbeats 2000000 in
theorem isOp_any (o : OpV) (w : World) (h : StepsAt w) (ho : o.short) :
    Calls Tryz.prog 158 #[o.val] w fun e w' => e = .returned (.bool (fineOp o)) ∧ Below w.heap.size w w' := by
  obtain ⟨ty, key, side, elem, n⟩ := o
  simp only [OpV.short] at ho
  obtain ⟨hk, he⟩ := ho
  obtain ⟨h0, r1, r2, r3, r4, r5⟩ := h
  unfold OpV.val
  simp only
  by_cases ht : 1 ≤ ty ∧ ty ≤ 5
  · have hwt : wi ty 1 5 = true := (wi_iff _ _ _).2 ht
    rcases kinds5 ht.1 ht.2 with rfl | rfl | rfl | rfl | rfl
    · obtain ⟨c0, c1, c2, c3, c4⟩ := r1
      clear r2 r3 r4 r5
      go_enter Tryz.func158, Tryz.ntmps158
      go_wp2_with (first | (go_at_call 153; refine (isType_any _ _).mono ?_; rintro e w' ⟨rfl, rfl⟩) | (go_at_call 191; refine (within_any _ _ _ _).mono ?_; rintro e w' ⟨rfl, rfl⟩))
      all_goals go_ret
      all_goals go_light
      all_goals refine ⟨ret_bool ?_, by repeat (first | exact Below.refl _ _ | refine below_drewN ?_ _ | refine Below.setCell ?_ (by simp) _ | refine Below.alloc ?_ (by simp) _)⟩
      all_goals clear c0 c1 c2 c3 c4
      all_goals rw [Bool.eq_iff_iff]
      all_goals unfold fineOp
      all_goals dsimp only
      all_goals generalize key.size = ks at *
      all_goals generalize elem.size = es at *
      all_goals simp only [decide_eq_true_eq, Bool.false_eq_true, wi_iff, false_iff] at *
      all_goals first | omega | (simp_all; done) | (simp_all; omega) | (simp_all [wi_iff]; omega)
    · obtain ⟨c0, c1, c2, c3, c4⟩ := r2
      clear r1 r3 r4 r5
      go_enter Tryz.func158, Tryz.ntmps158
      go_wp2_with (first | (go_at_call 153; refine (isType_any _ _).mono ?_; rintro e w' ⟨rfl, rfl⟩) | (go_at_call 191; refine (within_any _ _ _ _).mono ?_; rintro e w' ⟨rfl, rfl⟩))
      all_goals go_ret
      all_goals go_light
      all_goals refine ⟨ret_bool ?_, by repeat (first | exact Below.refl _ _ | refine below_drewN ?_ _ | refine Below.setCell ?_ (by simp) _ | refine Below.alloc ?_ (by simp) _)⟩
      all_goals clear c0 c1 c2 c3 c4
      all_goals rw [Bool.eq_iff_iff]
      all_goals unfold fineOp
      all_goals dsimp only
      all_goals generalize key.size = ks at *
      all_goals generalize elem.size = es at *
      all_goals simp only [decide_eq_true_eq, Bool.false_eq_true, wi_iff, false_iff] at *
      all_goals first | omega | (simp_all; done) | (simp_all; omega) | (simp_all [wi_iff]; omega)
    · obtain ⟨c0, c1, c2, c3, c4⟩ := r3
      clear r1 r2 r4 r5
      go_enter Tryz.func158, Tryz.ntmps158
      go_wp2_with (first | (go_at_call 153; refine (isType_any _ _).mono ?_; rintro e w' ⟨rfl, rfl⟩) | (go_at_call 191; refine (within_any _ _ _ _).mono ?_; rintro e w' ⟨rfl, rfl⟩))
      all_goals go_ret
      all_goals go_light
      all_goals refine ⟨ret_bool ?_, by repeat (first | exact Below.refl _ _ | refine below_drewN ?_ _ | refine Below.setCell ?_ (by simp) _ | refine Below.alloc ?_ (by simp) _)⟩
      all_goals clear c0 c1 c2 c3 c4
      all_goals rw [Bool.eq_iff_iff]
      all_goals unfold fineOp
      all_goals dsimp only
      all_goals generalize key.size = ks at *
      all_goals generalize elem.size = es at *
      all_goals simp only [decide_eq_true_eq, Bool.false_eq_true, wi_iff, false_iff] at *
      all_goals first | omega | (simp_all; done) | (simp_all; omega) | (simp_all [wi_iff]; omega)
    · obtain ⟨c0, c1, c2, c3, c4⟩ := r4
      clear r1 r2 r3 r5
      go_enter Tryz.func158, Tryz.ntmps158
      go_wp2_with (first | (go_at_call 153; refine (isType_any _ _).mono ?_; rintro e w' ⟨rfl, rfl⟩) | (go_at_call 191; refine (within_any _ _ _ _).mono ?_; rintro e w' ⟨rfl, rfl⟩))
      all_goals go_ret
      all_goals go_light
      all_goals refine ⟨ret_bool ?_, by repeat (first | exact Below.refl _ _ | refine below_drewN ?_ _ | refine Below.setCell ?_ (by simp) _ | refine Below.alloc ?_ (by simp) _)⟩
      all_goals clear c0 c1 c2 c3 c4
      all_goals rw [Bool.eq_iff_iff]
      all_goals unfold fineOp
      all_goals dsimp only
      all_goals generalize key.size = ks at *
      all_goals generalize elem.size = es at *
      all_goals simp only [decide_eq_true_eq, Bool.false_eq_true, wi_iff, false_iff] at *
      all_goals first | omega | (simp_all; done) | (simp_all; omega) | (simp_all [wi_iff]; omega)
    · obtain ⟨c0, c1, c2, c3, c4⟩ := r5
      clear r1 r2 r3 r4
      go_enter Tryz.func158, Tryz.ntmps158
      go_wp2_with (first | (go_at_call 153; refine (isType_any _ _).mono ?_; rintro e w' ⟨rfl, rfl⟩) | (go_at_call 191; refine (within_any _ _ _ _).mono ?_; rintro e w' ⟨rfl, rfl⟩))
      all_goals go_ret
      all_goals go_light
      all_goals refine ⟨ret_bool ?_, by repeat (first | exact Below.refl _ _ | refine below_drewN ?_ _ | refine Below.setCell ?_ (by simp) _ | refine Below.alloc ?_ (by simp) _)⟩
      all_goals clear c0 c1 c2 c3 c4
      all_goals rw [Bool.eq_iff_iff]
      all_goals unfold fineOp
      all_goals dsimp only
      all_goals generalize key.size = ks at *
      all_goals generalize elem.size = es at *
      all_goals simp only [decide_eq_true_eq, Bool.false_eq_true, wi_iff, false_iff] at *
      all_goals first | omega | (simp_all; done) | (simp_all; omega) | (simp_all [wi_iff]; omega)
  · have hwt : wi ty 1 5 = false := (wi_false _ _ _).2 ht
    clear r1 r2 r3 r4 r5
    go_enter Tryz.func158, Tryz.ntmps158
    go_wp2_with (first | (go_at_call 153; refine (isType_any _ _).mono ?_; rintro e w' ⟨rfl, rfl⟩) | (go_at_call 191; refine (within_any _ _ _ _).mono ?_; rintro e w' ⟨rfl, rfl⟩))
    go_ret
    go_light
    refine ⟨ret_bool ?_, by repeat (first | exact Below.refl _ _ | refine below_drewN ?_ _ | refine Below.setCell ?_ (by simp) _ | refine Below.alloc ?_ (by simp) _)⟩
    rw [Bool.eq_iff_iff]
    simp only [fineOp, decide_eq_true_eq, Bool.false_eq_true, false_iff] at *
    omega
end Go.Proofs.YtahdlejgjcjeoabGreatDoor

namespace Go.Proofs.YtahdlejgjcjeoabGreatDoor
open Go.RowKit

def zeroE : List Value := [.int .i64 0, .int .i64 0, .slice none 0 0]
def zeroF : List Value := [.int .i64 0, .int .i64 0, .int .i64 0, .int .i64 0, .slice none 0 0]
theorem infoEnt : (Tryz.prog.info? 85).map (fun i => (i.zero, i.size, i.bytes)) = some (some (.agg zeroE.toArray), 3, 40) := by kernel_rfl
theorem infoFrmD : (Tryz.prog.info? 110).map (fun i => (i.zero, i.size, i.bytes)) = some (some (.agg zeroF.toArray), 5, 56) := by kernel_rfl
theorem zeroEnt (w : World) : (zeroValue 85).run Tryz.prog w = .ok (.agg zeroE.toArray) w := by kernel_rfl
theorem zeroFrm (w : World) : (zeroValue 110).run Tryz.prog w = .ok (.agg zeroF.toArray) w := by kernel_rfl
theorem three_oneP {a b : Int} {ad : Option Addr} {n c : Nat} : ∀ u ∈ [Value.int .i64 a, .int .i64 b, .slice ad n c], u.oneCell' = true := by
  intro u hu
  simp at hu
  rcases hu with rfl | rfl | rfl <;> rfl
/-- clear of one element. -/
theorem clear_one (w : World) (t e ty : TypeId) (z : List Value) (ht : Tryz.prog.underlying t = some (.slice e)) (hv : ∀ w, (zeroValue e).run Tryz.prog w = .ok (.agg z.toArray) w) (h1 : ∀ u ∈ z, u.oneCell' = true) (b o c : Nat)
    (hc : ∀ j, j < z.length → (w.cell? ⟨b, o + j, none⟩).isSome = true) (hf : ∀ j, j < z.length → w.frozen? ⟨b, o + j, none⟩ = false) :
    (Builtin.clear_ #[t] ty #[.slice (some ⟨b, o, none⟩) 1 c]).run Tryz.prog w = .ok (.tuple #[]) (w.setCells b o z) := by
  have hz : (Builtin.zeroCells (Value.agg z.toArray).cells 1).toList = z := by
    simp [Builtin.zeroCells, Value.cells]
    apply List.ext_getElem
    · simp
    · intro n h1 h2
      have : n < z.length := h2
      simp [Nat.mod_eq_of_lt this, this]
  have hst := run_storeCells_cells (P := Tryz.prog) b o z 0 w (by simpa using hc) (by simpa using hf) h1
  simp only [Nat.add_zero] at hst
  simp [Builtin.clear_, run_underlying ht, hv, hz, hst]
theorem own_cells {w : World} {base g cap n s : Nat} {e : TypeId} {xs : List Value} (h : w.ownsRow base e s (.slice (some ⟨g, 0, none⟩) n cap) n xs) : (∀ k u, xs[k]? = some u → w.cell? ⟨g, k, none⟩ = some u) ∧ n ≤ cap ∧ cap ≤ maxLen ∧ xs.length = n * s ∧ ∀ k, w.frozen? ⟨g, k, none⟩ = false := by
  rcases h.2 with ⟨h0, _⟩ | ⟨g', cap', cur, hv, hg, hb, h1, h2, h3, h4⟩
  · cases h0
  · cases hv
    refine ⟨fun k u hu => ?_, h1, h2, h.1, fun k => by simp [World.frozen?, hb]⟩
    have := h.cells (g := g) rfl k u hu
    rwa [Addr.add_lit, Nat.zero_add] at this
theorem cells_some (vs : List Value) {b o : Nat} (k : Nat) {w : World} (h : (w.cell? ⟨b, k, none⟩).isSome = true) : ((w.setCells b o vs).cell? ⟨b, k, none⟩).isSome = true := by
  induction vs generalizing o w with
  | nil => exact h
  | cons v r ih =>
    refine ih ?_
    by_cases e : o = k
    · subst e
      obtain ⟨u, hu⟩ := Option.isSome_iff_exists.1 h
      rw [World.cell?_setCell_same _ _ _ hu]
      rfl
    · rw [World.cell?_setCell_other _ _ _ _ (by simp only [ne_eq, Addr.mk.injEq, true_and, and_true]; omega)]
      exact h
theorem frozen_setCells (vs : List Value) {b o : Nat} (a : Addr) {w : World} : (w.setCells b o vs).frozen? a = w.frozen? a := by
  induction vs generalizing o w with
  | nil => rfl
  | cons v r ih => exact (ih (o := o + 1) (w := w.setCell ⟨b, o, none⟩ v)).trans (World.frozen?_setCell ..)

set_option maxHeartbeats 1000000 in
set_option maxRecDepth 100000 in
theorem delEnt (g cap n i j : Nat) (xs : List Value) (w : World) (own : w.ownsRow 0 85 3 (.slice (some ⟨g, 0, none⟩) n cap) n xs) (h1 : ∀ u ∈ xs, u.oneCell' = true) (hj : j = i + 1) (hi : i < n) :
    Calls Tryz.prog 111 #[.slice (some ⟨g, 0, none⟩) n cap, .int .i64 i, .int .i64 j] w fun e w' => e = .returned (.slice (some ⟨g, 0, none⟩) (n - 1) cap) ∧ w' = (w.drew.setCells g (i * 3) (xs.drop (j * 3))).setCells g ((n - 1) * 3) zeroE := by
  obtain ⟨i0, hi0, hz0, hz1, hz2⟩ := info_parts infoEnt
  obtain ⟨hc, hlc, hm, hxl, hfz⟩ := own_cells own
  have hnc : n ≤ cap := hlc
  have hcm : cap ≤ 9223372036854775807 := by unfold maxLen at hm; omega
  generalize hnews : xs.drop (j * 3) = news
  have hlen : news.length = (n - j) * 3 := by rw [← hnews, List.length_drop, hxl, ← Nat.sub_mul]
  obtain ⟨A, hA, hsrc⟩ : ∃ A : Addr, (if cap = j then some (⟨g, 0, none⟩ : Addr) else some ⟨g, j * 3, none⟩) = some A ∧ Hid (∀ t u, news[t]? = some u → w.drew.cell? (A.add t) = some u) := by
    by_cases h : cap = j
    · refine ⟨⟨g, 0, none⟩, by simp [h], fun t u hu => ?_⟩
      have h0 : news.length = 0 := by rw [hlen]; omega
      rw [List.length_eq_zero_iff.1 h0] at hu
      simp at hu
    · refine ⟨⟨g, j * 3, none⟩, by simp [h], fun t u hu => ?_⟩
      rw [← hnews, List.getElem?_drop] at hu
      rw [Addr.add_lit]
      exact hc _ u hu
  have s1 : Hid (news.length = (n - j) * 3) := hlen
  have s2 : Hid (∀ u ∈ news, u.oneCell' = true) := fun u hu => h1 u (by rw [← hnews] at hu; exact List.mem_of_mem_drop hu)
  have s3 : Hid (∀ t, t < news.length → (w.drew.cell? ⟨g, 0 + i * 3 + t, none⟩).isSome = true ∧ w.drew.frozen? ⟨g, 0 + i * 3 + t, none⟩ = false) := by
    intro t ht
    rw [hlen] at ht
    have hlt : 0 + i * 3 + t < xs.length := by rw [hxl]; omega
    refine ⟨?_, hfz _⟩
    show (w.cell? _).isSome = true
    rw [hc _ _ (List.getElem?_eq_getElem hlt)]
    rfl
  obtain ⟨W1, hW1⟩ : ∃ W1, W1 = w.drew.setCells g (0 + i * 3) news := ⟨_, rfl⟩
  have hsome : ∀ t, t < xs.length → (W1.cell? ⟨g, t, none⟩).isSome = true := fun t ht => by
    rw [hW1]
    exact cells_some news _ (by show (w.cell? _).isSome = true; rw [hc _ _ (List.getElem?_eq_getElem ht)]; rfl)
  have hnj : i + (n - j) = n - 1 := by omega
  have hcl : ∀ ty, (Builtin.clear_ #[81] ty #[.slice (some ⟨g, (i + (n - j)) * 3, none⟩) (n - (i + (n - j))) (cap - (i + (n - j)))]).run Tryz.prog W1 = .ok (.tuple #[]) (W1.setCells g ((n - 1) * 3) zeroE) := by
    intro ty
    rw [hnj, show n - (n - 1) = 1 by omega]
    exact clear_one W1 81 85 ty zeroE Tryz.underlying81 zeroEnt (by decide) g _ _ (fun t ht => hsome _ (by rw [hxl]; have : t < 3 := ht; omega)) (fun t _ => by rw [hW1, frozen_setCells]; exact hfz _)
  have hW : Hid (W1 = w.drew.setCells g (0 + i * 3) news) := hW1
  have hic : i ≤ cap := by omega
  have hjc : j ≤ cap := by omega
  have hlt : i < j := by omega
  have hjn : j ≤ n := by omega
  have HN : Hid (i + (n - j) = n - 1) := hnj
  clear hnj hsome hlen hnews hW1 hc own hfz hj hi hxl hm hlc
  go_enter Tryz.func111, Tryz.ntmps111
  go_wp2_with fail
  go_region_law (refine step_append_room rfl (.tmp 22) (.tmp 25) 81 rfl 85 i0 3 Tryz.underlying81 hi0 hz1 g 0 i cap (by simp [Act.eval, Act.put]) A (n - j) (cap - j) news (by simp [Act.eval, Act.put]) s1.out hsrc.out s2.out (by omega) s3.out ?_; rw [← hW.out])
  go_wp2
  go_ret
  refine ⟨by rw [HN.out]; rfl, ?_⟩
  rw [hW.out, Nat.zero_add]

set_option maxHeartbeats 1000000 in
set_option maxRecDepth 100000 in
theorem delFrm (g cap n i j : Nat) (xs : List Value) (w : World) (own : w.ownsRow 0 110 5 (.slice (some ⟨g, 0, none⟩) n cap) n xs) (h1 : ∀ u ∈ xs, u.oneCell' = true) (hj : j = i + 1) (hi : i < n) :
    Calls Tryz.prog 100 #[.slice (some ⟨g, 0, none⟩) n cap, .int .i64 i, .int .i64 j] w fun e w' => e = .returned (.slice (some ⟨g, 0, none⟩) (n - 1) cap) ∧ w' = (w.drew.setCells g (i * 5) (xs.drop (j * 5))).setCells g ((n - 1) * 5) zeroF := by
  obtain ⟨i0, hi0, hz0, hz1, hz2⟩ := info_parts infoFrmD
  obtain ⟨hc, hlc, hm, hxl, hfz⟩ := own_cells own
  have hnc : n ≤ cap := hlc
  have hcm : cap ≤ 9223372036854775807 := by unfold maxLen at hm; omega
  generalize hnews : xs.drop (j * 5) = news
  have hlen : news.length = (n - j) * 5 := by rw [← hnews, List.length_drop, hxl, ← Nat.sub_mul]
  obtain ⟨A, hA, hsrc⟩ : ∃ A : Addr, (if cap = j then some (⟨g, 0, none⟩ : Addr) else some ⟨g, j * 5, none⟩) = some A ∧ Hid (∀ t u, news[t]? = some u → w.drew.cell? (A.add t) = some u) := by
    by_cases h : cap = j
    · refine ⟨⟨g, 0, none⟩, by simp [h], fun t u hu => ?_⟩
      have h0 : news.length = 0 := by rw [hlen]; omega
      rw [List.length_eq_zero_iff.1 h0] at hu
      simp at hu
    · refine ⟨⟨g, j * 5, none⟩, by simp [h], fun t u hu => ?_⟩
      rw [← hnews, List.getElem?_drop] at hu
      rw [Addr.add_lit]
      exact hc _ u hu
  have s1 : Hid (news.length = (n - j) * 5) := hlen
  have s2 : Hid (∀ u ∈ news, u.oneCell' = true) := fun u hu => h1 u (by rw [← hnews] at hu; exact List.mem_of_mem_drop hu)
  have s3 : Hid (∀ t, t < news.length → (w.drew.cell? ⟨g, 0 + i * 5 + t, none⟩).isSome = true ∧ w.drew.frozen? ⟨g, 0 + i * 5 + t, none⟩ = false) := by
    intro t ht
    rw [hlen] at ht
    have hlt : 0 + i * 5 + t < xs.length := by rw [hxl]; omega
    refine ⟨?_, hfz _⟩
    show (w.cell? _).isSome = true
    rw [hc _ _ (List.getElem?_eq_getElem hlt)]
    rfl
  obtain ⟨W1, hW1⟩ : ∃ W1, W1 = w.drew.setCells g (0 + i * 5) news := ⟨_, rfl⟩
  have hsome : ∀ t, t < xs.length → (W1.cell? ⟨g, t, none⟩).isSome = true := fun t ht => by
    rw [hW1]
    exact cells_some news _ (by show (w.cell? _).isSome = true; rw [hc _ _ (List.getElem?_eq_getElem ht)]; rfl)
  have hnj : i + (n - j) = n - 1 := by omega
  have hcl : ∀ ty, (Builtin.clear_ #[106] ty #[.slice (some ⟨g, (i + (n - j)) * 5, none⟩) (n - (i + (n - j))) (cap - (i + (n - j)))]).run Tryz.prog W1 = .ok (.tuple #[]) (W1.setCells g ((n - 1) * 5) zeroF) := by
    intro ty
    rw [hnj, show n - (n - 1) = 1 by omega]
    exact clear_one W1 106 110 ty zeroF Tryz.underlying106 zeroFrm (by decide) g _ _ (fun t ht => hsome _ (by rw [hxl]; have : t < 5 := ht; omega)) (fun t _ => by rw [hW1, frozen_setCells]; exact hfz _)
  have hW : Hid (W1 = w.drew.setCells g (0 + i * 5) news) := hW1
  have hic : i ≤ cap := by omega
  have hjc : j ≤ cap := by omega
  have hlt : i < j := by omega
  have hjn : j ≤ n := by omega
  have HN : Hid (i + (n - j) = n - 1) := hnj
  clear hnj hsome hlen hnews hW1 hc own hfz hj hi hxl hm hlc
  go_enter Tryz.func100, Tryz.ntmps100
  go_wp2_with fail
  go_region_law (refine step_append_room rfl (.tmp 22) (.tmp 25) 106 rfl 110 i0 5 Tryz.underlying106 hi0 hz1 g 0 i cap (by simp [Act.eval, Act.put]) A (n - j) (cap - j) news (by simp [Act.eval, Act.put]) s1.out hsrc.out s2.out (by omega) s3.out ?_; rw [← hW.out])
  go_wp2
  go_ret
  refine ⟨by rw [HN.out]; rfl, ?_⟩
  rw [hW.out, Nat.zero_add]

/-- The cells of a block, some of them written anew. -/
def putA (cur : Array Value) (o : Nat) : List Value → Array Value
  | [] => cur
  | v :: r => putA (cur.setIfInBounds o v) (o + 1) r
theorem heap_putA {g : Nat} {e : TypeId} {fz : Nat × Nat} (vs : List Value) : ∀ {w : World} {cur : Array Value} (o : Nat), w.heap[g]? = some (.cells cur e fz) → (w.setCells g o vs).heap[g]? = some (.cells (putA cur o vs) e fz) := by
  induction vs with
  | nil => intro w cur o h; exact h
  | cons v r ih => intro w cur o h; exact ih (o + 1) (heap_setCell_at h v)
theorem putA_size (vs : List Value) : ∀ (cur : Array Value) (o : Nat), (putA cur o vs).size = cur.size := by
  induction vs with
  | nil => intro cur o; rfl
  | cons v r ih => intro cur o; rw [putA, ih]; simp
theorem putA_get (vs : List Value) : ∀ (cur : Array Value) (o k : Nat), o + vs.length ≤ cur.size → (putA cur o vs)[k]? = if o ≤ k ∧ k < o + vs.length then vs[k - o]? else cur[k]? := by
  induction vs with
  | nil => intro cur o k h; simp [putA]; omega
  | cons v r ih =>
    intro cur o k h
    rw [List.length_cons] at h
    rw [putA, ih _ _ _ (by simp; omega), List.length_cons]
    by_cases h1 : k = o
    · subst h1
      have : k < cur.size := by omega
      rw [if_neg (by omega), if_pos (by omega)]
      simp [this]
    · by_cases h2 : o + 1 ≤ k ∧ k < o + 1 + r.length
      · rw [if_pos h2, if_pos (by omega), show k - o = (k - (o + 1)) + 1 by omega, List.getElem?_cons_succ]
      · rw [if_neg h2, if_neg (by omega)]
        simp [Ne.symm h1]
theorem RowC.del {w : World} {col : Col} {κ : Nat × Nat} {e : TypeId} {s n g cap i : Nat} {xs zl : List Value} (h : RowC w col κ e s (.slice (some ⟨g, 0, none⟩) n cap) n xs) (hi : i < n) (hz : zl.length = s) :
    RowC ((w.drew.setCells g (i * s) (xs.drop ((i + 1) * s))).setCells g ((n - 1) * s) zl) col κ e s (.slice (some ⟨g, 0, none⟩) (n - 1) cap) (n - 1) (xs.take (i * s) ++ xs.drop ((i + 1) * s)) ∧ FrC (fun x => x = κ) col col w ((w.drew.setCells g (i * s) (xs.drop ((i + 1) * s))).setCells g ((n - 1) * s) zl) := by
  have hcg : col g = κ := h.col g rfl
  have hgr : w.grownBy ((w.drew.setCells g (i * s) (xs.drop ((i + 1) * s))).setCells g ((n - 1) * s) zl) (some g) :=
    grown_trans (grown_dry (grown_setCells _ _ _)) (grown_setCells _ _ _)
  refine ⟨⟨?_, fun q hq => by cases hq; exact hcg⟩, ⟨(Fr.refl _ w).step hgr (fun q hq => by cases hq; exact .inr hcg), fun _ _ => rfl⟩⟩
  rcases h.own.2 with ⟨h0, _⟩ | ⟨g', cap', cur, hv, hg, hh, h1, h2, h3, h4⟩
  · cases h0
  cases hv
  have hxl := h.own.1
  have e1 : n * s = (n - 1) * s + s := by rw [← Nat.succ_mul]; congr 1; omega
  have e2 : (i + 1) * s = i * s + s := Nat.succ_mul i s
  have e3 : i * s ≤ (n - 1) * s := Nat.mul_le_mul_right s (by omega)
  have e4 : n * s ≤ cap * s := Nat.mul_le_mul_right s h1
  refine ⟨by rw [List.length_append, List.length_take, List.length_drop, hxl]; omega, .inr ⟨g, cap, _, rfl, hg, heap_putA zl _ (heap_putA (xs.drop ((i + 1) * s)) _ (show w.drew.heap[g]? = _ from hh)), by omega, h2, by rw [putA_size, putA_size]; exact h3, ?_⟩⟩
  apply List.ext_getElem?
  intro k
  by_cases hk : k < (n - 1) * s
  · rw [List.getElem?_take_of_lt hk, Array.getElem?_toList, putA_get _ _ _ _ (by rw [putA_size, hz]; omega), if_neg (by omega), putA_get _ _ _ _ (by rw [List.length_drop, hxl]; omega), List.length_drop, hxl]
    by_cases h5 : k < i * s
    · rw [if_neg (by omega), List.getElem?_append_left (by rw [List.length_take, hxl]; omega), List.getElem?_take_of_lt h5, ← h4, List.getElem?_take_of_lt (by omega), Array.getElem?_toList]
    · rw [if_pos (by omega), List.getElem?_append_right (by rw [List.length_take, hxl]; omega), List.length_take, hxl, Nat.min_eq_left (by omega)]
  · rw [List.getElem?_eq_none (by rw [List.length_take]; omega), List.getElem?_eq_none (by rw [List.length_append, List.length_take, List.length_drop, hxl]; omega)]
end Go.Proofs.YtahdlejgjcjeoabGreatDoor
