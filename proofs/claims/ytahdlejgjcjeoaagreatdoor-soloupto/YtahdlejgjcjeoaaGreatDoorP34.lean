/- The laws' book over many lists; a row of threes that is written over. No walk. -/
import Derived.Test.YtahdlejgjcjeoaaGreatDoorP33
import Derived.Test.YtahdlejgjcjeoaaGreatDoorP04
import Derived.Test.YtahdlejgjcjeoaaGreatDoorP20
import Derived.Test.YtahdlejgjcjeoaaGreatDoorP24
namespace Go.Proofs.YtahdlejgjcjeoaaGreatDoor
open Go.RowKit
section
variable {Z w : World} {col : Col} {W x y B M N : Nat} {U : List At} {KR : RefC} {KP : PrK} {c : Clu}

theorem code_tell {A : List At} (hm : ∀ a ∈ A, mayB a = true) (kind : Int) : readCode (tell A) kind = readCode A kind := by
  have h1 : A.all mayB = true := List.all_eq_true.2 hm
  have h2 : (tell A).all mayB = true := List.all_eq_true.2 fun a ha => hm a ((tell_told A).great a ha).1
  simp only [readCode, h1, h2]
theorem spec_tell {A : List At} (hm : ∀ a ∈ A, mayB a = true) {kind : Int} {key : ByteArray} {n : Int} {es : List ByteArray} (h : ReadSpec (tell A) kind key n es) : ReadSpec A kind key n es := by
  rcases h with ⟨h0, hm2, T, hT, rfl, rfl⟩ | ⟨h0, rfl, rfl⟩
  · obtain rfl := hT.unique hm2 (told_again (tell_told A))
    exact .inl ⟨by rw [← code_tell hm]; exact h0, hm, _, tell_told A, rfl, rfl⟩
  · exact .inr ⟨by rw [← code_tell hm]; exact h0, rfl, rfl⟩
theorem readIs_unique {r kind : Int} {key : ByteArray} {n m : Int} {es fs : List ByteArray} (h : c.readIs r kind key n es) (k : c.readIs r kind key m fs) : n = m ∧ es = fs := by
  rcases h with ⟨h0, h1⟩ | ⟨h0, rfl, rfl⟩
  · rcases k with ⟨_, k1⟩ | ⟨k0, _⟩
    · exact ReadSpec.unique h1 k1
    · exact absurd h0 k0
  · rcases k with ⟨k0, _⟩ | ⟨_, rfl, rfl⟩
    · exact absurd k0 h0
    · exact ⟨rfl, rfl⟩
theorem repAt_acked (hok : c.ok U N) (r : Int) : (c.repAt r).acked.length ≤ 6 := by
  unfold Clu.repAt
  by_cases h : c.there r = true
  · rw [if_pos h]
    have hi : r.toNat < c.reps.length := by simp [Clu.there] at h; omega
    rw [(hok.rep hi).ackL]
    exact hok.n6
  · rw [if_neg h]
    simp
theorem GSt.pRead (h : GSt Z w col W x y B M KR KP c c) (hok : c.ok U N) (hL : Lim U N) (r kind : Int) (key : ByteArray) (hk : key.size ≤ 1099511627776) :
    Calls Tryz.prog 45 #[.pointer (some ⟨x, 0, none⟩), .int .i64 r, .int .i64 kind, .string key] w fun e w' => ∃ n v es, e = .returned (.tuple #[.agg #[.int .i64 n, v], .int .i64 (c.readErr r kind)]) ∧ w'.ownsRow w.heap.size 9 1 v es.length (es.map Value.string) ∧ Hid (c.readIs r kind key n es) ∧ es.length ≤ 4194304 ∧ Below w.heap.size w w' := by
  refine (prgRead h.prg (by decide) h.tab hok hL r kind key hk).mono ?_
  rintro e w' ⟨n, v, es, rfl, ho, hs, hb⟩
  by_cases hw : c.works r = 0
  · have hm : ∀ a ∈ (c.rep r.toNat).atoms, mayB a = true := by
      rcases works_cases c r with ⟨h5, _⟩ | ⟨i, rfl, hi, _⟩
      · rw [h5] at hw; cases hw
      exact fun a ha => hok.may a ((hok.rep hi).sub a ha)
    have hs' := hs.out
    rw [if_pos hw] at hs'
    exact ⟨n, v, es, by rw [readErr, Clu.readErr, if_neg (by simp [hw]), if_pos hw, code_tell hm], ho, .inl ⟨hw, spec_tell hm hs'⟩, ReadSpec.length hs' (by have := (ok_tell hok hL hw).2; omega), hb⟩
  · have hs' := hs.out
    rw [if_neg hw] at hs'
    obtain ⟨rfl, rfl⟩ := hs'
    exact ⟨0, v, [], by rw [readErr, Clu.readErr, if_pos hw, if_neg hw], ho, .inr ⟨hw, rfl, rfl⟩, Nat.zero_le _, hb⟩
theorem GSt.pFrame (h : GSt Z w col W x y B M KR KP c c) (hnet : c.net = []) (k : Int) :
    Calls Tryz.prog 89 #[.pointer (some ⟨x, 0, none⟩), .int .i64 k] w fun e w' => e = .returned (.tuple #[.agg #[.int .i64 0, .int .i64 0, .int .i64 0, .int .i64 0, .slice none 0 0], .int .i64 10]) ∧ Below w.heap.size w w' := by
  obtain ⟨ad, cap, hv, _⟩ := h.prg.at_.net.form
  have c42 := h.prg.at_.cl.2.2.2.2.2.1
  have hl : KP.ns.length = 0 := by rw [← List.length_map (f := _), h.prg.is.nets, hnet]; rfl
  rw [hv, hl] at c42
  exact prgFrame_no x KP.R _ _ k w (h.prg.at_.clAt h.prg.is.lk) ad 0 cap c42 (by omega)
theorem GSt.dFrame (h : GSt Z w col W x y B M KR KP c c) (hok : c.ok U N) (hnet : c.net = []) (k : Int) :
    Calls Tryz.prog 90 #[.pointer (some ⟨y, 0, none⟩), .int .i64 k] w fun e w' => ∃ ad cp, e = .returned (.tuple #[.agg #[.int .i64 0, .int .i64 0, .int .i64 0, .int .i64 0, .slice ad 0 cp], .int .i64 10]) ∧ Below w.heap.size w w' := by
  refine (refFrame h.ref hok k).mono ?_
  rintro e w' ⟨v, rfl, hv, hb⟩
  have hh : c.has k = false := by unfold Clu.has; rw [hnet]; simp
  unfold Clu.frmAt Clu.netErr at *
  rw [hh] at hv ⊢
  obtain ⟨ad, cp, rfl, -⟩ := hv
  exact ⟨ad, cp, rfl, hb⟩

set_option maxRecDepth 100000 in
set_option maxHeartbeats 1000000 in
theorem GSt.lRead (h : GSt Z w col W x y B M KR KP c c) (hok : c.ok U N) (hL : Lim U N) (hM : M ≤ 15000000) (r kind : Int) (key : ByteArray) (hk : key.size ≤ 1099511627776) :
    Calls Tryz.prog 85 #[.pointer (some ⟨W, 0, none⟩), .int .i64 r, .int .i64 kind, .string key] w fun e w' => e = .returned (.bool true) ∧ ∃ col', GSt Z w' col' W x y B (M + 4) KR KP c c := by
  have c0 := blk_cell h.wb 0
  simp at c0
  have HP := Hid.mk (h.pRead hok hL r kind key hk)
  have HD := Hid.mk (fun W' (h' : GSt Z W' col W x y B M KR KP c c) => refReadC h'.ref hok hL r kind key hk)
  have HN := Hid.mk h
  clear h hok hL
  generalize c.readErr r kind = E at *
  go_enter Tryz.func85, Tryz.ntmps85
  go_wp2_with fail
  refine HP.out.mono ?_
  rintro e w1 ⟨m, v1, es, rfl, ho1, hs1, hel, hb1⟩
  have HN1 := Hid.mk (HN.out.same hb1)
  have c1 := blk_cell HN1.out.wb 1
  simp at c1
  have hWl : W < w1.heap.size := blk_lt HN1.out.wb
  obtain ⟨ad1, cp1, hf1⟩ := own_form ho1
  subst hf1
  have HO1 := Hid.mk ho1
  have HB1 := Hid.mk hb1
  clear hb1 ho1
  go_wp2_with fail
  refine (HD.out _ (HN1.out.same (below_alloc (Below.refl _ _) _))).mono ?_
  rintro e w2 ⟨m', v2, es', rfl, ho2, hs2, hb2⟩
  obtain ⟨rfl, rfl⟩ := readIs_unique hs1.out hs2.out
  have HN2 := Hid.mk ((HN1.out.same (below_alloc (Below.refl _ _) _)).same hb2)
  have hA2 := (hb2.block w1.heap.size (by simp)).trans (heap_alloc_new w1 _)
  have HA2 := Hid.mk hA2
  have a0 := blk_cell hA2 0
  have a1 := blk_cell hA2 1
  simp at a0 a1
  have hAl : w1.heap.size < w2.heap.size := blk_lt hA2
  obtain ⟨ad2, cp2, hf2⟩ := own_form ho2
  subst hf2
  have hb12 : Below w1.heap.size w1 w2 := ((Below.refl _ w1).alloc (Nat.le_refl _) _).trans (hb2.mono (by simp))
  have HO12 := Hid.mk (owns_below HO1.out hb12)
  have HSM : Hid (∀ W', Below w2.heap.size w2 W' → Calls Tryz.prog 94 #[.agg #[.int .i64 m, .slice ad1 es.length cp1], .agg #[.int .i64 m, .slice ad2 es.length cp2]] W' fun e w' => e = .returned (.bool true) ∧ Below W'.heap.size W' w') := fun W' hW' => sameValues_any m _ _ es W' (strsOf_owns (owns_below HO12.out hW')) (strsOf_owns (owns_below ho2 hW')) (by omega)
  have HBW := Hid.mk (HB1.out.trans (hb12.mono HB1.out.size))
  clear hb2 hA2 HD HP c0 c1 hWl ho2 hs1 hs2 hb12
  go_wp2_with fail
  refine (HSM.out _ (below_alloc (Below.refl _ _) _)).mono ?_
  rintro e w3 ⟨rfl, hb3⟩
  have hA3 : w3.heap[w1.heap.size]? = some (.cells #[.int .i64 m, .slice ad1 es.length cp1] 98 (0, 0)) := (hb3.block w1.heap.size (by simp; omega)).trans ((((Below.refl _ w2).alloc (Nat.le_refl _) _).block _ hAl).trans HA2.out)
  have HN3 := Hid.mk ((HN2.out.same (below_alloc (Below.refl _ _) _)).same hb3)
  have c2 := blk_cell HN3.out.wb 2
  simp at c2
  have hb23 : Below w2.heap.size w2 w3 := ((Below.refl _ w2).alloc (Nat.le_refl _) _).trans (hb3.mono (by simp))
  have HC := Hid.mk (HN.out.ownT (w1 := w3.drew) hM ((HBW.out.trans (hb23.mono HBW.out.size)).drew) (v := .slice ad1 es.length cp1) (l := es.map Value.string) (owns_below (owns_below HO12.out hb23) (Below.refl _ _).drew) (by omega))
  have a1 := blk_cell hA3 1
  simp at a1
  clear hb3 hA3 HSM a0 hb23
  go_wp2_with fail
  refine wp_region_last 6 (S := fun w' => w'.cell? ⟨W, 2, none⟩ = some (.pointer (some ⟨B, 0, none⟩)) ∧ w'.cell? ⟨w1.heap.size, 1, none⟩ = some (.slice ad1 es.length cp1)) (by kernel_rfl) ⟨c2, a1⟩ (fun hHeld => ?_)
  refine wpAnyL_takeY (i := 0) (oi := _) (v := ?_) rfl (by kernel_rfl) (by kernel_rfl) (by kernel_rfl) (by kernel_rfl) (fun _ _ _ h => h) (Or.inl ⟨by rfl, ?_⟩) (by assumption) ?_
  rotate_left
  · intro w _
    go_simp <;> with_reducible rfl
  simp only [Act.put, List.setIfInBounds_toArray]
  refine wpAnyL_takeY (i := 1) (oi := _) (v := ?_) rfl (by kernel_rfl) (by kernel_rfl) (by kernel_rfl) (by kernel_rfl) (fun _ _ _ h => h) (Or.inl ⟨by rfl, ?_⟩) (by assumption) ?_
  rotate_left
  · intro w _
    go_simp <;> with_reducible rfl
  simp only [Act.put]
  refine wpAnyL_takeY (i := 2) (oi := _) (v := ?_) rfl (by kernel_rfl) (by kernel_rfl) (by kernel_rfl) (by kernel_rfl) (fun _ _ _ h => h) (Or.inl ⟨by rfl, ?_⟩) (by assumption) ?_
  rotate_left
  · intro w _
    go_simp <;> with_reducible rfl
  simp only [Act.put]
  refine wpAnyL_take (i := 3) (oi := _) (v := ?_) rfl (by kernel_rfl) (by kernel_rfl) (by kernel_rfl) (by kernel_rfl) (fun _ _ _ h => h) (Or.inl ⟨by rfl, ?_⟩) (by assumption) (by kernel_rfl) ?_
  rotate_left
  · intro w hSw
    try dsimp only at hSw
    go_simp <;> with_reducible rfl
  simp only [Act.put]
  refine wpAnyL_takeY (i := 4) (oi := _) (v := ?_) rfl (by kernel_rfl) (by kernel_rfl) (by kernel_rfl) (by kernel_rfl) (fun _ _ _ h => h) (Or.inl ⟨by rfl, ?_⟩) (by assumption) ?_
  rotate_left
  · intro w _
    go_simp <;> with_reducible rfl
  simp only [Act.put]
  refine wpAnyL_take (i := 5) (oi := _) (v := ?_) rfl (by kernel_rfl) (by kernel_rfl) (by kernel_rfl) (by kernel_rfl) (fun _ _ _ h => h) (Or.inl ⟨by rfl, ?_⟩) (by assumption) (by kernel_rfl) ?_
  rotate_left
  · intro w hSw
    try dsimp only at hSw
    go_simp <;> with_reducible rfl
  simp only [Act.put]
  refine wpAnyL_ready (rs := [6]) (by kernel_rfl) (by simp) ?_
  refine AllReadyL.cons (o := _) rfl (fun K hK => ?_) AllReadyL.nil
  go_simp
  refine HC.out.mono ?_
  rintro e w4 ⟨rfl, hn4⟩
  have HR := Hid.mk hn4
  clear HC hn4
  go_wp2_with fail
  refine hK.out _ _ (fun h => not_unl (by kernel_rfl) h) (fun _ => ?_)
  clear hK K
  refine wpAnyL_done (by kernel_rfl) ?_ _
  go_wp2
  go_ret
  exact ⟨rfl, _, HR.out⟩

set_option maxRecDepth 100000 in
set_option maxHeartbeats 1000000 in
theorem GSt.lReplica (h : GSt Z w col W x y B M KR KP c c) (hok : c.ok U N) (_hL : Lim U N) (hM : M ≤ 15000000) (r : Int) :
    Calls Tryz.prog 88 #[.pointer (some ⟨W, 0, none⟩), .int .i64 r] w fun e w' => e = .returned (.bool true) ∧ ∃ col', GSt Z w' col' W x y B (M + 4) KR KP c c := by
  have c0 := blk_cell h.wb 0
  simp at c0
  have HP := Hid.mk (prgReplica h.prg hok r)
  have HD := Hid.mk (fun W' (h' : GSt Z W' col W x y B M KR KP c c) => refReplica h'.ref hok r)
  have hal := repAt_acked hok r
  have HN := Hid.mk h
  clear h hok _hL
  generalize c.thereErr r = E at *
  generalize (c.repAt r).acked = A at *
  generalize (!(c.repAt r).down) = up at *
  generalize ((c.repAt r).num : Int) = i1 at *
  generalize ((c.repAt r).base : Int) = i2 at *
  generalize ((c.repAt r).frames : Int) = i4 at *
  generalize ((c.repAt r).weight : Int) = i5 at *
  go_enter Tryz.func88, Tryz.ntmps88
  go_wp2_with fail
  refine HP.out.mono ?_
  rintro e w1 ⟨v1, rfl, ho1, hb1⟩
  have HN1 := Hid.mk (HN.out.same hb1)
  have c1 := blk_cell HN1.out.wb 1
  simp at c1
  have hWl : W < w1.heap.size := blk_lt HN1.out.wb
  obtain ⟨ad1, cp1, hf1⟩ := own_form ho1
  subst hf1
  have HO1 := Hid.mk ho1
  have HB1 := Hid.mk hb1
  clear hb1 ho1
  go_wp2_with fail
  refine (HD.out _ (HN1.out.same (below_alloc (Below.refl _ _) _))).mono ?_
  rintro e w2 ⟨v2, rfl, ho2, hb2⟩
  have HN2 := Hid.mk ((HN1.out.same (below_alloc (Below.refl _ _) _)).same hb2)
  have hA2 := (hb2.block w1.heap.size (by simp)).trans (heap_alloc_new w1 _)
  have HA2 := Hid.mk hA2
  have a3 := blk_cell hA2 3
  simp at a3
  have hAl : w1.heap.size < w2.heap.size := blk_lt hA2
  obtain ⟨ad2, cp2, hf2⟩ := own_form ho2
  subst hf2
  have hb12 : Below w1.heap.size w1 w2 := ((Below.refl _ w1).alloc (Nat.le_refl _) _).trans (hb2.mono (by simp))
  have HO12 := Hid.mk (owns_below HO1.out hb12)
  have HSM : Hid (∀ W', Below w2.heap.size w2 W' → Calls Tryz.prog 135 #[.slice ad1 A.length cp1, .slice ad2 A.length cp2] W' fun e w' => e = .returned (.bool true) ∧ Below W'.heap.size W' w') := fun W' hW' => sameInts_any _ _ A W' (intsOf_owns (owns_below HO12.out hW')) (intsOf_owns (owns_below ho2 hW')) (by omega)
  have HBW := Hid.mk (HB1.out.trans (hb12.mono HB1.out.size))
  clear hb2 hA2 HD HP c0 c1 hWl ho2 hb12
  go_wp2_with fail
  refine (HSM.out _ (below_alloc (Below.refl _ _) _)).mono ?_
  rintro e w3 ⟨rfl, hb3⟩
  have hA3 : w3.heap[w1.heap.size]? = some (.cells #[.bool up, .int .i64 i1, .int .i64 i2, .slice ad1 A.length cp1, .int .i64 i4, .int .i64 i5] 197 (0, 0)) := (hb3.block w1.heap.size (by simp; omega)).trans ((((Below.refl _ w2).alloc (Nat.le_refl _) _).block _ hAl).trans HA2.out)
  have hB3 : w3.heap[w2.heap.size]? = some (.cells #[.bool up, .int .i64 i1, .int .i64 i2, .slice ad2 A.length cp2, .int .i64 i4, .int .i64 i5] 197 (0, 0)) := (hb3.block w2.heap.size (by simp)).trans (heap_alloc_new w2 _)
  have HN3 := Hid.mk ((HN2.out.same (below_alloc (Below.refl _ _) _)).same hb3)
  have c2 := blk_cell HN3.out.wb 2
  simp at c2
  have hb23 : Below w2.heap.size w2 w3 := ((Below.refl _ w2).alloc (Nat.le_refl _) _).trans (hb3.mono (by simp))
  have HC := Hid.mk (HN.out.ownI (w1 := w3.drew) hM ((HBW.out.trans (hb23.mono HBW.out.size)).drew) (v := .slice ad1 A.length cp1) (l := ints A) (owns_below (owns_below HO12.out hb23) (Below.refl _ _).drew) (by omega))
  have a0 := blk_cell hA3 0
  have a1 := blk_cell hA3 1
  have a2 := blk_cell hA3 2
  have a3 := blk_cell hA3 3
  have a4 := blk_cell hA3 4
  have a5 := blk_cell hA3 5
  have b0 := blk_cell hB3 0
  have b1 := blk_cell hB3 1
  have b2 := blk_cell hB3 2
  have b4 := blk_cell hB3 4
  have b5 := blk_cell hB3 5
  simp at a0 a1 a2 a3 a4 a5 b0 b1 b2 b4 b5
  clear hb3 hA3 hB3 HSM hb23
  go_wp2_with fail
  refine wp_region_last 6 (S := fun w' => w'.cell? ⟨W, 2, none⟩ = some (.pointer (some ⟨B, 0, none⟩)) ∧ w'.cell? ⟨w1.heap.size, 3, none⟩ = some (.slice ad1 A.length cp1)) (by kernel_rfl) ⟨c2, a3⟩ (fun hHeld => ?_)
  refine wpAnyL_takeY (i := 0) (oi := _) (v := ?_) rfl (by kernel_rfl) (by kernel_rfl) (by kernel_rfl) (by kernel_rfl) (fun _ _ _ h => h) (Or.inl ⟨by rfl, ?_⟩) (by assumption) ?_
  rotate_left
  · intro w _
    go_simp <;> with_reducible rfl
  simp only [Act.put, List.setIfInBounds_toArray]
  refine wpAnyL_takeY (i := 1) (oi := _) (v := ?_) rfl (by kernel_rfl) (by kernel_rfl) (by kernel_rfl) (by kernel_rfl) (fun _ _ _ h => h) (Or.inl ⟨by rfl, ?_⟩) (by assumption) ?_
  rotate_left
  · intro w _
    go_simp <;> with_reducible rfl
  simp only [Act.put]
  refine wpAnyL_takeY (i := 2) (oi := _) (v := ?_) rfl (by kernel_rfl) (by kernel_rfl) (by kernel_rfl) (by kernel_rfl) (fun _ _ _ h => h) (Or.inl ⟨by rfl, ?_⟩) (by assumption) ?_
  rotate_left
  · intro w _
    go_simp <;> with_reducible rfl
  simp only [Act.put]
  refine wpAnyL_take (i := 3) (oi := _) (v := ?_) rfl (by kernel_rfl) (by kernel_rfl) (by kernel_rfl) (by kernel_rfl) (fun _ _ _ h => h) (Or.inl ⟨by rfl, ?_⟩) (by assumption) (by kernel_rfl) ?_
  rotate_left
  · intro w hSw
    try dsimp only at hSw
    go_simp <;> with_reducible rfl
  simp only [Act.put]
  refine wpAnyL_takeY (i := 4) (oi := _) (v := ?_) rfl (by kernel_rfl) (by kernel_rfl) (by kernel_rfl) (by kernel_rfl) (fun _ _ _ h => h) (Or.inl ⟨by rfl, ?_⟩) (by assumption) ?_
  rotate_left
  · intro w _
    go_simp <;> with_reducible rfl
  simp only [Act.put]
  refine wpAnyL_take (i := 5) (oi := _) (v := ?_) rfl (by kernel_rfl) (by kernel_rfl) (by kernel_rfl) (by kernel_rfl) (fun _ _ _ h => h) (Or.inl ⟨by rfl, ?_⟩) (by assumption) (by kernel_rfl) ?_
  rotate_left
  · intro w hSw
    try dsimp only at hSw
    go_simp <;> with_reducible rfl
  simp only [Act.put]
  refine wpAnyL_ready (rs := [6]) (by kernel_rfl) (by simp) ?_
  refine AllReadyL.cons (o := _) rfl (fun K hK => ?_) AllReadyL.nil
  go_simp
  refine HC.out.mono ?_
  rintro e w4 ⟨rfl, hn4⟩
  have HR := Hid.mk hn4
  clear HC hn4
  go_wp2_with fail
  refine hK.out _ _ (fun h => not_unl (by kernel_rfl) h) (fun _ => ?_)
  clear hK K
  refine wpAnyL_done (by kernel_rfl) ?_ _
  go_wp2
  go_ret
  exact ⟨rfl, _, HR.out⟩

set_option maxRecDepth 100000 in
set_option maxHeartbeats 1000000 in
theorem GSt.lFrame (h : GSt Z w col W x y B M KR KP c c) (hok : c.ok U N) (hnet : c.net = []) (hM : M ≤ 15000000) (k : Int) :
    Calls Tryz.prog 41 #[.pointer (some ⟨W, 0, none⟩), .int .i64 k] w fun e w' => e = .returned (.bool true) ∧ ∃ col', GSt Z w' col' W x y B (M + 4) KR KP c c := by
  have c0 := blk_cell h.wb 0
  simp at c0
  have HP := Hid.mk (h.pFrame hnet k)
  have HD := Hid.mk (fun W' (h' : GSt Z W' col W x y B M KR KP c c) => h'.dFrame hok hnet k)
  have HN := Hid.mk h
  clear h hok
  go_enter Tryz.func41, Tryz.ntmps41
  go_wp2_with fail
  refine HP.out.mono ?_
  rintro e w1 ⟨rfl, hb1⟩
  have HN1 := Hid.mk (HN.out.same hb1)
  have c1 := blk_cell HN1.out.wb 1
  simp at c1
  have HB1 := Hid.mk hb1
  have hWl : W < w1.heap.size := blk_lt HN1.out.wb
  clear hb1
  go_wp2_with fail
  refine (HD.out _ (HN1.out.same (below_alloc (Below.refl _ _) _))).mono ?_
  rintro e w2 ⟨ad, cp, rfl, hb2⟩
  have HN2 := Hid.mk ((HN1.out.same (below_alloc (Below.refl _ _) _)).same hb2)
  have hA2 := (hb2.block w1.heap.size (by simp)).trans (heap_alloc_new w1 _)
  have HA2 := Hid.mk hA2
  have a4 := blk_cell hA2 4
  simp at a4
  have hAl : w1.heap.size < w2.heap.size := blk_lt hA2
  have HSM : Hid (∀ W', Calls Tryz.prog 91 #[.slice none 0 0, .slice ad 0 cp] W' fun e w' => e = .returned (.bool true) ∧ Below W'.heap.size W' w') := fun W' => sameAtoms_any (.slice none 0 0) (.slice ad 0 cp) [] W' (sliceOf_nil W') ⟨ad, cp, rfl, Nat.zero_le _, fun h => by simp at h⟩ (by simp)
  clear hb2 hA2 HD HP c0 c1 hWl
  go_wp2_with fail
  refine (HSM.out _).mono ?_
  rintro e w3 ⟨rfl, hb3⟩
  have hA3 : w3.heap[w1.heap.size]? = some (.cells #[.int .i64 0, .int .i64 0, .int .i64 0, .int .i64 0, .slice none 0 0] 153 (0, 0)) := (hb3.block w1.heap.size (by simp; omega)).trans ((((Below.refl _ w2).alloc (Nat.le_refl _) _).block _ hAl).trans HA2.out)
  have hB3 : w3.heap[w2.heap.size]? = some (.cells #[.int .i64 0, .int .i64 0, .int .i64 0, .int .i64 0, .slice ad 0 cp] 153 (0, 0)) := (hb3.block w2.heap.size (by simp)).trans (heap_alloc_new w2 _)
  have HN3 := Hid.mk ((HN2.out.same (below_alloc (Below.refl _ _) _)).same hb3)
  have c2 := blk_cell HN3.out.wb 2
  simp at c2
  have a0 := blk_cell hA3 0
  have a1 := blk_cell hA3 1
  have a2 := blk_cell hA3 2
  have a3 := blk_cell hA3 3
  have a4 := blk_cell hA3 4
  have b0 := blk_cell hB3 0
  have b1 := blk_cell hB3 1
  have b2 := blk_cell hB3 2
  have b3 := blk_cell hB3 3
  simp at a0 a1 a2 a3 a4 b0 b1 b2 b3
  have HC := Hid.mk (GSt.ownA (HN3.out.same (Below.refl _ _).drew) hM (Below.refl _ _) (v := .slice none 0 0) (l := []) ⟨rfl, .inl ⟨rfl, rfl⟩⟩ (by simp))
  clear hb3 hA3 hB3 HSM
  go_wp2_with fail
  refine wp_region_last 6 (S := fun w' => w'.cell? ⟨W, 2, none⟩ = some (.pointer (some ⟨B, 0, none⟩)) ∧ w'.cell? ⟨w1.heap.size, 4, none⟩ = some (.slice none 0 0)) (by kernel_rfl) ⟨c2, a4⟩ (fun hHeld => ?_)
  refine wpAnyL_takeY (i := 0) (oi := _) (v := ?_) rfl (by kernel_rfl) (by kernel_rfl) (by kernel_rfl) (by kernel_rfl) (fun _ _ _ h => h) (Or.inl ⟨by rfl, ?_⟩) (by assumption) ?_
  rotate_left
  · intro w _
    go_simp <;> with_reducible rfl
  simp only [Act.put, List.setIfInBounds_toArray]
  refine wpAnyL_takeY (i := 1) (oi := _) (v := ?_) rfl (by kernel_rfl) (by kernel_rfl) (by kernel_rfl) (by kernel_rfl) (fun _ _ _ h => h) (Or.inl ⟨by rfl, ?_⟩) (by assumption) ?_
  rotate_left
  · intro w _
    go_simp <;> with_reducible rfl
  simp only [Act.put]
  refine wpAnyL_takeY (i := 2) (oi := _) (v := ?_) rfl (by kernel_rfl) (by kernel_rfl) (by kernel_rfl) (by kernel_rfl) (fun _ _ _ h => h) (Or.inl ⟨by rfl, ?_⟩) (by assumption) ?_
  rotate_left
  · intro w _
    go_simp <;> with_reducible rfl
  simp only [Act.put]
  refine wpAnyL_take (i := 3) (oi := _) (v := ?_) rfl (by kernel_rfl) (by kernel_rfl) (by kernel_rfl) (by kernel_rfl) (fun _ _ _ h => h) (Or.inl ⟨by rfl, ?_⟩) (by assumption) (by kernel_rfl) ?_
  rotate_left
  · intro w hSw
    try dsimp only at hSw
    go_simp <;> with_reducible rfl
  simp only [Act.put]
  refine wpAnyL_takeY (i := 4) (oi := _) (v := ?_) rfl (by kernel_rfl) (by kernel_rfl) (by kernel_rfl) (by kernel_rfl) (fun _ _ _ h => h) (Or.inl ⟨by rfl, ?_⟩) (by assumption) ?_
  rotate_left
  · intro w _
    go_simp <;> with_reducible rfl
  simp only [Act.put]
  refine wpAnyL_take (i := 5) (oi := _) (v := ?_) rfl (by kernel_rfl) (by kernel_rfl) (by kernel_rfl) (by kernel_rfl) (fun _ _ _ h => h) (Or.inl ⟨by rfl, ?_⟩) (by assumption) (by kernel_rfl) ?_
  rotate_left
  · intro w hSw
    try dsimp only at hSw
    go_simp <;> with_reducible rfl
  simp only [Act.put]
  refine wpAnyL_ready (rs := [6]) (by kernel_rfl) (by simp) ?_
  refine AllReadyL.cons (o := _) rfl (fun K hK => ?_) AllReadyL.nil
  go_simp
  refine HC.out.mono ?_
  rintro e w4 ⟨rfl, hn4⟩
  have HR := Hid.mk hn4
  clear HC hn4
  go_wp2_with fail
  refine hK.out _ _ (fun h => not_unl (by kernel_rfl) h) (fun _ => ?_)
  clear hK K
  refine wpAnyL_done (by kernel_rfl) ?_ _
  go_wp2
  go_ret
  exact ⟨rfl, _, HR.out⟩
end
end Go.Proofs.YtahdlejgjcjeoaaGreatDoor

namespace Go.Proofs.YtahdlejgjcjeoaaGreatDoor
open Go.RowKit

/-- The block is none of the book's. -/
def OffB (B : Nat) (va : Nat → Value) (es : Nat → List (Value × Int)) (q : Nat) : Prop := q ≠ B ∧ (∀ j, j < 4 → some q ≠ (va j).ownBlock) ∧ ∀ j, j < 4 → ∀ p ∈ es j, p.1.ownBlock ≠ some q
/-- What may have been written: the book, what is new since base, and the book's lists as they lay. -/
def XB (B base : Nat) (va : Nat → Value) (q : Nat) : Prop := q = B ∨ base ≤ q ∨ ∃ f, f < 4 ∧ (va f).ownBlock = some q
structure BkR (w0 : World) (base B : Nat) (va0 : Nat → Value) (es0 : Nat → List (Value × Int)) (w : World) (va : Nat → Value) (es : Nat → List (Value × Int)) : Prop where
  bk : Bk w B va es
  fr : Fr (XB B base va0) w0 w
  ent : ∀ f, f < 4 → ∀ p ∈ es f, p ∈ es0 f ∨ ∀ q, p.1.ownBlock = some q → base ≤ q
  xa : ∀ f, f < 4 → ∀ q, (va f).ownBlock = some q → base ≤ q ∨ XB B base va0 q
theorem bkR_refl {w : World} {base B : Nat} {va : Nat → Value} {es : Nat → List (Value × Int)} (h : Bk w B va es) : BkR w base B va es w va es :=
  ⟨h, Fr.refl _ _, fun _ _ _ hp => .inl hp, fun f hf _q hq => .inr (.inr (.inr ⟨f, hf, hq⟩))⟩

section
variable {w0 wr w' : World} {base B f : Nat} {va0 va : Nat → Value} {es0 es : Nat → List (Value × Int)} {vl vf : Value} {ef : List (Value × Int)}
theorem BkR.step (h : BkR w0 base B va0 es0 wr va es) (hf : f < 4) (hvl : ∀ q, vl.ownBlock = some q → base ≤ q) (hb : base ≤ wr.heap.size) (hk : Bk w' B (updF va f vf) (updF es f ef))
    (hin : (∀ p ∈ ef, p ∈ es f ∨ ∀ q, p.1.ownBlock = some q → wr.heap.size ≤ q ∨ some q = vl.ownBlock) ∧ NewOr (fun q => q = B ∨ some q = vl.ownBlock ∨ some q = (va f).ownBlock) wr vf)
    (hfr : Fr (fun q => q = B ∨ some q = vl.ownBlock ∨ some q = (va f).ownBlock) wr w') : BkR w0 base B va0 es0 w' (updF va f vf) (updF es f ef) where
  bk := hk
  fr := h.fr.trans hfr fun q _ hX => by
    rcases hX with rfl | hX | hX
    · exact .inl rfl
    · exact .inr (.inl (hvl q hX.symm))
    · exact (h.xa f hf q hX.symm).elim (fun h => .inr (.inl h)) id
  ent j hj p hp := by
    by_cases e : j = f
    · subst e
      rw [updF_same] at hp
      rcases hin.1 p hp with h1 | h1
      · exact h.ent j hj p h1
      · exact .inr fun q hq => (h1 q hq).elim (fun h => by omega) (fun h => hvl q h.symm)
    · rw [updF_other _ _ e] at hp
      exact h.ent j hj p hp
  xa j hj q hq := by
    by_cases e : j = f
    · subst e
      rw [updF_same] at hq
      rcases hin.2 q hq with h1 | rfl | h1 | h1
      · exact .inl (by omega)
      · exact .inr (.inl rfl)
      · exact .inl (hvl q h1.symm)
      · exact h.xa j hj q h1.symm
    · rw [updF_other _ _ e] at hq
      exact h.xa j hj q hq
theorem OffB.step {q : Nat} (h : OffB B va es q) (hq : q < wr.heap.size) (hvl : vl.ownBlock ≠ some q)
    (hin : (∀ p ∈ ef, p ∈ es f ∨ ∀ q, p.1.ownBlock = some q → wr.heap.size ≤ q ∨ some q = vl.ownBlock) ∧ NewOr (fun q => q = B ∨ some q = vl.ownBlock ∨ some q = (va f).ownBlock) wr vf) (hf : f < 4) : OffB B (updF va f vf) (updF es f ef) q := by
  refine ⟨h.1, fun j hj e => ?_, fun j hj p hp e => ?_⟩
  · by_cases ej : j = f
    · subst ej
      rw [updF_same] at e
      rcases hin.2 q e.symm with h1 | h1 | h1 | h1
      · omega
      · exact h.1 h1
      · exact hvl h1.symm
      · exact h.2.1 j hj h1
    · rw [updF_other _ _ ej] at e
      exact h.2.1 j hj e
  · by_cases ej : j = f
    · subst ej
      rw [updF_same] at hp
      rcases hin.1 p hp with h1 | h1
      · exact h.2.2 j hj p h1 e
      · rcases h1 q e with h2 | h2
        · omega
        · exact hvl h2.symm
    · rw [updF_other _ _ ej] at hp
      exact h.2.2 j hj p hp e
end

/-- One cell of a row of one's own is written. -/
theorem owns_write {w : World} {base g cap n s : Nat} {e : TypeId} {xs : List Value} (h : w.ownsRow base e s (.slice (some ⟨g, 0, none⟩) n cap) n xs) (i : Nat) (u : Value) :
    (w.setCell ⟨g, i, none⟩ u).ownsRow base e s (.slice (some ⟨g, 0, none⟩) n cap) n (xs.set i u) := by
  rcases h.2 with ⟨h0, _⟩ | ⟨g', cap', cur, hv, hg, hh, h1, h2, h3, h4⟩
  · cases h0
  cases hv
  refine ⟨by rw [List.length_set]; exact h.1, .inr ⟨g, cap, _, rfl, hg, heap_setCell_at hh u, h1, h2, by simp [h3], ?_⟩⟩
  rw [Array.toList_setIfInBounds, ← h4, List.take_set]
/-- What a store of three cells wants to know. -/
theorem owns_three {w : World} {base g cap n : Nat} {e : TypeId} {xs : List Value} (h : w.ownsRow base e 3 (.slice (some ⟨g, 0, none⟩) n cap) n xs) (i : Nat) (hi : i < n) :
    (∃ u, w.cell? ⟨g, i * 3, none⟩ = some u) ∧ (∃ u, w.cell? ⟨g, i * 3 + 1, none⟩ = some u) ∧ (∃ u, w.cell? ⟨g, i * 3 + 2, none⟩ = some u) ∧ ∀ o, w.frozen? ⟨g, o, none⟩ = false := by
  rcases h.2 with ⟨h0, _⟩ | ⟨g', cap', cur, hv, hg, hh, h1, h2, h3, h4⟩
  · cases h0
  cases hv
  have hc : ∀ t, t < i * 3 + 3 → ∃ u, w.cell? ⟨g, t, none⟩ = some u := fun t ht => by
    have hlt : t < cur.size := by rw [h3]; omega
    exact ⟨cur[t], by simp [World.cell?, hh, hlt]⟩
  exact ⟨hc _ (by omega), hc _ (by omega), hc _ (by omega), fun o => by simp [World.frozen?, hh]⟩
def set3 (xs : List Value) (i : Nat) (a b c : Value) : List Value := ((xs.set (i * 3) a).set (i * 3 + 1) b).set (i * 3 + 2) c
theorem set3_length (xs : List Value) (i : Nat) (a b c : Value) : (set3 xs i a b c).length = xs.length := by simp [set3]
/-- The first j items are this. -/
def Upto3 (xs : List Value) (j : Nat) (c : List Value) : Prop := ∀ t, t < j → ∀ s, s < 3 → xs[t * 3 + s]? = c[s]?
theorem Upto3.step {xs : List Value} {j n : Nat} {a b c : Value} (h : Upto3 xs j [a, b, c]) (hl : xs.length = n * 3) (hj : j < n) : Upto3 (set3 xs j a b c) (j + 1) [a, b, c] := by
  intro t ht s hs
  unfold set3
  by_cases e : t = j
  · subst e
    have h1 : t * 3 + 2 < xs.length := by omega
    rcases (show s = 0 ∨ s = 1 ∨ s = 2 by omega) with rfl | rfl | rfl
    · rw [List.getElem?_set_ne (by omega), List.getElem?_set_ne (by omega), Nat.add_zero, List.getElem?_set_self (by omega)]; rfl
    · rw [List.getElem?_set_ne (by omega), List.getElem?_set_self (by simp; omega)]; rfl
    · rw [List.getElem?_set_self (by simp; omega)]; rfl
  · rw [List.getElem?_set_ne (by omega), List.getElem?_set_ne (by omega), List.getElem?_set_ne (by omega)]
    exact h t (by omega) s hs
theorem Upto3.reps {xs : List Value} {n : Nat} {a b c : Value} (h : Upto3 xs n [a, b, c]) (hl : xs.length = n * 3) : xs = reps n [a, b, c] := by
  apply List.ext_getElem?
  intro i
  by_cases hi : i < n * 3
  · have e : i = i / 3 * 3 + i % 3 := by omega
    rw [e, h (i / 3) (by omega) (i % 3) (by omega)]
    rcases (show i % 3 = 0 ∨ i % 3 = 1 ∨ i % 3 = 2 by omega) with e | e | e <;> rw [e]
    · exact (reps_get (c := [a, b, c]) (j := 0) (u := a) (by omega) rfl).symm
    · exact (reps_get (c := [a, b, c]) (j := 1) (u := b) (by omega) rfl).symm
    · exact (reps_get (c := [a, b, c]) (j := 2) (u := c) (by omega) rfl).symm
  · rw [List.getElem?_eq_none (by omega), List.getElem?_eq_none (by rw [reps_length]; simp; omega)]
theorem owns_store3 {w : World} {base g cap n : Nat} {e : TypeId} {xs : List Value} (h : w.ownsRow base e 3 (.slice (some ⟨g, 0, none⟩) n cap) n xs) (i : Nat) (a b c : Value) :
    (w.setCells g (i * 3) [a, b, c]).ownsRow base e 3 (.slice (some ⟨g, 0, none⟩) n cap) n (set3 xs i a b c) :=
  owns_write (owns_write (owns_write h _ a) _ b) _ c

/-- The entries' lists, while they are handed over. -/
structure EoS (w0 : World) (base B : Nat) (va0 : Nat → Value) (es0 : Nat → List (Value × Int)) (v : Value) (ds : List Pe) (k : Nat) (wr : World) (va : Nat → Value) (es : Nat → List (Value × Int)) : Prop where
  r : BkR w0 base B va0 es0 wr va es
  row : wr.ownsRow base 86 3 v ds.length (ds.flatMap Pe.cells)
  own : ∀ e ∈ ds.drop k, wr.ownsRow base 77 6 e.v e.d.length (flat e.d)
  offV : ∀ q, v.ownBlock = some q → OffB B va es q
  offE : ∀ e ∈ ds.drop k, ∀ q, e.v.ownBlock = some q → OffB B va es q
  sep : ∀ e ∈ ds.drop k, Apart e.v v
  far : (ds.drop k).Pairwise fun a b => Apart a.v b.v
  len : (es 0).length = (es0 0).length + 4 * k
  oth : ∀ f, f ≠ 0 → (es f).length = (es0 f).length

theorem EoS.step {w0 wr w' : World} {base B k : Nat} {va0 va : Nat → Value} {es0 es : Nat → List (Value × Int)} {v vf : Value} {ds : List Pe} {ef : List (Value × Int)} (h : EoS w0 base B va0 es0 v ds k wr va es) (hk : k < ds.length) (hb : base ≤ wr.heap.size)
    (hbk : Bk w' B (updF va 0 vf) (updF es 0 ef)) (hlen : ef.length = (es 0).length + 4)
    (hin : (∀ p ∈ ef, p ∈ es 0 ∨ ∀ q, p.1.ownBlock = some q → wr.heap.size ≤ q ∨ some q = (ds[k]).v.ownBlock) ∧ NewOr (fun q => q = B ∨ some q = (ds[k]).v.ownBlock ∨ some q = (va 0).ownBlock) wr vf)
    (hfr : Fr (fun q => q = B ∨ some q = (ds[k]).v.ownBlock ∨ some q = (va 0).ownBlock) wr w') : EoS w0 base B va0 es0 v ds (k + 1) w' (updF va 0 vf) (updF es 0 ef) := by
  have hd : ds.drop k = ds[k] :: ds.drop (k + 1) := List.drop_eq_getElem_cons hk
  have hmem : ds[k] ∈ ds.drop k := by rw [hd]; exact List.mem_cons_self
  have hsub : ∀ e ∈ ds.drop (k + 1), e ∈ ds.drop k := fun e he => by rw [hd]; exact List.mem_cons_of_mem _ he
  have hfar := h.far
  rw [hd, List.pairwise_cons] at hfar
  have hvk := h.own _ hmem
  refine ⟨h.r.step (by decide) (owns_base hvk) hb hbk hin hfr, owns_fr h.row hfr fun q hq hX => ?_, fun e he => owns_fr (h.own e (hsub e he)) hfr fun q hq hX => ?_, fun q hq => (h.offV q hq).step (own_lt h.row q hq) (fun e => h.sep _ hmem q e hq) hin (by decide), fun e he q hq => (h.offE e (hsub e he) q hq).step (own_lt (h.own e (hsub e he)) q hq) (fun e' => hfar.1 e he q e' hq) hin (by decide), fun e he => h.sep e (hsub e he), hfar.2, ?_, fun f hf => ?_⟩
  · have ho := h.offV q hq
    rcases hX with hX | hX | hX
    · exact ho.1 hX
    · exact h.sep _ hmem q hX.symm hq
    · exact ho.2.1 0 (by decide) hX
  · have ho := h.offE e (hsub e he) q hq
    rcases hX with hX | hX | hX
    · exact ho.1 hX
    · exact hfar.1 e he q hX.symm hq
    · exact ho.2.1 0 (by decide) hX
  · rw [updF_same, hlen, h.len]; omega
  · rw [updF_other _ _ hf]; exact h.oth f hf
end Go.Proofs.YtahdlejgjcjeoaaGreatDoor
