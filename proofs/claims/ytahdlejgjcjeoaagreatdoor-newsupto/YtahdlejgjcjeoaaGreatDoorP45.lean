/- Walks of the law's whole and last, at a new cluster. -/
import Derived.Test.YtahdlejgjcjeoaaGreatDoorP44
namespace Go.Proofs.YtahdlejgjcjeoaaGreatDoor
open Go.RowKit

/-- A slice of these numbers. -/
def IntsOf (w : World) (v : Value) (l : List Nat) : Prop :=
  ∃ ad cap, v = .slice ad l.length cap ∧ (0 < l.length → ∃ b off, ad = some ⟨b, off, none⟩ ∧ b < w.heap.size ∧ ∀ i (h : i < l.length), w.cell? ⟨b, off + i, none⟩ = some (.int .i64 (l[i] : Nat)))
theorem intsOf_owns {w : World} {base : Nat} {e : TypeId} {v : Value} {l : List Nat} (h : w.ownsRow base e 1 v l.length (ints l)) : IntsOf w v l := by
  rcases h.2 with ⟨rfl, h0⟩ | ⟨g, cap, cur, rfl, hg, hb, h1, h2, h3, h4⟩
  · exact ⟨none, 0, by rw [h0], fun h => by omega⟩
  · refine ⟨_, cap, rfl, fun _ => ⟨g, 0, rfl, (Array.getElem?_eq_some_iff.1 hb).1, fun i hi => ?_⟩⟩
    have hx : (ints l)[i]? = some (.int .i64 (l[i] : Nat)) := by simp [ints, hi]
    rw [← h4, List.getElem?_take, if_pos (by omega), Array.getElem?_toList] at hx
    rw [Nat.zero_add]
    simp [World.cell?, hb, hx]
set_option maxRecDepth 100000 in
theorem sameInts_any (v1 v2 : Value) (l : List Nat) (w : World) (h1 : IntsOf w v1 l) (h2 : IntsOf w v2 l) (hlen : l.length ≤ 281474976710656) :
    Calls Tryz.prog 135 #[v1, v2] w fun e w' => e = .returned (.bool true) ∧ Below w.heap.size w w' := by
  obtain ⟨ad1, cap1, rfl, H1⟩ := h1
  obtain ⟨ad2, cap2, rfl, H2⟩ := h2
  have HR1 := Hid.mk H1
  have HR2 := Hid.mk H2
  clear H1 H2
  go_enter Tryz.func135, Tryz.ntmps135
  go_wp2
  go_loopw [5] (fun j wr => ∃ k : Nat, k ≤ l.length ∧ j = .int .i64 k ∧ Below w.heap.size w wr) (fun j _ => l.length - (intOf j).toNat)
  case atStart => exact ⟨0, Nat.zero_le _, rfl, Below.refl _ _⟩
  case round =>
    obtain ⟨k, hk, rfl, hbw⟩ := hrel
    by_cases hl : k < l.length
    · obtain ⟨b1, off1, rfl, hb1, hrow1⟩ := HR1.out (by omega)
      obtain ⟨b2, off2, rfl, hb2, hrow2⟩ := HR2.out (by omega)
      have c0 := (hbw.cell (p := ⟨b1, off1 + k, none⟩) hb1).trans (hrow1 k hl)
      have d0 := (hbw.cell (p := ⟨b2, off2 + k, none⟩) hb2).trans (hrow2 k hl)
      clear hrow1 hrow2 HR1 HR2
      generalize ((l[k] : Nat) : Int) = x at *
      have q1 : (0 : Int) ≤ (k : Int) := by omega
      have q2 : (k : Int) < (l.length : Int) := by omega
      go_wp2
      go_quiet (fail)
      go_wp2
      exact ⟨⟨k + 1, by omega, by go_num, below_drewN hbw _⟩, by simp [intOf]; omega⟩
    · go_wp2
      go_ret
      exact ⟨rfl, hbw⟩

section
variable {w0 w : World} {B0 W x y R n B rm M : Nat} {bp rr : Bool} {f : Nat → Nat → Bool} {col : Col} {K : RefC}
set_option maxRecDepth 100000 in
set_option maxHeartbeats 1000000 in
theorem Fix.lRead (F : Fix w0 B0 W x y R n B rm bp rr f col K) (h : NSt w0 w B0 W B M) (hM : M ≤ 15000000) (r kind : Int) (key : ByteArray) (hk : key.size ≤ 1099511627776) :
    Calls Tryz.prog 85 #[.pointer (some ⟨W, 0, none⟩), .int .i64 r, .int .i64 kind, .string key] w fun e w' => e = .returned (.bool true) ∧ NSt w0 w' B0 W B (M + 4) := by
  have c0 := blk_cell (F.wbk h) 0
  simp at c0
  have HP := Hid.mk (F.pRead h r kind key hk)
  have HD := Hid.mk (fun W' h' => (F.dRead (w := W') (M := M) h' r kind key hk))
  have HF := Hid.mk F
  have HN := Hid.mk h
  clear F h
  generalize rer n r kind = E at *
  go_enter Tryz.func85, Tryz.ntmps85
  go_wp2_with fail
  refine HP.out.mono ?_
  rintro e w1 ⟨m, v1, es, rfl, ho1, hs1, hb1⟩
  have HN1 := Hid.mk (HN.out.below hb1)
  have c1 := blk_cell (HF.out.wbk HN1.out) 1
  simp at c1
  have hWl : W < w1.heap.size := blk_lt (HF.out.wbk HN1.out)
  obtain ⟨ad1, cp1, hf1⟩ := own_form ho1
  subst hf1
  have HO1 := Hid.mk ho1
  have HB1 := Hid.mk hb1
  have hel := rsp_len hs1.out
  clear hb1 ho1
  go_wp2_with fail
  refine (HD.out _ (HN1.out.below (below_alloc (Below.refl _ _) _))).mono ?_
  rintro e w2 ⟨m', v2, es', rfl, ho2, hs2, hb2⟩
  obtain ⟨rfl, rfl⟩ := rsp_unique hs1.out hs2.out
  have HN2 := Hid.mk ((HN1.out.below (below_alloc (Below.refl _ _) _)).below hb2)
  have hA2 := (hb2.block w1.heap.size (by simp)).trans (heap_alloc_new w1 _)
  have HA2 := Hid.mk hA2
  have a0 := blk_cell hA2 0
  have a1 := blk_cell hA2 1
  simp at a0 a1
  have hAl : w1.heap.size < w2.heap.size := blk_lt hA2
  obtain ⟨ad2, cp2, hf2⟩ := own_form ho2
  subst hf2
  have hb12 : Below w1.heap.size w1 w2 := ((Below.refl _ w1).alloc (Nat.le_refl _) _).trans (hb2.mono (by simp))
  have HO12 := Hid.mk (owns_below HO1.out hb12)
  have HSM : Hid (∀ W', Below w2.heap.size w2 W' → Calls Tryz.prog 94 #[.agg #[.int .i64 m, .slice ad1 es.length cp1], .agg #[.int .i64 m, .slice ad2 es.length cp2]] W' fun e w' => e = .returned (.bool true) ∧ Below W'.heap.size W' w') := fun W' hW' => sameValues_any m _ _ es W' (strsOf_owns (owns_below HO12.out hW')) (strsOf_owns (owns_below ho2 hW')) (by omega)
  have HBW := Hid.mk (HB1.out.trans (hb12.mono HB1.out.size))
  clear hb2 hA2 HD HP c0 c1 hWl ho2 hs1 hs2 hb12
  go_wp2_with fail
  refine (HSM.out _ (below_alloc (Below.refl _ _) _)).mono ?_
  rintro e w3 ⟨rfl, hb3⟩
  have hA3 : w3.heap[w1.heap.size]? = some (.cells #[.int .i64 m, .slice ad1 es.length cp1] 98 (0, 0)) := (hb3.block w1.heap.size (by simp; omega)).trans ((((Below.refl _ w2).alloc (Nat.le_refl _) _).block _ hAl).trans HA2.out)
  have HN3 := Hid.mk ((HN2.out.below (below_alloc (Below.refl _ _) _)).below hb3)
  have c2 := blk_cell (HF.out.wbk HN3.out) 2
  simp at c2
  have hb23 : Below w2.heap.size w2 w3 := ((Below.refl _ w2).alloc (Nat.le_refl _) _).trans (hb3.mono (by simp))
  have HC := Hid.mk (HF.out.ownT (w1 := w3.drew) HN.out hM ((HBW.out.trans (hb23.mono HBW.out.size)).drew) (v := .slice ad1 es.length cp1) (l := es.map Value.string) (owns_below (owns_below HO12.out hb23) (Below.refl _ _).drew) (by omega))
  have a1 := blk_cell hA3 1
  simp at a1
  clear hb3 hA3 HSM a0 hb23
  go_wp2_with fail
  refine wp_region_last 6 (S := fun w' => w'.cell? ⟨W, 2, none⟩ = some (.pointer (some ⟨B, 0, none⟩)) ∧ w'.cell? ⟨w1.heap.size, 1, none⟩ = some (.slice ad1 es.length cp1)) (by kernel_rfl) ⟨c2, a1⟩ (fun hHeld => ?_)
  refine wpAnyL_takeY (i := 0) (oi := _) (v := ?_) rfl (by kernel_rfl) (by kernel_rfl) (by kernel_rfl) (by kernel_rfl) (fun _ _ _ h => h) (Or.inl ⟨by rfl, ?_⟩) (by assumption) ?_
  rotate_left
  · intro w _
    go_simp <;> with_reducible rfl
  simp only [Act.put, List.setIfInBounds_toArray]
  refine wpAnyL_takeY (i := 1) (oi := _) (v := ?_) rfl (by kernel_rfl) (by kernel_rfl) (by kernel_rfl) (by kernel_rfl) (fun _ _ _ h => h) (Or.inl ⟨by rfl, ?_⟩) (by assumption) ?_
  rotate_left
  · intro w _
    go_simp <;> with_reducible rfl
  simp only [Act.put]
  refine wpAnyL_takeY (i := 2) (oi := _) (v := ?_) rfl (by kernel_rfl) (by kernel_rfl) (by kernel_rfl) (by kernel_rfl) (fun _ _ _ h => h) (Or.inl ⟨by rfl, ?_⟩) (by assumption) ?_
  rotate_left
  · intro w _
    go_simp <;> with_reducible rfl
  simp only [Act.put]
  refine wpAnyL_take (i := 3) (oi := _) (v := ?_) rfl (by kernel_rfl) (by kernel_rfl) (by kernel_rfl) (by kernel_rfl) (fun _ _ _ h => h) (Or.inl ⟨by rfl, ?_⟩) (by assumption) (by kernel_rfl) ?_
  rotate_left
  · intro w hSw
    try dsimp only at hSw
    go_simp <;> with_reducible rfl
  simp only [Act.put]
  refine wpAnyL_takeY (i := 4) (oi := _) (v := ?_) rfl (by kernel_rfl) (by kernel_rfl) (by kernel_rfl) (by kernel_rfl) (fun _ _ _ h => h) (Or.inl ⟨by rfl, ?_⟩) (by assumption) ?_
  rotate_left
  · intro w _
    go_simp <;> with_reducible rfl
  simp only [Act.put]
  refine wpAnyL_take (i := 5) (oi := _) (v := ?_) rfl (by kernel_rfl) (by kernel_rfl) (by kernel_rfl) (by kernel_rfl) (fun _ _ _ h => h) (Or.inl ⟨by rfl, ?_⟩) (by assumption) (by kernel_rfl) ?_
  rotate_left
  · intro w hSw
    try dsimp only at hSw
    go_simp <;> with_reducible rfl
  simp only [Act.put]
  refine wpAnyL_ready (rs := [6]) (by kernel_rfl) (by simp) ?_
  refine AllReadyL.cons (o := _) rfl (fun K hK => ?_) AllReadyL.nil
  go_simp
  refine HC.out.mono ?_
  rintro e w4 ⟨rfl, hn4⟩
  have HR := Hid.mk hn4
  clear HC hn4
  go_wp2_with fail
  refine hK.out _ _ (fun h => not_unl (by kernel_rfl) h) (fun _ => ?_)
  clear hK K
  refine wpAnyL_done (by kernel_rfl) ?_ _
  go_wp2
  go_ret
  exact ⟨rfl, HR.out⟩

set_option maxRecDepth 100000 in
set_option maxHeartbeats 1000000 in
theorem Fix.lReplica (F : Fix w0 B0 W x y R n B rm bp rr f col K) (h : NSt w0 w B0 W B M) (hM : M ≤ 15000000) (r : Int) :
    Calls Tryz.prog 88 #[.pointer (some ⟨W, 0, none⟩), .int .i64 r] w fun e w' => e = .returned (.bool true) ∧ NSt w0 w' B0 W B (M + 4) := by
  have c0 := blk_cell (F.wbk h) 0
  simp at c0
  have HP := Hid.mk (F.pReplica h r)
  have HD := Hid.mk (fun W' h' => (F.dReplica (w := W') (M := M) h' r))
  have hal : ((clu0 rm bp rr n f).repAt r).acked.length ≤ 6 := by
    rw [clu0_repAt]
    split
    · simp [rep0]; exact F.pf.n6
    · simp
  have HF := Hid.mk F
  have HN := Hid.mk h
  clear F h
  generalize er n r = E at *
  generalize ((clu0 rm bp rr n f).repAt r).acked = A at *
  generalize decide (0 ≤ r ∧ r < (n : Int)) = up at *
  go_enter Tryz.func88, Tryz.ntmps88
  go_wp2_with fail
  refine HP.out.mono ?_
  rintro e w1 ⟨v1, rfl, ho1, hb1⟩
  have HN1 := Hid.mk (HN.out.below hb1)
  have c1 := blk_cell (HF.out.wbk HN1.out) 1
  simp at c1
  have hWl : W < w1.heap.size := blk_lt (HF.out.wbk HN1.out)
  obtain ⟨ad1, cp1, hf1⟩ := own_form ho1
  subst hf1
  have HO1 := Hid.mk ho1
  have HB1 := Hid.mk hb1
  clear hb1 ho1
  go_wp2_with fail
  refine (HD.out _ (HN1.out.below (below_alloc (Below.refl _ _) _))).mono ?_
  rintro e w2 ⟨v2, rfl, ho2, hb2⟩
  have HN2 := Hid.mk ((HN1.out.below (below_alloc (Below.refl _ _) _)).below hb2)
  have hA2 := (hb2.block w1.heap.size (by simp)).trans (heap_alloc_new w1 _)
  have HA2 := Hid.mk hA2
  have a3 := blk_cell hA2 3
  simp at a3
  have hAl : w1.heap.size < w2.heap.size := blk_lt hA2
  obtain ⟨ad2, cp2, hf2⟩ := own_form ho2
  subst hf2
  have hb12 : Below w1.heap.size w1 w2 := ((Below.refl _ w1).alloc (Nat.le_refl _) _).trans (hb2.mono (by simp))
  have HO12 := Hid.mk (owns_below HO1.out hb12)
  have HSM : Hid (∀ W', Below w2.heap.size w2 W' → Calls Tryz.prog 135 #[.slice ad1 A.length cp1, .slice ad2 A.length cp2] W' fun e w' => e = .returned (.bool true) ∧ Below W'.heap.size W' w') := fun W' hW' => sameInts_any _ _ A W' (intsOf_owns (owns_below HO12.out hW')) (intsOf_owns (owns_below ho2 hW')) (by omega)
  have HBW := Hid.mk (HB1.out.trans (hb12.mono HB1.out.size))
  clear hb2 hA2 HD HP c0 c1 hWl ho2 hb12
  go_wp2_with fail
  refine (HSM.out _ (below_alloc (Below.refl _ _) _)).mono ?_
  rintro e w3 ⟨rfl, hb3⟩
  have hA3 : w3.heap[w1.heap.size]? = some (.cells #[.bool up, .int .i64 0, .int .i64 0, .slice ad1 A.length cp1, .int .i64 0, .int .i64 0] 197 (0, 0)) := (hb3.block w1.heap.size (by simp; omega)).trans ((((Below.refl _ w2).alloc (Nat.le_refl _) _).block _ hAl).trans HA2.out)
  have hB3 : w3.heap[w2.heap.size]? = some (.cells #[.bool up, .int .i64 0, .int .i64 0, .slice ad2 A.length cp2, .int .i64 0, .int .i64 0] 197 (0, 0)) := (hb3.block w2.heap.size (by simp)).trans (heap_alloc_new w2 _)
  have HN3 := Hid.mk ((HN2.out.below (below_alloc (Below.refl _ _) _)).below hb3)
  have c2 := blk_cell (HF.out.wbk HN3.out) 2
  simp at c2
  have hb23 : Below w2.heap.size w2 w3 := ((Below.refl _ w2).alloc (Nat.le_refl _) _).trans (hb3.mono (by simp))
  have HC := Hid.mk (HF.out.ownI (w1 := w3.drew) HN.out hM ((HBW.out.trans (hb23.mono HBW.out.size)).drew) (v := .slice ad1 A.length cp1) (l := ints A) (owns_below (owns_below HO12.out hb23) (Below.refl _ _).drew) (by omega))
  have a0 := blk_cell hA3 0
  have a1 := blk_cell hA3 1
  have a2 := blk_cell hA3 2
  have a3 := blk_cell hA3 3
  have a4 := blk_cell hA3 4
  have a5 := blk_cell hA3 5
  have b0 := blk_cell hB3 0
  have b1 := blk_cell hB3 1
  have b2 := blk_cell hB3 2
  have b4 := blk_cell hB3 4
  have b5 := blk_cell hB3 5
  simp at a0 a1 a2 a3 a4 a5 b0 b1 b2 b4 b5
  clear hb3 hA3 hB3 HSM hb23
  go_wp2_with fail
  refine wp_region_last 6 (S := fun w' => w'.cell? ⟨W, 2, none⟩ = some (.pointer (some ⟨B, 0, none⟩)) ∧ w'.cell? ⟨w1.heap.size, 3, none⟩ = some (.slice ad1 A.length cp1)) (by kernel_rfl) ⟨c2, a3⟩ (fun hHeld => ?_)
  refine wpAnyL_takeY (i := 0) (oi := _) (v := ?_) rfl (by kernel_rfl) (by kernel_rfl) (by kernel_rfl) (by kernel_rfl) (fun _ _ _ h => h) (Or.inl ⟨by rfl, ?_⟩) (by assumption) ?_
  rotate_left
  · intro w _
    go_simp <;> with_reducible rfl
  simp only [Act.put, List.setIfInBounds_toArray]
  refine wpAnyL_takeY (i := 1) (oi := _) (v := ?_) rfl (by kernel_rfl) (by kernel_rfl) (by kernel_rfl) (by kernel_rfl) (fun _ _ _ h => h) (Or.inl ⟨by rfl, ?_⟩) (by assumption) ?_
  rotate_left
  · intro w _
    go_simp <;> with_reducible rfl
  simp only [Act.put]
  refine wpAnyL_takeY (i := 2) (oi := _) (v := ?_) rfl (by kernel_rfl) (by kernel_rfl) (by kernel_rfl) (by kernel_rfl) (fun _ _ _ h => h) (Or.inl ⟨by rfl, ?_⟩) (by assumption) ?_
  rotate_left
  · intro w _
    go_simp <;> with_reducible rfl
  simp only [Act.put]
  refine wpAnyL_take (i := 3) (oi := _) (v := ?_) rfl (by kernel_rfl) (by kernel_rfl) (by kernel_rfl) (by kernel_rfl) (fun _ _ _ h => h) (Or.inl ⟨by rfl, ?_⟩) (by assumption) (by kernel_rfl) ?_
  rotate_left
  · intro w hSw
    try dsimp only at hSw
    go_simp <;> with_reducible rfl
  simp only [Act.put]
  refine wpAnyL_takeY (i := 4) (oi := _) (v := ?_) rfl (by kernel_rfl) (by kernel_rfl) (by kernel_rfl) (by kernel_rfl) (fun _ _ _ h => h) (Or.inl ⟨by rfl, ?_⟩) (by assumption) ?_
  rotate_left
  · intro w _
    go_simp <;> with_reducible rfl
  simp only [Act.put]
  refine wpAnyL_take (i := 5) (oi := _) (v := ?_) rfl (by kernel_rfl) (by kernel_rfl) (by kernel_rfl) (by kernel_rfl) (fun _ _ _ h => h) (Or.inl ⟨by rfl, ?_⟩) (by assumption) (by kernel_rfl) ?_
  rotate_left
  · intro w hSw
    try dsimp only at hSw
    go_simp <;> with_reducible rfl
  simp only [Act.put]
  refine wpAnyL_ready (rs := [6]) (by kernel_rfl) (by simp) ?_
  refine AllReadyL.cons (o := _) rfl (fun K hK => ?_) AllReadyL.nil
  go_simp
  refine HC.out.mono ?_
  rintro e w4 ⟨rfl, hn4⟩
  have HR := Hid.mk hn4
  clear HC hn4
  go_wp2_with fail
  refine hK.out _ _ (fun h => not_unl (by kernel_rfl) h) (fun _ => ?_)
  clear hK K
  refine wpAnyL_done (by kernel_rfl) ?_ _
  go_wp2
  go_ret
  exact ⟨rfl, HR.out⟩
end
end Go.Proofs.YtahdlejgjcjeoaaGreatDoor

namespace Go.Proofs.YtahdlejgjcjeoaaGreatDoor
open Go.RowKit

section
variable {w0 w : World} {B0 W x y R n B rm M : Nat} {bp rr : Bool} {f : Nat → Nat → Bool} {col : Col} {K : RefC}
set_option maxRecDepth 100000 in
set_option maxHeartbeats 1000000 in
theorem Fix.lWhole (F : Fix w0 B0 W x y R n B rm bp rr f col K) (h : NSt w0 w B0 W B M) (hM : M ≤ 10000000) (r : Int) :
    Calls Tryz.prog 42 #[.pointer (some ⟨W, 0, none⟩), .int .i64 r] w fun e w' => e = .returned (.bool true) ∧ NSt w0 w' B0 W B (M + 40) := by
  have HF := Hid.mk F
  have HN := Hid.mk h
  clear F h
  go_enter Tryz.func42, Tryz.ntmps42
  go_wp2_with fail
  refine (HF.out.lState HN.out (by omega) r).mono ?_
  rintro e w1 ⟨rfl, h1⟩
  have HN1 := Hid.mk h1
  clear h1
  go_wp2_with fail
  refine (HF.out.lBuffer HN1.out (by omega) r).mono ?_
  rintro e w2 ⟨rfl, h2⟩
  have HN2 := Hid.mk h2
  clear h2
  go_wp2_with fail
  refine (HF.out.lLog HN2.out r).mono ?_
  rintro e w3 ⟨rfl, h3⟩
  have HN3 := Hid.mk h3
  clear h3
  go_wp2_with fail
  refine (HF.out.lReplica HN3.out (by omega) r).mono ?_
  rintro e w4 ⟨rfl, h4⟩
  have HN4 := Hid.mk h4
  clear h4 HN HN1 HN2 HN3
  go_wp2
  go_loopw [9] (fun s wr => ∃ k : Nat, k ≤ 7 ∧ s = .int .i64 k ∧ Hid (NSt w0 wr B0 W B (M + 12 + 4 * k))) (fun s _ => 7 - (intOf s).toNat)
  case atStart => exact ⟨0, by omega, rfl, HN4⟩
  case round =>
    clear HN4
    obtain ⟨k, hk, rfl, hn⟩ := hrel
    by_cases hl : k < 7
    · have q1 : (k : Int) ≤ 6 := by omega
      go_wp2_with fail
      refine (HF.out.lRead hn.out (by omega) r k _ (by decide)).mono ?_
      rintro e w5 ⟨rfl, h5⟩
      have HN5 := Hid.mk h5
      clear h5 hn
      go_wp2
      exact ⟨⟨k + 1, by omega, by go_num, HN5.out.mono (by omega)⟩, by simp [intOf]; omega⟩
    · have q1 : ¬ (k : Int) ≤ 6 := by omega
      go_wp2
      go_ret
      exact ⟨rfl, hn.out.mono (by omega)⟩

theorem Fix.pStart (F : Fix w0 B0 W x y R n B rm bp rr f col K) (h : NSt w0 w B0 W B M) (i : Nat) (hi : i < n) :
    Calls Tryz.prog 19 #[.pointer (some ⟨x, 0, none⟩), .int .i64 i] w fun e w' => e = .returned (.int .i64 9) ∧ NSt w0 w' B0 W B M := by
  have hp := F.pfA h
  obtain ⟨m, -, -, c0, -⟩ := hp.cell hi
  refine (prgStart_up x R n n i w hp.cl hi c0).mono ?_
  rintro e w' ⟨rfl, hb⟩
  exact ⟨rfl, h.below hb⟩
theorem Fix.dStart (F : Fix w0 B0 W x y R n B rm bp rr f col K) (h : NSt w0 w B0 W B M) (i : Nat) (hi : i < n) :
    Calls Tryz.prog 31 #[.pointer (some ⟨y, 0, none⟩), .int .i64 i] w fun e w' => e = .returned (.int .i64 9) ∧ NSt w0 w' B0 W B M := by
  have hs : (clu0 rm bp rr n f).startErr (i : Int) = 9 := by rw [clu0_start, if_pos (by omega)]
  refine (refStartUp (F.refA h) i (by rw [hs]; decide)).mono ?_
  rintro e w' ⟨rfl, rfl⟩
  exact ⟨by rw [hs], h⟩
theorem Fix.yR (F : Fix w0 B0 W x y R n B rm bp rr f col K) (h : NSt w0 w B0 W B M) : ∃ ad cp, w.cell? ⟨y, 5, none⟩ = some (.slice ad n cp) := by
  have hr := F.refA h
  obtain ⟨ad, cp, hv⟩ := own_form hr.rows.own
  rw [hr.len, clu0_len] at hv
  exact ⟨ad, cp, (blk_cell hr.blk 5).trans (by rw [hv]; rfl)⟩

set_option maxRecDepth 100000 in
set_option maxHeartbeats 2000000 in
theorem Fix.lLast (F : Fix w0 B0 W x y R n B rm bp rr f col K) (h : NSt w0 w B0 W B M) (hM : M ≤ 1000000) :
    Calls Tryz.prog 15 #[.pointer (some ⟨W, 0, none⟩)] w fun e w' => e = .returned (.bool true) ∧ NSt w0 w' B0 W B (M + 1000) := by
  have c1 := blk_cell (F.wbk h) 1
  simp at c1
  have h6 := F.pf.n6
  have HD := Hid.mk (refFlight (F.refA h))
  have HF := Hid.mk F
  have HN := Hid.mk h
  clear F h
  go_enter Tryz.func15, Tryz.ntmps15
  go_wp2_with fail
  refine HD.out.mono ?_
  rintro e w1 ⟨rfl, rfl⟩
  have hz : (((clu0 rm bp rr n f).net.length : Nat) : Int) = 0 := rfl
  rw [hz]
  clear HD c1
  go_wp2
  go_loopw [4] (fun s wr => ∃ k : Nat, k ≤ 2 ∧ s = .int .i64 ((k : Int) - 1) ∧ Hid (NSt w0 wr B0 W B (M + 4 * k))) (fun s _ => 2 - ((intOf s) + 1).toNat)
  case atStart => exact ⟨0, by omega, rfl, HN⟩
  case round =>
    clear HN
    obtain ⟨k, hk, rfl, hn⟩ := hrel
    by_cases hl : k < 2
    · have q1 : (k : Int) - 1 ≤ 0 := by omega
      go_wp2_with fail
      refine (HF.out.lFrame hn.out (by omega) ((k : Int) - 1)).mono ?_
      rintro e w5 ⟨rfl, h5⟩
      have HN5 := Hid.mk h5
      clear h5 hn
      go_wp2
      exact ⟨⟨k + 1, by omega, by go_num, HN5.out.mono (by omega)⟩, by simp [intOf]; omega⟩
    · have q1 : ¬ (k : Int) - 1 ≤ 0 := by omega
      go_wp2
      go_loopw [6] (fun s wr => ∃ k : Nat, k ≤ 8 ∧ s = .int .i64 ((k : Int) - 1) ∧ Hid (NSt w0 wr B0 W B (M + 8 + 40 * k))) (fun s _ => 8 - ((intOf s) + 1).toNat)
      case atStart => exact ⟨0, by omega, rfl, hn.out.mono (by omega)⟩
      case round =>
        clear hn q1 hl hk
        obtain ⟨k, hk, rfl, hn⟩ := hrel
        by_cases hl : k < 8
        · have q1 : (k : Int) - 1 ≤ 6 := by omega
          go_wp2_with fail
          refine (HF.out.lWhole hn.out (by omega) ((k : Int) - 1)).mono ?_
          rintro e w5 ⟨rfl, h5⟩
          have HN5 := Hid.mk h5
          clear h5 hn
          go_wp2
          exact ⟨⟨k + 1, by omega, by go_num, HN5.out.mono (by omega)⟩, by simp [intOf]; omega⟩
        · have q1 : ¬ (k : Int) - 1 ≤ 6 := by omega
          go_wp2
          go_loopw [8] (fun s wr => ∃ k : Nat, k ≤ n ∧ s = .int .i64 k ∧ Hid (NSt w0 wr B0 W B (M + 328 + 40 * k))) (fun s _ => n - (intOf s).toNat)
          case atStart => exact ⟨0, by omega, rfl, hn.out.mono (by omega)⟩
          case round =>
            clear hn q1 hl hk
            obtain ⟨k, hk, rfl, hn⟩ := hrel
            have c1 := blk_cell (HF.out.wbk hn.out) 1
            have c0 := blk_cell (HF.out.wbk hn.out) 0
            simp at c0 c1
            obtain ⟨ady, cpy, cy⟩ := HF.out.yR hn.out
            by_cases hl : k < n
            · have q1 : (k : Int) < (n : Int) := by omega
              go_wp2_with fail
              refine (HF.out.pStart hn.out k hl).mono ?_
              rintro e w5 ⟨rfl, h5⟩
              have HN5 := Hid.mk h5
              have c1 := blk_cell (HF.out.wbk h5) 1
              simp at c1
              clear h5 hn cy c0
              go_wp2_with fail
              refine (HF.out.dStart HN5.out k hl).mono ?_
              rintro e w6 ⟨rfl, h6'⟩
              have HN6 := Hid.mk h6'
              clear h6' HN5
              go_wp2_with fail
              refine (HF.out.lWhole HN6.out (by omega) k).mono ?_
              rintro e w7 ⟨rfl, h7⟩
              have HN7 := Hid.mk h7
              clear h7 HN6
              go_wp2
              exact ⟨⟨k + 1, by omega, by go_num, HN7.out.mono (by omega)⟩, by simp [intOf]; omega⟩
            · have q1 : ¬ (k : Int) < (n : Int) := by omega
              go_wp2_with fail
              refine (HF.out.lFlight hn.out).mono ?_
              rintro e w5 ⟨rfl, h5⟩
              have HN5 := Hid.mk h5
              have c2 := blk_cell (HF.out.wbk h5) 2
              simp at c2
              clear h5 hn cy c0
              go_wp2_with fail
              refine (HN5.out.looks (by omega)).mono ?_
              rintro e w6 ⟨rfl, hb6⟩
              have HN6 := Hid.mk (HN5.out.below hb6)
              clear hb6
              go_wp2
              go_ret
              exact ⟨rfl, HN6.out.mono (by omega)⟩
end
end Go.Proofs.YtahdlejgjcjeoaaGreatDoor
