/- Walk of the laws' looks: lists of all four kinds came out. -/
import Derived.Test.YtahdlejgjcjeoaaGreatDoorP41
namespace Go.Proofs.YtahdlejgjcjeoaaGreatDoor
open Go.RowKit
set_option maxRecDepth 100000 in
set_option maxHeartbeats 8000000 in
theorem looks4_any (B : Nat) (va : Nat → Value) (es : Nat → List (Value × Int)) (w : World) (hI : Bk w B va es) (hes : ∀ f, f < 4 → (es f).length ≤ 16000000) :
    Calls Tryz.prog 14 #[.pointer (some ⟨B, 0, none⟩)] w fun e w' => e = .returned (.bool true) ∧ Below w.heap.size w w' := by
  obtain ⟨ad0, cap0, e0⟩ := own_form (hI.row 0 (by decide))
  obtain ⟨ad1, cap1, e1⟩ := own_form (hI.row 1 (by decide))
  obtain ⟨ad2, cap2, e2⟩ := own_form (hI.row 2 (by decide))
  obtain ⟨ad3, cap3, e3⟩ := own_form (hI.row 3 (by decide))
  have HI : Hid (Bk w B va es) := hI
  have HV0 : Hid (va 0 = .slice ad0 (es 0).length cap0) := e0
  have HV1 : Hid (va 1 = .slice ad1 (es 1).length cap1) := e1
  have HV2 : Hid (va 2 = .slice ad2 (es 2).length cap2) := e2
  have HV3 : Hid (va 3 = .slice ad3 (es 3).length cap3) := e3
  have l0 := hes 0 (by decide)
  have l1 := hes 1 (by decide)
  have l2 := hes 2 (by decide)
  have l3 := hes 3 (by decide)
  clear hI e0 e1 e2 e3 hes
  go_enter Tryz.func14, Tryz.ntmps14
  go_wp2
  go_loopw [3] (fun s wr => ∃ j : Nat, j ≤ (es 0).length ∧ s = .int .i64 j ∧ Below w.heap.size w wr) (fun i _ => (es 0).length - (intOf i).toNat)
  case atStart => exact ⟨0, Nat.zero_le _, rfl, Below.refl _ _⟩
  case round =>
    obtain ⟨j, hj, rfl, hbw⟩ := hrel
    have hI := HI.out.below hbw
    have hc := hI.c 0 (by decide)
    rw [HV0.out] at hc
    by_cases hl : j < (es 0).length
    · obtain ⟨gA, capA', hvA, hgA, e0, e1⟩ := entryB hI (f := 0) (by decide) j hl
      obtain ⟨m, hmb, hgood⟩ := hI.good 0 (by decide) _ (List.getElem_mem hl)
      have hbnd := hI.bnd 0 (by decide) _ (List.getElem_mem hl)
      rw [HV0.out] at hvA
      cases hvA
      generalize (es 0)[j] = p at *
      obtain ⟨s, k⟩ := p
      obtain ⟨ad, cap, hs, hcap, H⟩ := hgood
      simp only at hs e0 e1 hbnd H hcap
      subst hs
      have hsz := hbw.size
      obtain ⟨wi, rfl⟩ : ∃ wi : World, wi = wr := ⟨_, rfl⟩
      have q0 : (j : Int) < ((es 0).length : Int) := by omega
      clear hI
      have HR : Hid (0 < m → ∃ b off, ad = some ⟨b, off, none⟩ ∧ b < wi.heap.size ∧ ∀ i, i < m → cellsAt wi b (off + i * 6) (mark k)) := fun h => by
        obtain ⟨b, off, h1, h2, h3⟩ := H h
        exact ⟨b, off, h1, h2, fun i hi => ⟨h3 i hi 0 _ rfl, h3 i hi 1 _ rfl, h3 i hi 2 _ rfl, h3 i hi 3 _ rfl, h3 i hi 4 _ rfl, h3 i hi 5 _ rfl⟩⟩
      clear H
      go_wp2
      obtain ⟨box, hbox⟩ : ∃ box : Obj, box = .cells #[.slice ad m cap, .int .i64 k] 75 := ⟨_, rfl⟩
      have HBX : Hid (box = .cells #[.slice ad m cap, .int .i64 k] 75) := hbox
      rw [← hbox]
      clear hbox e0 e1 hc
      go_loopw [5] (fun s5 wr => ∃ t : Nat, t ≤ m ∧ s5 = .int .i64 t ∧ Below (wi.alloc box).heap.size (wi.alloc box) wr) (fun s5 _ => m - (intOf s5).toNat)
      case atStart => exact ⟨0, Nat.zero_le _, rfl, Below.refl _ _⟩
      case round =>
        obtain ⟨t, ht, rfl, hbi⟩ := hrel
        have b0 : wr.cell? ⟨wi.heap.size, 0, none⟩ = some (.slice ad m cap) := by
          rw [hbi.cell (p := ⟨wi.heap.size, 0, none⟩) (by simp)]
          exact World.news_of_block (heap_alloc_new wi box |>.trans (by rw [HBX.out])) 0 _ rfl
        have b1 : wr.cell? ⟨wi.heap.size, 1, none⟩ = some (.int .i64 k) := by
          rw [hbi.cell (p := ⟨wi.heap.size, 1, none⟩) (by simp)]
          exact World.news_of_block (heap_alloc_new wi box |>.trans (by rw [HBX.out])) 1 _ rfl
        have hbwi : Below w.heap.size w wr := (below_alloc hbw box).trans (hbi.mono (by simp; omega))
        by_cases htm : t < m
        · obtain ⟨b, off, rfl, hb, hrow⟩ := HR.out (by omega)
          have hal : Below wi.heap.size wi wr := ((Below.refl _ wi).alloc (Nat.le_refl _) box).trans (hbi.mono (by simp))
          obtain ⟨c0, c1, c2, c3, c4, c5⟩ := cellsAt_below hal hb (hrow t htm)
          clear hal
          clear hrow HR
          have hbr : b < wr.heap.size := by have := hbi.size; simp at this; omega
          have hbo : wi.heap.size < wr.heap.size := by have := hbi.size; simp at this; omega
          have hszi := hbi.size
          have q1 : (0 : Int) ≤ (t : Int) := by omega
          have q2 : (t : Int) < (m : Int) := by omega
          have hat := fun W => atomOf_any k W hbnd.1 hbnd.2
          generalize mark k = x at *
          have HAT : Hid (∀ W : World, Calls Tryz.prog 38 #[.int .i64 k] W fun e w' => e = .returned (.agg #[.int .i64 x.ty, .string x.key, .int .i64 x.side, .int .i64 x.who, .string x.elem, .int .i64 x.n]) ∧ Below W.heap.size W w') := hat
          clear hat
          go_wp2
          go_region_held3 (fun w' => w'.cell? ⟨wi.heap.size, 0, none⟩ = some (.slice (some ⟨b, off, none⟩) m cap) ∧ w'.cell? ⟨wi.heap.size, 1, none⟩ = some (.int .i64 k) ∧ w'.cell? ⟨b, off + t * 6, none⟩ = some (.int .i64 x.ty) ∧ w'.cell? ⟨b, off + t * 6 + 1, none⟩ = some (.string x.key) ∧ w'.cell? ⟨b, off + t * 6 + 2, none⟩ = some (.int .i64 x.side) ∧ w'.cell? ⟨b, off + t * 6 + 3, none⟩ = some (.int .i64 x.who) ∧ w'.cell? ⟨b, off + t * 6 + 4, none⟩ = some (.string x.elem) ∧ w'.cell? ⟨b, off + t * 6 + 5, none⟩ = some (.int .i64 x.n)) (first | go_keep | (go_split_ands; refine ⟨?_, ?_, ?_, ?_, ?_, ?_, ?_, ?_⟩ <;> (first | (rw [hb1.cell (p := ⟨b, _, none⟩) (by simpa using hbr)]; assumption) | (rw [hb1.cell (p := ⟨wi.heap.size, _, none⟩) (by simpa using hbo)]; assumption)))) (first | (go_at_call 38; refine (HAT.out _).mono ?_; rintro e w1 ⟨rfl, hb1⟩))
          go_wp2
          exact ⟨⟨t + 1, by omega, by go_num, hbi.drew.trans (hb1.mono hszi)⟩, by simp [intOf]; omega⟩
        · have q2 : ¬ (t : Int) < (m : Int) := by omega
          clear HR
          go_wp2
          exact ⟨⟨j + 1, by omega, by go_num, hbwi⟩, by simp [intOf]; omega⟩
    · have q0 : ¬ (j : Int) < ((es 0).length : Int) := by omega
      have hk := hI.c 1 (by decide)
      rw [HV1.out] at hk
      clear hI
      go_wp2
      clear hk hc
      go_loopw [6] (fun s wr => ∃ j : Nat, j ≤ (es 1).length ∧ s = .int .i64 j ∧ Below w.heap.size w wr) (fun i _ => (es 1).length - (intOf i).toNat)
      case atStart => exact ⟨0, Nat.zero_le _, rfl, hbw⟩
      case round =>
        obtain ⟨j, hj, rfl, hbw⟩ := hrel
        have hI := HI.out.below hbw
        have hc := hI.c 1 (by decide)
        rw [HV1.out] at hc
        by_cases hl : j < (es 1).length
        · obtain ⟨gA, capA', hvA, hgA, e0, e1⟩ := entryB hI (f := 1) (by decide) j hl
          obtain ⟨m, hmb, hgood⟩ := hI.good 1 (by decide) _ (List.getElem_mem hl)
          have hbnd := hI.bnd 1 (by decide) _ (List.getElem_mem hl)
          rw [HV1.out] at hvA
          cases hvA
          generalize (es 1)[j] = p at *
          obtain ⟨s, k⟩ := p
          obtain ⟨ad, cap, hs, hcap, H⟩ := hgood
          simp only at hs e0 e1 hbnd H hcap
          subst hs
          have hsz := hbw.size
          obtain ⟨wi, rfl⟩ : ∃ wi : World, wi = wr := ⟨_, rfl⟩
          have q0 : (j : Int) < ((es 1).length : Int) := by omega
          clear hI
          have HR : Hid (0 < m → ∃ b off, ad = some ⟨b, off, none⟩ ∧ b < wi.heap.size ∧ ∀ i, i < m → wi.cell? ⟨b, off + i, none⟩ = some (.int .i64 (-1 - k))) := fun h => by
            obtain ⟨b, off, h1, h2, h3⟩ := H h
            exact ⟨b, off, h1, h2, fun i hi => by have := h3 i hi 0 _ rfl; simpa [szC] using this⟩
          clear H
          go_wp2
          obtain ⟨box, hbox⟩ : ∃ box : Obj, box = .cells #[.slice ad m cap, .int .i64 k] 81 := ⟨_, rfl⟩
          have HBX : Hid (box = .cells #[.slice ad m cap, .int .i64 k] 81) := hbox
          rw [← hbox]
          clear hbox e0 e1 hc
          go_loopw [8] (fun s5 wr => ∃ t : Nat, t ≤ m ∧ s5 = .int .i64 t ∧ Below (wi.alloc box).heap.size (wi.alloc box) wr) (fun s5 _ => m - (intOf s5).toNat)
          case atStart => exact ⟨0, Nat.zero_le _, rfl, Below.refl _ _⟩
          case round =>
            obtain ⟨t, ht, rfl, hbi⟩ := hrel
            have b0 : wr.cell? ⟨wi.heap.size, 0, none⟩ = some (.slice ad m cap) := by
              rw [hbi.cell (p := ⟨wi.heap.size, 0, none⟩) (by simp)]
              exact World.news_of_block (heap_alloc_new wi box |>.trans (by rw [HBX.out])) 0 _ rfl
            have b1 : wr.cell? ⟨wi.heap.size, 1, none⟩ = some (.int .i64 k) := by
              rw [hbi.cell (p := ⟨wi.heap.size, 1, none⟩) (by simp)]
              exact World.news_of_block (heap_alloc_new wi box |>.trans (by rw [HBX.out])) 1 _ rfl
            have hbwi : Below w.heap.size w wr := (below_alloc hbw box).trans (hbi.mono (by simp; omega))
            by_cases htm : t < m
            · obtain ⟨b, off, rfl, hb, hrow⟩ := HR.out (by omega)
              have hal : Below wi.heap.size wi wr := ((Below.refl _ wi).alloc (Nat.le_refl _) box).trans (hbi.mono (by simp))
              have c0 := (hal.cell (p := ⟨b, off + t, none⟩) hb).trans (hrow t htm)
              clear hal
              clear hrow HR
              have hbr : b < wr.heap.size := by have := hbi.size; simp at this; omega
              have hbo : wi.heap.size < wr.heap.size := by have := hbi.size; simp at this; omega
              have hszi := hbi.size
              have q1 : (0 : Int) ≤ (t : Int) := by omega
              have q2 : (t : Int) < (m : Int) := by omega
              go_wp2
              go_quiet (fail)
              go_wp2
              exact ⟨⟨t + 1, by omega, by go_num, below_drewN hbi _⟩, by simp [intOf]; omega⟩
            · have q2 : ¬ (t : Int) < (m : Int) := by omega
              clear HR
              go_wp2
              exact ⟨⟨j + 1, by omega, by go_num, hbwi⟩, by simp [intOf]; omega⟩
        · have q0 : ¬ (j : Int) < ((es 1).length : Int) := by omega
          have hk := hI.c 3 (by decide)
          rw [HV3.out] at hk
          clear hI
          go_wp2
          clear hk hc
          go_loopw [9] (fun s wr => ∃ j : Nat, j ≤ (es 3).length ∧ s = .int .i64 j ∧ Below w.heap.size w wr) (fun i _ => (es 3).length - (intOf i).toNat)
          case atStart => exact ⟨0, Nat.zero_le _, rfl, hbw⟩
          case round =>
            obtain ⟨j, hj, rfl, hbw⟩ := hrel
            have hI := HI.out.below hbw
            have hc := hI.c 3 (by decide)
            rw [HV3.out] at hc
            by_cases hl : j < (es 3).length
            · obtain ⟨gA, capA', hvA, hgA, e0, e1⟩ := entryB hI (f := 3) (by decide) j hl
              obtain ⟨m, hmb, hgood⟩ := hI.good 3 (by decide) _ (List.getElem_mem hl)
              have hbnd := hI.bnd 3 (by decide) _ (List.getElem_mem hl)
              rw [HV3.out] at hvA
              cases hvA
              generalize (es 3)[j] = p at *
              obtain ⟨s, k⟩ := p
              obtain ⟨ad, cap, hs, hcap, H⟩ := hgood
              simp only at hs e0 e1 hbnd H hcap
              subst hs
              have hsz := hbw.size
              obtain ⟨wi, rfl⟩ : ∃ wi : World, wi = wr := ⟨_, rfl⟩
              have q0 : (j : Int) < ((es 3).length : Int) := by omega
              clear hI
              have HR : Hid (0 < m → ∃ b off, ad = some ⟨b, off, none⟩ ∧ b < wi.heap.size ∧ ∀ i, i < m → wi.cell? ⟨b, off + i * 3, none⟩ = some (.int .i64 (-1 - k)) ∧ wi.cell? ⟨b, off + i * 3 + 1, none⟩ = some (.int .i64 0) ∧ wi.cell? ⟨b, off + i * 3 + 2, none⟩ = some (.slice none 0 0)) := fun h => by
                obtain ⟨b, off, h1, h2, h3⟩ := H h
                exact ⟨b, off, h1, h2, fun i hi => ⟨h3 i hi 0 _ rfl, h3 i hi 1 _ rfl, h3 i hi 2 _ rfl⟩⟩
              clear H
              go_wp2
              obtain ⟨box, hbox⟩ : ∃ box : Obj, box = .cells #[.slice ad m cap, .int .i64 k] 84 := ⟨_, rfl⟩
              have HBX : Hid (box = .cells #[.slice ad m cap, .int .i64 k] 84) := hbox
              rw [← hbox]
              clear hbox e0 e1 hc
              go_loopw [11] (fun s5 wr => ∃ t : Nat, t ≤ m ∧ s5 = .int .i64 t ∧ Below (wi.alloc box).heap.size (wi.alloc box) wr) (fun s5 _ => m - (intOf s5).toNat)
              case atStart => exact ⟨0, Nat.zero_le _, rfl, Below.refl _ _⟩
              case round =>
                obtain ⟨t, ht, rfl, hbi⟩ := hrel
                have b0 : wr.cell? ⟨wi.heap.size, 0, none⟩ = some (.slice ad m cap) := by
                  rw [hbi.cell (p := ⟨wi.heap.size, 0, none⟩) (by simp)]
                  exact World.news_of_block (heap_alloc_new wi box |>.trans (by rw [HBX.out])) 0 _ rfl
                have b1 : wr.cell? ⟨wi.heap.size, 1, none⟩ = some (.int .i64 k) := by
                  rw [hbi.cell (p := ⟨wi.heap.size, 1, none⟩) (by simp)]
                  exact World.news_of_block (heap_alloc_new wi box |>.trans (by rw [HBX.out])) 1 _ rfl
                have hbwi : Below w.heap.size w wr := (below_alloc hbw box).trans (hbi.mono (by simp; omega))
                by_cases htm : t < m
                · obtain ⟨b, off, rfl, hb, hrow⟩ := HR.out (by omega)
                  have hal : Below wi.heap.size wi wr := ((Below.refl _ wi).alloc (Nat.le_refl _) box).trans (hbi.mono (by simp))
                  obtain ⟨r0, r1, r2⟩ := hrow t htm
                  have c0 := (hal.cell (p := ⟨b, off + t * 3, none⟩) hb).trans r0
                  have c1 := (hal.cell (p := ⟨b, off + t * 3 + 1, none⟩) hb).trans r1
                  have c2 := (hal.cell (p := ⟨b, off + t * 3 + 2, none⟩) hb).trans r2
                  clear hal r0 r1 r2
                  clear hrow HR
                  have hbr : b < wr.heap.size := by have := hbi.size; simp at this; omega
                  have hbo : wi.heap.size < wr.heap.size := by have := hbi.size; simp at this; omega
                  have hszi := hbi.size
                  have q1 : (0 : Int) ≤ (t : Int) := by omega
                  have q2 : (t : Int) < (m : Int) := by omega
                  go_wp2
                  go_quiet (fail)
                  go_wp2
                  exact ⟨⟨t + 1, by omega, by go_num, below_drewN hbi _⟩, by simp [intOf]; omega⟩
                · have q2 : ¬ (t : Int) < (m : Int) := by omega
                  clear HR
                  go_wp2
                  exact ⟨⟨j + 1, by omega, by go_num, hbwi⟩, by simp [intOf]; omega⟩
            · have q0 : ¬ (j : Int) < ((es 3).length : Int) := by omega
              have hk := hI.c 2 (by decide)
              rw [HV2.out] at hk
              clear hI
              go_wp2
              clear hk hc
              go_loopw [12] (fun s wr => ∃ j : Nat, j ≤ (es 2).length ∧ s = .int .i64 j ∧ Below w.heap.size w wr) (fun i _ => (es 2).length - (intOf i).toNat)
              case atStart => exact ⟨0, Nat.zero_le _, rfl, hbw⟩
              case round =>
                obtain ⟨j, hj, rfl, hbw⟩ := hrel
                have hI := HI.out.below hbw
                have hc := hI.c 2 (by decide)
                rw [HV2.out] at hc
                by_cases hl : j < (es 2).length
                · obtain ⟨gA, capA', hvA, hgA, e0, e1⟩ := entryB hI (f := 2) (by decide) j hl
                  obtain ⟨m, hmb, hgood⟩ := hI.good 2 (by decide) _ (List.getElem_mem hl)
                  have hbnd := hI.bnd 2 (by decide) _ (List.getElem_mem hl)
                  rw [HV2.out] at hvA
                  cases hvA
                  generalize (es 2)[j] = p at *
                  obtain ⟨s, k⟩ := p
                  obtain ⟨ad, cap, hs, hcap, H⟩ := hgood
                  simp only at hs e0 e1 hbnd H hcap
                  subst hs
                  have hsz := hbw.size
                  obtain ⟨wi, rfl⟩ : ∃ wi : World, wi = wr := ⟨_, rfl⟩
                  have q0 : (j : Int) < ((es 2).length : Int) := by omega
                  clear hI
                  obtain ⟨K, rfl⟩ : ∃ K : Nat, k = K := ⟨k.toNat, by omega⟩
                  have HX := fun W => textOf_any K W (by omega)
                  have HR : Hid (0 < m → ∃ b off, ad = some ⟨b, off, none⟩ ∧ b < wi.heap.size ∧ ∀ i, i < m → wi.cell? ⟨b, off + i, none⟩ = some (.string (markT K))) := fun h => by
                    obtain ⟨b, off, h1, h2, h3⟩ := H h
                    exact ⟨b, off, h1, h2, fun i hi => by have := h3 i hi 0 _ rfl; simpa [szC, mkC] using this⟩
                  clear H
                  generalize markT K = T at *
                  have HTX : Hid (∀ W, Calls Tryz.prog 39 #[.int .i64 K] W fun e w' => e = .returned (.string T) ∧ Below W.heap.size W w') := HX
                  clear HX
                  go_wp2_with fail
                  refine (HTX.out _).mono ?_
                  rintro e w1 ⟨rfl, hb1⟩
                  have hbx := heap_alloc_new wi (.cells #[.slice ad m cap, .int .i64 K] 89)
                  have x0 : w1.cell? ⟨wi.heap.size, 0, none⟩ = some (.slice ad m cap) := by
                    rw [hb1.cell (p := ⟨wi.heap.size, 0, none⟩) (by simp)]
                    exact World.news_of_block hbx 0 _ rfl
                  have hx1 : wi.heap.size < w1.heap.size := by have := hb1.size; simp at this; omega
                  have hbw1 : Below w.heap.size w w1 := (below_alloc hbw _).trans (hb1.mono (by simp; omega))
                  have HR1 : Hid (0 < m → ∃ b off, ad = some ⟨b, off, none⟩ ∧ b < w1.heap.size ∧ ∀ i, i < m → w1.cell? ⟨b, off + i, none⟩ = some (.string T)) := fun h => by
                    obtain ⟨b, off, r1, r2, r3⟩ := HR.out h
                    refine ⟨b, off, r1, by omega, fun i hi => ?_⟩
                    rw [hb1.cell (p := ⟨b, off + i, none⟩) (by simp; omega), (below_alloc (Below.refl _ wi) _).cell (p := ⟨b, off + i, none⟩) r2]
                    exact r3 i hi
                  clear HR hb1 hbx e0 e1 hc HTX
                  go_wp2
                  go_loopw [15] (fun s wr => ∃ t : Nat, t ≤ m ∧ s = .int .i64 t ∧ wr = w1) (fun s _ => m - (intOf s).toNat)
                  case atStart => exact ⟨0, Nat.zero_le _, rfl, rfl⟩
                  case round =>
                    obtain ⟨t, ht, rfl, rfl⟩ := hrel
                    by_cases htm : t < m
                    · obtain ⟨b, off, rfl, hb, hrow⟩ := HR1.out (by omega)
                      have c0 := hrow t htm
                      clear hrow HR1
                      have q1 : (0 : Int) ≤ (t : Int) := by omega
                      have q2 : (t : Int) < (m : Int) := by omega
                      go_wp2
                      exact ⟨⟨t + 1, by omega, by go_num, trivial⟩, by simp [intOf]; omega⟩
                    · have q2 : ¬ (t : Int) < (m : Int) := by omega
                      clear HR1
                      go_wp2
                      exact ⟨⟨j + 1, by omega, by go_num, hbw1⟩, by simp [intOf]; omega⟩
                · have q0 : ¬ (j : Int) < ((es 2).length : Int) := by omega
                  clear hI
                  go_wp2
                  go_ret
                  exact ⟨rfl, hbw⟩
end Go.Proofs.YtahdlejgjcjeoaaGreatDoor
