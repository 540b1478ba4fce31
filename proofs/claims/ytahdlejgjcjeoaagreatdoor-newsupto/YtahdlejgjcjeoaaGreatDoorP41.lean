/- Walk of the laws' looks, where texts alone came out. -/
import Derived.Test.YtahdlejgjcjeoaaGreatDoorP40
namespace Go.Proofs.YtahdlejgjcjeoaaGreatDoor
open Go.RowKit

theorem entryB {w : World} {B f : Nat} {va : Nat → Value} {es : Nat → List (Value × Int)} (h : Bk w B va es) (hf : f < 4) (i : Nat) (hi : i < (es f).length) :
    ∃ g cap, va f = .slice (some ⟨g, 0, none⟩) (es f).length cap ∧ g < w.heap.size ∧ w.cell? ⟨g, i * 2, none⟩ = some (es f)[i].1 ∧ w.cell? ⟨g, i * 2 + 1, none⟩ = some (.int .i64 (es f)[i].2) := by
  rcases (h.row f hf).2 with ⟨_, h0⟩ | ⟨g, cap, cur, hv, _, hh, h1, h2, h3, h4⟩
  · omega
  · refine ⟨g, cap, hv, (Array.getElem?_eq_some_iff.1 hh).1, ?_, ?_⟩
    · have := (flatE_get (es f) i hi).1
      rw [← h4, List.getElem?_take, if_pos (by omega), Array.getElem?_toList] at this
      simp [World.cell?, hh, this]
    · have := (flatE_get (es f) i hi).2
      rw [← h4, List.getElem?_take, if_pos (by omega), Array.getElem?_toList] at this
      simp [World.cell?, hh, this]

theorem nilRow {w : World} {B : Nat} {va : Nat → Value} {es : Nat → List (Value × Int)} (h : Bk w B va es) {f : Nat} (hf : f < 4) (he : es f = []) : ∃ ad cap, va f = .slice ad 0 cap := by
  obtain ⟨ad, cap, e⟩ := own_form (h.row f hf)
  rw [he] at e
  exact ⟨ad, cap, e⟩

set_option maxRecDepth 100000 in
set_option maxHeartbeats 4000000 in
theorem looksT_any (B : Nat) (va : Nat → Value) (es : Nat → List (Value × Int)) (w : World) (hI : Bk w B va es) (h0 : es 0 = []) (h1 : es 1 = []) (h3 : es 3 = []) (hes : (es 2).length ≤ 16000000) :
    Calls Tryz.prog 14 #[.pointer (some ⟨B, 0, none⟩)] w fun e w' => e = .returned (.bool true) ∧ Below w.heap.size w w' := by
  obtain ⟨ad0, cap0, e0⟩ := nilRow hI (f := 0) (by decide) h0
  obtain ⟨ad1, cap1, e1⟩ := nilRow hI (f := 1) (by decide) h1
  obtain ⟨ad3, cap3, e3⟩ := nilRow hI (f := 3) (by decide) h3
  obtain ⟨ad2, cap2, e2⟩ := own_form (hI.row 2 (by decide))
  have k0 := hI.c 0 (by decide)
  have k1 := hI.c 1 (by decide)
  have k3 := hI.c 3 (by decide)
  rw [e0] at k0
  rw [e1] at k1
  rw [e3] at k3
  have HI : Hid (Bk w B va es) := hI
  have HV : Hid (va 2 = .slice ad2 (es 2).length cap2) := e2
  clear hI e0 e1 e2 e3 h0 h1 h3
  go_enter Tryz.func14, Tryz.ntmps14
  go_wp2
  go_loopw [3] (fun s wr => s = .int .i64 0 ∧ wr = w) (fun _ _ => 0)
  case atStart => exact ⟨rfl, rfl⟩
  case round =>
    obtain ⟨rfl, rfl⟩ := hrel
    obtain ⟨wo, rfl⟩ : ∃ wo : World, wo = wr := ⟨_, rfl⟩
    go_wp2
    go_loopw [6] (fun s wr => s = .int .i64 0 ∧ wr = wo) (fun _ _ => 0)
    case atStart => exact ⟨rfl, rfl⟩
    case round =>
      obtain ⟨rfl, rfl⟩ := hrel
      obtain ⟨wo, rfl⟩ : ∃ wo : World, wo = wr := ⟨_, rfl⟩
      go_wp2
      go_loopw [9] (fun s wr => s = .int .i64 0 ∧ wr = wo) (fun _ _ => 0)
      case atStart => exact ⟨rfl, rfl⟩
      case round =>
        obtain ⟨rfl, rfl⟩ := hrel
        obtain ⟨wo, rfl⟩ : ∃ wo : World, wo = wr := ⟨_, rfl⟩
        go_wp2
        clear k0 k1 k3
        go_loopw [12] (fun s wr => ∃ j : Nat, j ≤ (es 2).length ∧ s = .int .i64 j ∧ Below wo.heap.size wo wr) (fun i _ => (es 2).length - (intOf i).toNat)
        case atStart => exact ⟨0, Nat.zero_le _, rfl, Below.refl _ _⟩
        case round =>
          obtain ⟨j, hj, rfl, hbw⟩ := hrel
          have hI := HI.out.below hbw
          have k2 := hI.c 2 (by decide)
          rw [HV.out] at k2
          by_cases hl : j < (es 2).length
          · obtain ⟨gA, capA', hvA, hgA, e0, e1⟩ := entryB hI (f := 2) (by decide) j hl
            obtain ⟨m, hmb, hgood⟩ := hI.good 2 (by decide) _ (List.getElem_mem hl)
            have hbnd := hI.bnd 2 (by decide) _ (List.getElem_mem hl)
            rw [HV.out] at hvA
            cases hvA
            generalize (es 2)[j] = p at *
            obtain ⟨s, k⟩ := p
            obtain ⟨ad, cap, hs, hcap, H⟩ := hgood
            simp only at hs e0 e1 hbnd H hcap
            subst hs
            obtain ⟨K, rfl⟩ : ∃ K : Nat, k = K := ⟨k.toNat, by omega⟩
            have HX := fun W => textOf_any K W (by omega)
            have HR : Hid (0 < m → ∃ b off, ad = some ⟨b, off, none⟩ ∧ b < wr.heap.size ∧ ∀ i, i < m → wr.cell? ⟨b, off + i, none⟩ = some (.string (markT K))) := fun h => by
              obtain ⟨b, off, h1, h2, h3⟩ := H h
              refine ⟨b, off, h1, h2, fun i hi => ?_⟩
              have := h3 i hi 0 _ rfl
              simpa [szC, mkC] using this
            clear H hI
            have hsz := hbw.size
            obtain ⟨wi, rfl⟩ : ∃ wi : World, wi = wr := ⟨_, rfl⟩
            have q0 : (j : Int) < ((es 2).length : Int) := by omega
            generalize markT K = T at *
            have HTX : Hid (∀ W, Calls Tryz.prog 39 #[.int .i64 K] W fun e w' => e = .returned (.string T) ∧ Below W.heap.size W w') := HX
            clear HX
            go_wp2_with fail
            refine (HTX.out _).mono ?_
            rintro e w1 ⟨rfl, hb1⟩
            have hbx := heap_alloc_new wi (.cells #[.slice ad m cap, .int .i64 K] 89)
            have x0 : w1.cell? ⟨wi.heap.size, 0, none⟩ = some (.slice ad m cap) := by
              rw [hb1.cell (p := ⟨wi.heap.size, 0, none⟩) (by simp)]
              exact World.news_of_block hbx 0 _ rfl
            have hx1 : wi.heap.size < w1.heap.size := by have := hb1.size; simp at this; omega
            have hbw1 : Below wo.heap.size wo w1 := (below_alloc hbw _).trans (hb1.mono (by simp; omega))
            have HR1 : Hid (0 < m → ∃ b off, ad = some ⟨b, off, none⟩ ∧ b < w1.heap.size ∧ ∀ i, i < m → w1.cell? ⟨b, off + i, none⟩ = some (.string T)) := fun h => by
              obtain ⟨b, off, r1, r2, r3⟩ := HR.out h
              refine ⟨b, off, r1, by omega, fun i hi => ?_⟩
              rw [hb1.cell (p := ⟨b, off + i, none⟩) (by simp; omega), (below_alloc (Below.refl _ wi) _).cell (p := ⟨b, off + i, none⟩) r2]
              exact r3 i hi
            clear HR hb1 hbx e0 e1 k2 HTX
            go_wp2
            go_loopw [15] (fun s wr => ∃ t : Nat, t ≤ m ∧ s = .int .i64 t ∧ wr = w1) (fun s _ => m - (intOf s).toNat)
            case atStart => exact ⟨0, Nat.zero_le _, rfl, rfl⟩
            case round =>
              obtain ⟨t, ht, rfl, rfl⟩ := hrel
              by_cases htm : t < m
              · obtain ⟨b, off, rfl, hb, hrow⟩ := HR1.out (by omega)
                have c0 := hrow t htm
                clear hrow HR1
                have q1 : (0 : Int) ≤ (t : Int) := by omega
                have q2 : (t : Int) < (m : Int) := by omega
                go_wp2
                exact ⟨⟨t + 1, by omega, by go_num, trivial⟩, by simp [intOf]; omega⟩
              · have q2 : ¬ (t : Int) < (m : Int) := by omega
                clear HR1
                go_wp2
                exact ⟨⟨j + 1, by omega, by go_num, hbw1⟩, by simp [intOf]; omega⟩
          · clear hI
            have q0 : ¬ (j : Int) < ((es 2).length : Int) := by omega
            go_wp2
            go_ret
            exact ⟨rfl, hbw⟩
end Go.Proofs.YtahdlejgjcjeoaaGreatDoor
