/- Walk of the laws' looks. -/
import Derived.Test.YtahdlejgjcjeoaaDoorOwnW
namespace Go.Proofs.YtahdlejgjcjeoaaDoor
open Go.RowKit

theorem flatE_get (es : List (Value × Int)) (i : Nat) (h : i < es.length) : (flatE es)[i * 2]? = some es[i].1 ∧ (flatE es)[i * 2 + 1]? = some (.int .i64 es[i].2) := by
  induction es generalizing i with
  | nil => simp at h
  | cons p es ih =>
    cases i with
    | zero => exact ⟨rfl, rfl⟩
    | succ i =>
      have := ih i (by simpa using h)
      have e : flatE (p :: es) = p.1 :: .int .i64 p.2 :: flatE es := rfl
      rw [e, show (i + 1) * 2 = i * 2 + 1 + 1 by omega]
      exact this

theorem entry_cells {w : World} {B : Nat} {va : Value} {es : List (Value × Int)} (h : BookInv w B va es) (i : Nat) (hi : i < es.length) :
    ∃ g cap, va = .slice (some ⟨g, 0, none⟩) es.length cap ∧ g < w.heap.size ∧ w.cell? ⟨g, i * 2, none⟩ = some es[i].1 ∧ w.cell? ⟨g, i * 2 + 1, none⟩ = some (.int .i64 es[i].2) := by
  rcases h.row.2 with ⟨_, h0⟩ | ⟨g, cap, cur, hv, _, hh, h1, h2, h3, h4⟩
  · omega
  · refine ⟨g, cap, hv, (Array.getElem?_eq_some_iff.1 hh).1, ?_, ?_⟩
    · have := (flatE_get es i hi).1
      rw [← h4, List.getElem?_take, if_pos (by omega), Array.getElem?_toList] at this
      simp [World.cell?, hh, this]
    · have := (flatE_get es i hi).2
      rw [← h4, List.getElem?_take, if_pos (by omega), Array.getElem?_toList] at this
      simp [World.cell?, hh, this]

set_option maxRecDepth 100000 in
set_option maxHeartbeats 4000000 in
theorem looks_any (B : Nat) (va : Value) (es : List (Value × Int)) (w : World) (hI : BookInv w B va es) (hes : es.length ≤ 1000) :
    Calls Tryd.prog 24 #[.pointer (some ⟨B, 0, none⟩)] w fun e w' => e = .returned (.bool true) ∧ Below w.heap.size w w' := by
  obtain ⟨adA, capA, rfl⟩ := own_form hI.row
  have HI : Hid (BookInv w B (.slice adA es.length capA) es) := hI
  clear hI
  go_enter Tryd.func24, Tryd.ntmps24
  go_wp2
  go_loopw [3] (fun i wr => ∃ j : Nat, j ≤ es.length ∧ i = .int .i64 j ∧ Below w.heap.size w wr) (fun i _ => es.length - (intOf i).toNat)
  case atStart => exact ⟨0, Nat.zero_le _, rfl, Below.refl _ _⟩
  case round =>
    obtain ⟨j, hj, rfl, hbw⟩ := hrel
    have hI := HI.out.below hbw
    have k0 := hI.c0
    have k1 := hI.c1
    have k2 := hI.c2
    have k3 := hI.c3
    by_cases hl : j < es.length
    · obtain ⟨gA, capA', hvA, hgA, e0, e1⟩ := entry_cells hI j hl
      obtain ⟨m, hmb, hgood⟩ := hI.good _ (List.getElem_mem hl)
      have hbnd := hI.bnd _ (List.getElem_mem hl)
      cases hvA
      generalize es[j] = p at *
      obtain ⟨s, k⟩ := p
      obtain ⟨ad, cap, hs, hcap, H⟩ := hgood
      simp only at hs e0 e1 hbnd H hcap
      subst hs
      simp only [List.length_replicate] at H hcap e0
      have HR : Hid (0 < m → ∃ b off, ad = some ⟨b, off, none⟩ ∧ b < wr.heap.size ∧ RowAt wr b off (List.replicate m (mark k))) := by simpa [Hid] using H
      clear H hI k1 k2 k3
      have hsz := hbw.size
      obtain ⟨wo, rfl⟩ : ∃ wo : World, wo = wr := ⟨_, rfl⟩
      have q0 : (j : Int) < (es.length : Int) := by omega
      go_wp2
      obtain ⟨box, hbox⟩ : ∃ box : Obj, box = .cells #[.slice ad m cap, .int .i64 k] 96 := ⟨_, rfl⟩
      have HBX : Hid (box = .cells #[.slice ad m cap, .int .i64 k] 96) := hbox
      rw [← hbox]
      clear hbox
      go_loopw [5] (fun s5 wr => ∃ t : Nat, t ≤ m ∧ s5 = .int .i64 t ∧ Below (wo.alloc box).heap.size (wo.alloc box) wr) (fun s5 _ => m - (intOf s5).toNat)
      case atStart => exact ⟨0, Nat.zero_le _, rfl, Below.refl _ _⟩
      case round =>
        obtain ⟨t, ht, rfl, hbi⟩ := hrel
        have b0 : wr.cell? ⟨wo.heap.size, 0, none⟩ = some (.slice ad m cap) := by
          rw [hbi.cell (p := ⟨wo.heap.size, 0, none⟩) (by simp)]
          exact World.news_of_block (heap_alloc_new wo box |>.trans (by rw [HBX.out])) 0 _ rfl
        have b1 : wr.cell? ⟨wo.heap.size, 1, none⟩ = some (.int .i64 k) := by
          rw [hbi.cell (p := ⟨wo.heap.size, 1, none⟩) (by simp)]
          exact World.news_of_block (heap_alloc_new wo box |>.trans (by rw [HBX.out])) 1 _ rfl
        have hbwi : Below w.heap.size w wr := (below_alloc hbw box).trans (hbi.mono (by simp; omega))
        by_cases htm : t < m
        · obtain ⟨b, off, rfl, hb, hrow⟩ := HR.out (by omega)
          have hcl := (hrow.below ((Below.refl _ wo).alloc (Nat.le_refl _) box |>.trans (hbi.mono (by simp))) hb) t (by simpa using htm)
          rw [List.getElem_replicate] at hcl
          obtain ⟨c0, c1, c2, c3, c4, c5⟩ := hcl
          clear hrow HR
          have hbr : b < wr.heap.size := by have := hbi.size; simp at this; omega
          have hbo : wo.heap.size < wr.heap.size := by have := hbi.size; simp at this; omega
          have hszi := hbi.size
          have hat := fun W => atomOf_any k W hbnd.1 hbnd.2
          generalize mark k = x at *
          have HAT : Hid (∀ W : World, Calls Tryd.prog 57 #[.int .i64 k] W fun e w' => e = .returned (.agg #[.int .i64 x.ty, .string x.key, .int .i64 x.side, .int .i64 x.who, .string x.elem, .int .i64 x.n]) ∧ Below W.heap.size W w') := hat
          clear hat
          have q1 : (0 : Int) ≤ (t : Int) := by omega
          have q2 : (t : Int) < (m : Int) := by omega
          go_wp2
          go_region_held3 (fun w' => w'.cell? ⟨wo.heap.size, 0, none⟩ = some (.slice (some ⟨b, off, none⟩) m cap) ∧ w'.cell? ⟨wo.heap.size, 1, none⟩ = some (.int .i64 k) ∧ w'.cell? ⟨b, off + t * 6, none⟩ = some (.int .i64 x.ty) ∧ w'.cell? ⟨b, off + t * 6 + 1, none⟩ = some (.string x.key) ∧ w'.cell? ⟨b, off + t * 6 + 2, none⟩ = some (.int .i64 x.side) ∧ w'.cell? ⟨b, off + t * 6 + 3, none⟩ = some (.int .i64 x.who) ∧ w'.cell? ⟨b, off + t * 6 + 4, none⟩ = some (.string x.elem) ∧ w'.cell? ⟨b, off + t * 6 + 5, none⟩ = some (.int .i64 x.n)) (first | go_keep | (go_split_ands; refine ⟨?_, ?_, ?_, ?_, ?_, ?_, ?_, ?_⟩ <;> (first | (rw [hb1.cell (p := ⟨b, _, none⟩) (by simpa using hbr)]; assumption) | (rw [hb1.cell (p := ⟨wo.heap.size, _, none⟩) (by simpa using hbo)]; assumption)))) (first | (go_at_call 57; refine (HAT.out _).mono ?_; rintro e w1 ⟨rfl, hb1⟩))
          go_wp2
          exact ⟨⟨t + 1, by omega, by go_num, hbi.drew.trans (hb1.mono hszi)⟩, by simp [intOf]; omega⟩
        · have q2 : ¬ (t : Int) < (m : Int) := by omega
          clear HR
          go_wp2
          exact ⟨⟨j + 1, by omega, by go_num, hbwi⟩, by simp [intOf]; omega⟩
    · clear hI
      have q0 : ¬ (j : Int) < (es.length : Int) := by omega
      obtain ⟨wo, rfl⟩ : ∃ wo : World, wo = wr := ⟨_, rfl⟩
      go_wp2
      go_loopw [6] (fun s wr => s = .int .i64 0 ∧ wr = wo) (fun _ _ => 0)
      case atStart => exact ⟨rfl, rfl⟩
      case round =>
        obtain ⟨rfl, rfl⟩ := hrel
        obtain ⟨wo, rfl⟩ : ∃ wo : World, wo = wr := ⟨_, rfl⟩
        go_wp2
        go_loopw [9] (fun s wr => s = .int .i64 0 ∧ wr = wo) (fun _ _ => 0)
        case atStart => exact ⟨rfl, rfl⟩
        case round =>
          obtain ⟨rfl, rfl⟩ := hrel
          obtain ⟨wo, rfl⟩ : ∃ wo : World, wo = wr := ⟨_, rfl⟩
          go_wp2
          go_loopw [12] (fun s wr => s = .int .i64 0 ∧ wr = wo) (fun _ _ => 0)
          case atStart => exact ⟨rfl, rfl⟩
          case round =>
            obtain ⟨rfl, rfl⟩ := hrel
            go_wp2
            go_ret
            exact ⟨rfl, hbw⟩
end Go.Proofs.YtahdlejgjcjeoaaDoor
