/- A game: both clusters, the caller's book, the law's own struct; what every call keeps. No walk. -/
import Derived.Test.YtahdlejgjcjeoaaGreatDoorP17
import Derived.Deep.Cut
import Derived.Test.YtahdlejgjcjeoaaGreatDoorP22
import Derived.Test.YtahdlejgjcjeoaaGreatDoorP21
import Derived.Test.YtahdlejgjcjeoaaGreatDoorP28
import Derived.Test.YtahdlejgjcjeoaaGreatDoorP30
import Derived.Test.YtahdlejgjcjeoaaGreatDoorP31
import Derived.Test.YtahdlejgjcjeoaaGreatDoorP29
namespace Go.Proofs.YtahdlejgjcjeoaaGreatDoor
open Go.RowKit

theorem ofRep_one {o i : Nat} : ¬ ofRep o i (o, 1) := fun h => by
  have : 10 ≤ 1 := h.2.1
  omega
/-- Behind an append to the log, and its storing. -/
theorem RefRep.pushLog {w1 w2 w3 : World} {col : Col} {o i g cap H : Nat} {near : List Bool} {D : RefD} {p : Rep} {r : Rc} (h : RefRep w1 col o i near D p) (hi : i < 6) (hu : p.down = false) (hb : Below w1.heap.size w1 w2)
    (hown : w3.ownsRow 0 144 5 (.slice (some ⟨g, 0, none⟩) (D.rs.length + 1) cap) (D.rs.length + 1) (D.rs.flatMap Rc.cells ++ r.cells)) (hg : w2.grownBy w3 D.vl.ownBlock) (hat : D.vl.ownBlock = some g ∨ g = H) (hH : w1.heap.size ≤ H) (hd : Held w1 col (o, 1) r.v r.d) (ht : r.torn = false) :
    (w3.cell? ⟨D.ρ, 7, none⟩ = some D.vl ∧ w3.frozen? ⟨D.ρ, 7, none⟩ = false) ∧ RefRep (w3.setCell ⟨D.ρ, 7, none⟩ (.slice (some ⟨g, 0, none⟩) (D.rs.length + 1) cap)) (paint col w1.heap.size (o, 50 + i)) o i near { D with vl := .slice (some ⟨g, 0, none⟩) (D.rs.length + 1) cap, rs := D.rs ++ [r] } { p with log := p.log ++ [r.rec'] } ∧ FrC (ofRep o i) col (paint col w1.heap.size (o, 50 + i)) w1 (w3.setCell ⟨D.ρ, 7, none⟩ (.slice (some ⟨g, 0, none⟩) (D.rs.length + 1) cap)) := by
  obtain ⟨hr3, hf3⟩ := h.log.lies hb hown hg hat hH
  have ne : ∀ j, j ≠ 50 + i → ¬ ((o, j) = (o, 50 + i)) := fun j hj e => hj (congrArg Prod.snd e)
  have hblk := hf3.block h.blk (by rw [h.cρ]; exact ne _ (by omega))
  have hρ : paint col w1.heap.size (o, 50 + i) D.ρ = (o, 10 + i) := (hf3.colB h.blk).trans h.cρ
  have f4 : FrC (fun x => x = (o, 50 + i) ∨ x = (o, 10 + i)) col (paint col w1.heap.size (o, 50 + i)) w1 (w3.setCell ⟨D.ρ, 7, none⟩ (.slice (some ⟨g, 0, none⟩) (D.rs.length + 1) cap)) := (hf3.mono fun x e => .inl e).trans (frC_setCell (S := fun x => x = (o, 50 + i) ∨ x = (o, 10 + i)) 7 _ (.inr hρ))
  have f5 : FrC (fun x => x = (o, 10 + i)) (paint col w1.heap.size (o, 50 + i)) (paint col w1.heap.size (o, 50 + i)) w3 (w3.setCell ⟨D.ρ, 7, none⟩ (.slice (some ⟨g, 0, none⟩) (D.rs.length + 1) cap)) := frC_setCell (S := fun x => x = (o, 10 + i)) 7 _ hρ
  have n4 : ∀ j, j ≠ 50 + i → j ≠ 10 + i → ¬ ((o, j) = (o, 50 + i) ∨ (o, j) = (o, 10 + i)) := fun j h1 h2 e => by
    rcases e with e | e
    · exact h1 (congrArg Prod.snd e)
    · exact h2 (congrArg Prod.snd e)
  have hrest := h.toRefRest
  refine ⟨⟨blk_cell hblk 7, blk_thaw hblk 7⟩, { atoms := hrest.atoms.kept f4 (n4 _ (by omega) (by omega)), taken := hrest.taken.kept f4 (n4 _ (by omega) (by omega)), tkd := fun t ht => (hrest.tkd t ht).kept f4 (n4 _ (by omega) (by omega)), tsl := hrest.tsl, buf := hrest.buf, near := hrest.near.kept f4 (n4 _ (by omega) (by omega)), acked := hrest.acked.kept f4 (n4 _ (by omega) (by omega)), log := ?_, rcd := fun q hq => ?_, logs := ?_, blk := heap_set (o := 7) hblk _, cρ := hρ }, f4.mono fun x e => ?_⟩
  · show RowC _ _ _ _ 5 _ (D.rs ++ [r]).length ((D.rs ++ [r]).flatMap Rc.cells)
    rw [List.length_append, List.flatMap_append]
    simpa using hr3.kept f5 (fun e => by have := congrArg Prod.snd e; simp only at this; omega)
  · rcases List.mem_append.1 hq with hq | hq
    · exact (hrest.rcd q hq).kept f4 (n4 _ (by omega) (by omega))
    · obtain rfl := List.mem_singleton.1 hq
      exact hd.kept f4 (n4 _ (by omega) (by omega))
  · obtain ⟨A, B, e, hA, hm, hB⟩ := hrest.logs
    rcases hB with ⟨rfl, hB⟩ | ⟨_, _, _, _, h5⟩
    · refine ⟨A ++ [r], [], by show D.rs ++ [r] = _; rw [e]; simp, fun q hq => ?_, by rw [List.map_append, hm]; rfl, .inl ⟨rfl, hB⟩⟩
      rcases List.mem_append.1 hq with hq | hq
      · exact hA q hq
      · obtain rfl := List.mem_singleton.1 hq
        exact ht
    · rw [hu] at h5
      cases h5
  · rcases e with e | e
    · rw [e]; exact ofRep_row hi (k := 5) (by omega)
    · rw [e]; exact ofRep_row hi (k := 1) (by omega)

/-- Behind an append to what was taken in, and its storing. -/
theorem RefRep.pushTaken {w1 w2 w3 : World} {col : Col} {o i g cap H : Nat} {near : List Bool} {D : RefD} {p : Rep} {t : Tk} (h : RefRep w1 col o i near D p) (hi : i < 6) (hb : Below w1.heap.size w1 w2)
    (hown : w3.ownsRow 0 156 4 (.slice (some ⟨g, 0, none⟩) (D.ts.length + 1) cap) (D.ts.length + 1) (D.ts.flatMap Tk.cells ++ t.cells)) (hg : w2.grownBy w3 D.vt.ownBlock) (hat : D.vt.ownBlock = some g ∨ g = H) (hH : w1.heap.size ≤ H) (hd : Held w1 col (o, 1) t.v t.d) (ht : t.kept = true) (hn : D.ts.length + 1 ≤ p.num) :
    (w3.cell? ⟨D.ρ, 4, none⟩ = some D.vt ∧ w3.frozen? ⟨D.ρ, 4, none⟩ = false) ∧ RefRep (w3.setCell ⟨D.ρ, 4, none⟩ (.slice (some ⟨g, 0, none⟩) (D.ts.length + 1) cap)) (paint col w1.heap.size (o, 20 + i)) o i near { D with vt := .slice (some ⟨g, 0, none⟩) (D.ts.length + 1) cap, ts := D.ts ++ [t] } { p with buf := p.buf ++ [t.ent] } ∧ FrC (ofRep o i) col (paint col w1.heap.size (o, 20 + i)) w1 (w3.setCell ⟨D.ρ, 4, none⟩ (.slice (some ⟨g, 0, none⟩) (D.ts.length + 1) cap)) := by
  obtain ⟨hr3, hf3⟩ := h.taken.lies hb hown hg hat hH
  have ne : ∀ j, j ≠ 20 + i → ¬ ((o, j) = (o, 20 + i)) := fun j hj e => hj (congrArg Prod.snd e)
  have hblk := hf3.block h.blk (by rw [h.cρ]; exact ne _ (by omega))
  have hρ : paint col w1.heap.size (o, 20 + i) D.ρ = (o, 10 + i) := (hf3.colB h.blk).trans h.cρ
  have f4 : FrC (fun x => x = (o, 20 + i) ∨ x = (o, 10 + i)) col (paint col w1.heap.size (o, 20 + i)) w1 (w3.setCell ⟨D.ρ, 4, none⟩ (.slice (some ⟨g, 0, none⟩) (D.ts.length + 1) cap)) := (hf3.mono fun x e => .inl e).trans (frC_setCell (S := fun x => x = (o, 20 + i) ∨ x = (o, 10 + i)) 4 _ (.inr hρ))
  have f5 : FrC (fun x => x = (o, 10 + i)) (paint col w1.heap.size (o, 20 + i)) (paint col w1.heap.size (o, 20 + i)) w3 (w3.setCell ⟨D.ρ, 4, none⟩ (.slice (some ⟨g, 0, none⟩) (D.ts.length + 1) cap)) := frC_setCell (S := fun x => x = (o, 10 + i)) 4 _ hρ
  have n4 : ∀ j, j ≠ 20 + i → j ≠ 10 + i → ¬ ((o, j) = (o, 20 + i) ∨ (o, j) = (o, 10 + i)) := fun j h1 h2 e => by
    rcases e with e | e
    · exact h1 (congrArg Prod.snd e)
    · exact h2 (congrArg Prod.snd e)
  have hrest := h.toRefRest
  refine ⟨⟨blk_cell hblk 4, blk_thaw hblk 4⟩, { atoms := hrest.atoms.kept f4 (n4 _ (by omega) (by omega)), taken := ?_, tkd := fun q hq => ?_, tsl := ?_, buf := ?_, near := hrest.near.kept f4 (n4 _ (by omega) (by omega)), acked := hrest.acked.kept f4 (n4 _ (by omega) (by omega)), log := hrest.log.kept f4 (n4 _ (by omega) (by omega)), rcd := fun q hq => (hrest.rcd q hq).kept f4 (n4 _ (by omega) (by omega)), logs := hrest.logs.same rfl rfl rfl, blk := heap_set (o := 4) hblk _, cρ := hρ }, f4.mono fun x e => ?_⟩
  · show RowC _ _ _ _ 4 _ (D.ts ++ [t]).length ((D.ts ++ [t]).flatMap Tk.cells)
    rw [List.length_append, List.flatMap_append]
    simpa using hr3.kept f5 (fun e => by have := congrArg Prod.snd e; simp only at this; omega)
  · rcases List.mem_append.1 hq with hq | hq
    · exact (hrest.tkd q hq).kept f4 (n4 _ (by omega) (by omega))
    · obtain rfl := List.mem_singleton.1 hq
      exact hd.kept f4 (n4 _ (by omega) (by omega))
  · show (D.ts ++ [t]).length ≤ p.num
    rw [List.length_append]
    exact hn
  · show ((D.ts ++ [t]).filter (·.kept)).map Tk.ent = p.buf ++ [t.ent]
    rw [List.filter_append, List.map_append, hrest.buf]
    simp [ht]
  · rcases e with e | e
    · rw [e]; exact ofRep_row hi (k := 2) (by omega)
    · rw [e]; exact ofRep_row hi (k := 1) (by omega)

/-- A stage of a call at one replica. -/
def Stage (w : World) (col : Col) (o i : Nat) (near : List Bool) (ρ m : Nat) (q : Rep) (wc : World) : Prop := ∃ D' col', D'.ρ = ρ ∧ D'.ts.length ≤ m ∧ RefRep wc col' o i near D' q ∧ FrC (ofRep o i) col col' w wc

set_option maxRecDepth 100000 in
set_option maxHeartbeats 2000000 in
theorem refTake {w : World} {col : Col} {o i x N n room org : Nat} {U : List At} {near : List Bool} {D : RefD} {p : Rep} {vd : Value} {d : List At} (h : RefRep w col o i near D p) (hi : i < 6) (hd : Held w col (o, 1) vd d) (hp : p.ok U N n room) (hu : p.down = false) (hL : Lim U N) (hr : 1 ≤ room) (hdl : d.length ≤ 131072)
    (c4 : w.cell? ⟨x, 4, none⟩ = some (.int .i64 room)) (cx : col x = (o, 0)) (_ho : org < 6) (hr8 : room ≤ 8) :
    Calls Tryz.prog 63 #[.pointer (some ⟨x, 0, none⟩), .pointer (some ⟨D.ρ, 0, none⟩), vd, .int .i64 org] w fun e w' => e = .returned (.tuple #[]) ∧ ∃ D' col', D'.ρ = D.ρ ∧ Hid (RefRep w' col' o i near D' (p.take room d org)) ∧ Hid (FrC (ofRep o i) col col' w w') := by
  obtain ⟨add, cpd, hvd, _⟩ := id hd
  subst hvd
  have HD : Hid (Held w col (o, 1) (.slice add d.length cpd) d) := hd
  obtain ⟨d0, d1, d2, d3, d4, d5, d6, d7, d8, d9, hfz⟩ := h.cells
  have hρ := blk_lt h.blk
  have hx : x < w.heap.size := World.block_lt_of_cell? w ⟨x, 4, none⟩ c4
  have f2 := hfz 2
  have f7 := hfz 7
  have hnum := hp.num
  have hN := hL.1
  have hρx : D.ρ ≠ x := fun e => by
    have := h.cρ
    rw [e, cx] at this
    have := congrArg Prod.snd this
    simp only at this
    omega
  obtain ⟨adl, cpl, hvl, hcl⟩ := h.log.form
  have hrl := (h.logs.fine hp hL).2
  obtain ⟨h1, fr1⟩ := h.set (k := 2) (u := .int .i64 ((p.num : Int) + 1)) (D' := D) (p' := { p with num := p.num + 1 }) hi rfl rfl { h.toRefRest with tsl := Nat.le_succ_of_le h.tsl, logs := h.logs.same rfl rfl rfl }
  obtain ⟨w1, hw1⟩ : ∃ w1, w1 = w.setCell ⟨D.ρ, 2, none⟩ (.int .i64 ((p.num : Int) + 1)) := ⟨_, rfl⟩
  rw [← hw1] at h1 fr1
  have HD1 : Held w1 col (o, 1) (.slice add d.length cpd) d := HD.out.kept fr1 ofRep_one
  obtain ⟨i0, hi0, hz0, hz1, hz2⟩ := info_parts infoRec
  have HPL : Hid (∀ g cap w3, w3.ownsRow 0 144 5 (.slice (some ⟨g, 0, none⟩) (D.rs.length + 1) cap) (D.rs.length + 1) (D.rs.flatMap Rc.cells ++ [.int .i64 1, .int .i64 ((p.num : Int) + 1), .slice add d.length cpd, .bool false, .string ⟨#[]⟩]) → ∀ w2, Below w1.heap.size w1 w2 → w2.grownBy w3 (Value.slice adl D.rs.length cpl).ownBlock → (Value.slice adl D.rs.length cpl).ownBlock = some g ∨ g = w1.heap.size + 1 → _) := fun g cap w3 k1 w2 k2 k3 k4 => RefRep.pushLog (r := ⟨1, p.num + 1, .slice add d.length cpd, d, false, ⟨#[]⟩⟩) h1 hi hu k2 k1 (by rw [hvl]; exact k3) (by rw [hvl]; exact k4) (Nat.le_succ _) HD1 rfl
  have HZ1 : Hid (w1.heap.size = w.heap.size) := by rw [hw1]; simp [Hid, World.setCell]
  have e2 : w1.cell? ⟨D.ρ, 2, none⟩ = some (.int .i64 ((p.num : Int) + 1)) := h1.cells.2.2.1
  have e7 : w1.cell? ⟨D.ρ, 7, none⟩ = some (.slice adl D.rs.length cpl) := by rw [← hvl]; exact h1.cells.2.2.2.2.2.2.2.1
  have g7 : w1.frozen? ⟨D.ρ, 7, none⟩ = false := blk_thaw h1.blk 7
  have hρ1 := blk_lt h1.blk
  have HOW : Hid (w1.ownsRow 0 144 5 (.slice adl D.rs.length cpl) D.rs.length (D.rs.flatMap Rc.cells)) := by rw [← hvl]; exact h1.log.own
  have HFR1 : Hid (FrC (ofRep o i) col col w w1) := fr1
  have HTS : Hid (D.ts.length ≤ p.num) := h.tsl
  clear h1 fr1 hfz d0 d1 d3 d4 d5 d6 d8 d9 h hcl
  go_enter Tryz.func63, Tryz.ntmps63
  go_wp2
  rw [← hw1]
  clear hw1
  go_cut [] from 9 (fun wc => Hid (Stage w col o i near D.ρ p.num { p with num := p.num + 1, log := p.log ++ [⟨1, p.num + 1, d⟩] } wc))
  case first =>
    go_region_law (refine step_append_lies _ rfl _ _ 131 rfl 0 144 i0 _ 5 64 Tryz.underlying131 hi0 hz0 hz1 hz2 rfl (by decide) _ D.rs.length _ rfl (HOW.out.alloc _) ⟨w1.heap.size, 0, none⟩ 1 1 [.int .i64 1, .int .i64 ((p.num : Int) + 1), .slice add d.length cpd, .bool false, .string ⟨#[]⟩] rfl rfl (World.news_of_block (heap_alloc_new w1 _)) (five_one rfl _ _) (by decide) (by unfold maxLen; omega) (by omega) (by simp) (w1.heap.size + 1) (by simp) ?_; intro g3 capn w3 hown3 hgrow3 hat3 hlt3; obtain ⟨⟨k7, l7⟩, hrep3, hfr3⟩ := HPL.out g3 capn w3 hown3 (w1.alloc (.cells #[.int .i64 1, .int .i64 ((p.num : Int) + 1), .slice add d.length cpd, .bool false, .string ⟨#[]⟩] 144)) (below_alloc (Below.refl _ _) _) (grown_dry hgrow3) hat3)
    all_goals go_wp2
    all_goals go_meet
    all_goals (case rel => exact ⟨_, _, by rfl, (by exact HTS.out), hrep3, HFR1.out.trans hfr3⟩)
  case rest =>
    clear HPL HOW e2 e7 g7 hρ1 HFR1
    obtain ⟨D2, col2, hρ2, htl', hR2, hF2⟩ := hcut
    have hc2 := hR2.cells
    rw [hρ2] at hc2
    obtain ⟨a0, a1, a2, a3, a4, a5, a6, a7, a8, a9, afz⟩ := hc2
    obtain ⟨adA, cpA, hvA, hAA⟩ := id hR2.atoms
    rw [hvA] at a1
    have g1 := afz 1
    have HDc := HD.out.kept hF2 ofRep_one
    have hlA : p.atoms.length ≤ 274878038016 := Nat.le_trans hp.alen hL.prod
    have hbo := both_any (.slice adA p.atoms.length cpA) (.slice add d.length cpd) p.atoms d wc (by rw [← hvA]; exact hR2.atoms.slice) HDc.slice (by omega) (by omega)
    have HR2 : Hid (RefRep wc col2 o i near D2 { p with num := p.num + 1, log := p.log ++ [⟨1, p.num + 1, d⟩] }) := hR2
    have HF2 : Hid (FrC (ofRep o i) col col2 w wc) := hF2
    have hρc : D.ρ < wc.heap.size := by rw [← hρ2]; exact blk_lt hR2.blk
    clear a0 a2 a3 a4 a5 a6 a7 a8 a9 afz hR2 hF2 hvA hAA HDc
    go_wp2_with fail
    refine hbo.mono ?_
    rintro e w4 ⟨v4, rfl, hown4, hb4⟩
    have hR4 := HR2.out.below hb4 (o, 1)
    have hF4 := HF2.out.below hb4 (o, 1)
    obtain ⟨hR5, hF5⟩ := hR4.set (k := 1) (u := v4) (D' := { D2 with va := v4 }) (p' := { p with num := p.num + 1, log := p.log ++ [⟨1, p.num + 1, d⟩], atoms := p.atoms ++ d }) hi rfl rfl { hR4.toRefRest with atoms := held_made rfl hown4, logs := hR4.logs.same rfl rfl rfl }
    obtain ⟨adB, cpB, hvB⟩ := own_form hown4
    subst hvB
    rw [hρ2] at hR5 hF5
    have b1 : w4.cell? ⟨D.ρ, 1, none⟩ = some (.slice adA p.atoms.length cpA) := by rw [hb4.cell (p := ⟨D.ρ, 1, none⟩) hρc]; exact a1
    have b1f : w4.frozen? ⟨D.ρ, 1, none⟩ = false := by rw [hb4.frozen (p := ⟨D.ρ, 1, none⟩) hρc]; exact g1
    have hF6 := hF4.trans hF5
    rw [List.length_append] at hR5 hF6
    clear hR4 hF4 hF5 hown4 hbo a1 g1
    obtain ⟨w5, hw5⟩ : ∃ w5, w5 = w4.setCell ⟨D.ρ, 1, none⟩ (.slice adB (p.atoms.length + d.length) cpB) := ⟨_, rfl⟩
    rw [← hw5] at hR5 hF6
    have hc5 := hR5.cells
    simp only at hc5
    obtain ⟨a0, a1, a2, a3, a4, a5, a6, a7, a8, a9, afz⟩ := hc5
    obtain ⟨adt, cpt, hvt, hct⟩ := hR5.taken.form
    rw [hvt] at a4
    have g4 := afz 4
    have hd5 := HD.out.kept hF6 ofRep_one
    have HPT : Hid (∀ g cap w3, w3.ownsRow 0 156 4 (.slice (some ⟨g, 0, none⟩) (D2.ts.length + 1) cap) (D2.ts.length + 1) (D2.ts.flatMap Tk.cells ++ [.int .i64 ((p.num : Int) + 1), .int .i64 org, .slice add d.length cpd, .bool true]) → ∀ w2, Below w5.heap.size w5 w2 → w2.grownBy w3 (Value.slice adt D2.ts.length cpt).ownBlock → (Value.slice adt D2.ts.length cpt).ownBlock = some g ∨ g = w5.heap.size + 1 → _) := fun g cap w3 k1 w2 k2 k3 k4 => RefRep.pushTaken (t := ⟨p.num + 1, org, .slice add d.length cpd, d, true⟩) hR5 hi k2 k1 (by rw [show D2.vt = _ from hvt]; exact k3) (by rw [show D2.vt = _ from hvt]; exact k4) (Nat.le_succ _) hd5 rfl (Nat.succ_le_succ htl')
    have HOW : Hid (w5.ownsRow 0 156 4 (.slice adt D2.ts.length cpt) D2.ts.length (D2.ts.flatMap Tk.cells)) := by rw [← hvt]; exact hR5.taken.own
    have hρ5 : D.ρ < w5.heap.size := blk_lt hR5.blk
    have HF6 := Hid.mk hF6
    obtain ⟨i1, hi1, hy0, hy1, hy2⟩ := info_parts infoTaken
    clear hR5 hF6 a0 a1 a3 a5 a6 a7 a8 a9 afz hvt hct hd5 HR2 HF2
    go_wp2
    rw [← hw5]
    clear hw5 b1 b1f hb4
    go_cut [] from 9 (fun wc => Hid (Stage w col o i near D.ρ (p.num + 1) (p.take1 d org) wc))
    case first =>
      go_region_law (refine step_append_lies _ rfl _ _ 130 rfl 0 156 i1 _ 4 48 Tryz.underlying130 hi1 hy0 hy1 hy2 rfl (by decide) _ D2.ts.length _ rfl (HOW.out.alloc _) ⟨w5.heap.size, 0, none⟩ 1 1 [.int .i64 ((p.num : Int) + 1), .int .i64 org, .slice add d.length cpd, .bool true] rfl rfl (World.news_of_block (heap_alloc_new w5 _)) (four_one rfl _) (by decide) (by unfold maxLen; omega) (by omega) (by simp) (w5.heap.size + 1) (by simp) ?_; intro g3 capn w3 hown3 hgrow3 hat3 hlt3; obtain ⟨⟨k4, l4⟩, hrep3, hfr3⟩ := HPT.out g3 capn w3 hown3 (w5.alloc (.cells #[.int .i64 ((p.num : Int) + 1), .int .i64 org, .slice add d.length cpd, .bool true] 156)) (below_alloc (Below.refl _ _) _) (grown_dry hgrow3) hat3)
      all_goals go_wp2
      all_goals go_meet
      all_goals (case rel => exact ⟨_, _, by rfl, (by simp; omega), hrep3, HF6.out.trans hfr3⟩)
    case rest =>
      obtain ⟨D3, col3, hρ3, htl3, hR3, hF3⟩ := hcut
      have hx3 : wc.heap[x]? = w.heap[x]? := hF3.fr.block x hx (by rw [cx]; intro hh; have : 10 ≤ 0 := hh.2.1; omega)
      have c43 : wc.cell? ⟨x, 4, none⟩ = some (.int .i64 room) := (World.cell?_of_block hx3).trans c4
      have hxc : x < wc.heap.size := Nat.lt_of_lt_of_le hx hF3.size
      have hkeep := keep_any hR3 (by show p.num + 1 ≤ _; omega)
      rw [hρ3] at hkeep
      have HBF : Hid ((D3.ts.filter (·.kept)).map Tk.ent = p.buf ++ [⟨p.num + 1, org, d⟩]) := hR3.buf
      have hbl : (D3.ts.filter (·.kept)).length = p.buf.length + 1 := by
        have := congrArg List.length HBF.out
        rw [List.length_map, List.length_append] at this
        exact this
      have hbuf := hp.bufL
      have HR3 := Hid.mk hR3
      have HF3 := Hid.mk hF3
      generalize hts : D3.ts.filter (·.kept) = ts at *
      clear HPT HOW hρ5 HF6 hR3 hF3 hρc htl' a2 a4 g4 hts hx3
      go_wp2_with fail
      refine hkeep.mono ?_
      rintro e w7 ⟨v7, rfl, hown7, hb7⟩
      have c47 : w7.cell? ⟨x, 4, none⟩ = some (.int .i64 room) := by rw [hb7.cell (p := ⟨x, 4, none⟩) hxc]; exact c43
      have hR7 := HR3.out.below hb7 (o, 1)
      have hF7 := HF3.out.below hb7 (o, 1)
      rw [hbl] at hown7
      obtain ⟨ad7, cp7, hv7⟩ := own_form hown7
      subst hv7
      clear hkeep HR3 HF3
      by_cases hro : room < p.buf.length + 1
      · have q1 : (room : Int) < ((p.buf.length : Int) + 1) := by omega
        obtain ⟨t0, hts0⟩ : ∃ t0, ts[0]? = some t0 := ⟨ts[0]'(by omega), List.getElem?_eq_getElem (by omega)⟩
        have hrow7 : RowC w7 (fun _ => (0, 0)) (0, 0) 156 4 (.slice ad7 (p.buf.length + 1) cp7) (p.buf.length + 1) (ts.flatMap Tk.cells) := ⟨owns_mono hown7 (Nat.zero_le _), fun _ _ => rfl⟩
        rw [← hbl] at hrow7
        obtain ⟨ad', cp', hv', hc', H'⟩ := hrow7.elem tk_len
        obtain ⟨g7, hg7, hg7l, -, -, hcl7⟩ := H' (by omega)
        cases hv'
        subst hg7
        have hl0 : 0 < ts.length := by omega
        have ht0 : ts[0] = t0 := by rw [List.getElem?_eq_getElem hl0] at hts0; exact Option.some.inj hts0
        have e0 : w7.cell? ⟨g7, 0, none⟩ = some (.int .i64 t0.num) := by
          have := hcl7 0 hl0 0 (.int .i64 t0.num) (by rw [ht0]; rfl)
          simpa using this
        have HN0 : Hid (t0.num = (p.buf.head?.map (·.num)).getD (p.num + 1)) := by
          have h0 := congrArg List.head? HBF.out
          rw [List.head?_map, List.head?_eq_getElem?, hts0] at h0
          cases hb : p.buf with
          | nil => rw [hb] at h0; have := congrArg Ent.num (Option.some.inj h0); exact this
          | cons a l => rw [hb] at h0; have := congrArg Ent.num (Option.some.inj h0); exact this
        have hn0 : t0.num ≤ 4294967296 := by
          rw [HN0.out]
          cases hb : p.buf with
          | nil => simp; omega
          | cons a l =>
            have := (hp.buf a (by rw [hb]; simp)).2.2.1
            simp
            omega
        have hdr := refDrop hR7 hi t0.num (by show p.num + 1 ≤ _; omega) hn0 (by show p.base ≤ _; have := hp.base; omega)
        rw [hρ3] at hdr
        have HT : Hid (p.take room d org = (p.take1 d org).drop t0.num) := by unfold Hid Rep.take; rw [if_pos hro, HN0.out]
        rw [hbl] at *
        clear hrow7 hcl7 hR7 H' hc'
        go_wp2_with fail
        refine hdr.mono ?_
        rintro e w8 ⟨rfl, D8, col8, hρ8, hR8, hF8⟩
        go_wp2
        go_end0
        exact ⟨rfl, D8, col8, hρ8, by rw [HT.out]; exact hR8, hF7.trans hF8.out⟩
      · have q1 : ((p.buf.length : Int) + 1) ≤ (room : Int) := by omega
        have HT : Hid (p.take room d org = p.take1 d org) := by unfold Hid Rep.take; rw [if_neg hro]
        go_wp2
        go_end0
        exact ⟨rfl, D3, _, hρ3, by rw [HT.out]; exact hR7, hF7⟩

end Go.Proofs.YtahdlejgjcjeoaaGreatDoor

namespace Go.Proofs.YtahdlejgjcjeoaaGreatDoor
open Go.RowKit

def hadTo (l : List At) (a : At) (k : Nat) : Int := hadN (l.take k) a
theorem hadTo_succ (l : List At) (a : At) (k : Nat) (h : k < l.length) : hadTo l a (k + 1) = if plc l[k] a = 0 ∧ hadTo l a k < l[k].n then l[k].n else hadTo l a k := by
  unfold hadTo hadN
  rw [List.take_succ_eq_append_getElem h, List.foldl_append]
  rfl
theorem hadN_le {l : List At} {a : At} {m : Int} (h : ∀ x ∈ l, x.n ≤ m) (hm : 0 ≤ m) : hadN l a ≤ m := by
  unfold hadN
  suffices ∀ (l : List At) (z : Int), (∀ x ∈ l, x.n ≤ m) → z ≤ m → l.foldl (fun n x => if plc x a = 0 ∧ n < x.n then x.n else n) z ≤ m from this l 0 h hm
  intro l
  induction l with
  | nil => intro z _ hz; exact hz
  | cons x l ih =>
    intro z hl hz
    rw [List.foldl_cons]
    refine ih _ (fun y hy => hl y (List.mem_cons_of_mem _ hy)) ?_
    split
    · exact hl x (by simp)
    · exact hz
theorem may_n {a : At} (h : mayB a = true) : a.n ≤ 2147483647 ∧ 0 ≤ a.n := by
  simp only [mayB, decide_eq_true_eq] at h
  omega

theorem keepB {wr W W' : World} {P : World → Prop} (hks : ∀ W, Below wr.heap.size wr W → Below wr.heap.size wr W ∧ P W) (h : Below wr.heap.size wr W ∧ P W) (hb : Below W.heap.size W W') : Below wr.heap.size wr W' ∧ P W' := hks _ (h.1.trans (hb.mono h.1.size))
theorem cellsAt_to {w w' : World} {b o : Nat} {a : At} (h : cellsAt w b o a) (hb : b < w.heap.size) (hw : Below w.heap.size w w') : cellsAt w' b o a := cellsAt_below hw hb h
theorem cellsAt_block6 {w : World} {q : Nat} {a : At} {e : TypeId} {fz : Nat × Nat} (h : w.heap[q]? = some (.cells #[.int .i64 a.ty, .string a.key, .int .i64 a.side, .int .i64 a.who, .string a.elem, .int .i64 a.n] e fz)) : cellsAt w q 0 a := ⟨blk_cell h 0, blk_cell h 1, blk_cell h 2, blk_cell h 3, blk_cell h 4, blk_cell h 5⟩

set_option maxRecDepth 100000 in
set_option maxHeartbeats 1000000 in
theorem refHad {w : World} {col : Col} {o i : Nat} {near : List Bool} {D : RefD} {p : Rep} (h : RefRep w col o i near D p) (hm : ∀ x ∈ p.atoms, mayB x = true) (hl : p.atoms.length ≤ 274878038016) (a : At) (ha : fits a) :
    Calls Tryz.prog 110 #[.pointer (some ⟨D.ρ, 0, none⟩), a.val] w fun e w' => e = .returned (.int .i64 (hadN p.atoms a)) ∧ Below w.heap.size w w' := by
  have d1 := h.cells.2.1
  have hρ := blk_lt h.blk
  have HA : Hid (SliceOf w D.va p.atoms) := h.atoms.slice
  obtain ⟨ad, cp, hva, _⟩ := h.atoms
  rw [hva] at d1 HA
  have HM : Hid (∀ x ∈ p.atoms, mayB x = true) := hm
  clear h hm hva
  generalize D.ρ = ρ at *
  generalize p.atoms = l at *
  have HPL : Hid (∀ x, fits x → ∀ W, Calls Tryz.prog 118 #[x.val, a.val] W fun e w' => e = .returned (.int .i64 (plc x a)) ∧ Below W.heap.size W w') := fun x hx W => places_any x a W hx ha
  obtain ⟨at0, at1, at2, at3, at4, at5⟩ := a
  obtain ⟨A, hA⟩ : ∃ A : At, A = ⟨at0, at1, at2, at3, at4, at5⟩ := ⟨_, rfl⟩
  have HAV : Hid (A.val = .agg #[.int .i64 at0, .string at1, .int .i64 at2, .int .i64 at3, .string at4, .int .i64 at5]) := by rw [hA]; rfl
  rw [← hA] at HPL ⊢
  rw [HAV.out] at HPL ⊢
  go_enter Tryz.func110, Tryz.ntmps110
  go_wp2
  go_loopw [5, 6] (fun n j wr => ∃ k : Nat, k ≤ l.length ∧ j = .int .i64 k ∧ n = .int .i64 (hadTo l A k) ∧ Hid (wr.heap[w.heap.size]? = some (.cells #[.int .i64 at0, .string at1, .int .i64 at2, .int .i64 at3, .string at4, .int .i64 at5] 77 (0, 0))) ∧ Below w.heap.size w wr) (fun _ j _ => l.length - (intOf j).toNat)
  case atStart => exact ⟨0, Nat.zero_le _, rfl, rfl, heap_alloc_new w _, below_alloc (Below.refl _ _) _⟩
  case round =>
    obtain ⟨k, hk, rfl, rfl, hblk, hbw⟩ := hrel
    have d1r : wr.cell? ⟨ρ, 1, none⟩ = some (.slice ad l.length cp) := by rw [hbw.cell (p := ⟨ρ, 1, none⟩) hρ]; exact d1
    by_cases hkl : k < l.length
    · obtain ⟨ad', cp', e', -, HS⟩ := HA.out.below hbw
      cases e'
      obtain ⟨b, off, rfl, hb, hrow⟩ := HS (by omega)
      have hmx := HM.out _ (List.getElem_mem hkl)
      have hn := may_n hmx
      have HSC := hadTo_succ l A k hkl
      have hHl : hadTo l A k ≤ 2147483647 := hadN_le (fun x hx => (may_n (HM.out x (List.mem_of_mem_take hx))).1) (by decide)
      have hH0 : 0 ≤ hadTo l A k := hadN_nonneg _ _
      have HCON := Hid.mk (HPL.out _ (fits_of_may hmx))
      have hcx := hrow k hkl
      have hwq := blk_lt hblk.out
      have hca : cellsAt wr w.heap.size 0 ⟨at0, at1, at2, at3, at4, at5⟩ := cellsAt_block6 (a := ⟨at0, at1, at2, at3, at4, at5⟩) hblk.out
      have hρr : ρ < wr.heap.size := Nat.lt_of_lt_of_le hρ hbw.size
      generalize l[k] = x at *
      have HKS : ∀ W, Below wr.heap.size wr W → Below wr.heap.size wr W ∧ (W.cell? ⟨ρ, 1, none⟩ = some (.slice (some ⟨b, off, none⟩) l.length cp) ∧ (cellsAt W b (off + k * 6) x ∧ cellsAt W w.heap.size 0 ⟨at0, at1, at2, at3, at4, at5⟩)) := fun W hW => ⟨hW, by rw [hW.cell (p := ⟨ρ, 1, none⟩) hρr]; exact d1r, cellsAt_to hcx hb hW, cellsAt_to hca hwq hW⟩
      simp only [cellsAt, Nat.zero_add] at HKS
      have HS2 := Hid.mk HSC
      have HPL2 : Hid (plc x A = plc x A) := rfl
      generalize plc x A = pv at *
      clear HSC hrow HS HM HPL hcx hca
      have q1 : (k : Int) < (l.length : Int) := by omega
      go_wp2
      go_region_held3 (fun w' => Below wr.heap.size wr w' ∧ (w'.cell? ⟨ρ, 1, none⟩ = some (.slice (some ⟨b, off, none⟩) l.length cp) ∧ ((w'.cell? ⟨b, off + k * 6, none⟩ = some (.int .i64 x.ty) ∧ w'.cell? ⟨b, off + k * 6 + 1, none⟩ = some (.string x.key) ∧ w'.cell? ⟨b, off + k * 6 + 2, none⟩ = some (.int .i64 x.side) ∧ w'.cell? ⟨b, off + k * 6 + 3, none⟩ = some (.int .i64 x.who) ∧ w'.cell? ⟨b, off + k * 6 + 4, none⟩ = some (.string x.elem) ∧ w'.cell? ⟨b, off + k * 6 + 5, none⟩ = some (.int .i64 x.n)) ∧ (w'.cell? ⟨w.heap.size, 0, none⟩ = some (.int .i64 at0) ∧ w'.cell? ⟨w.heap.size, 1, none⟩ = some (.string at1) ∧ w'.cell? ⟨w.heap.size, 2, none⟩ = some (.int .i64 at2) ∧ w'.cell? ⟨w.heap.size, 3, none⟩ = some (.int .i64 at3) ∧ w'.cell? ⟨w.heap.size, 4, none⟩ = some (.string at4) ∧ w'.cell? ⟨w.heap.size, 5, none⟩ = some (.int .i64 at5))))) (first | exact HKS _ (Below.refl _ _).drew | exact keepB HKS (by assumption) hbN | go_keep) (first | (go_at_call 118; refine (HCON.out _).mono ?_; rintro e wN ⟨rfl, hbN⟩) | fail)
      obtain ⟨hbN2, m1, ⟨x0, x1, x2, x3, x4, x5⟩, y0, y1, y2, y3, y4, y5⟩ := HKS wN ((Below.refl _ wr).drew.trans hbN)
      have hbf := hbw.trans (hbN2.mono hbw.size)
      have hblk2 : Hid (wN.heap[w.heap.size]? = some (.cells #[.int .i64 at0, .string at1, .int .i64 at2, .int .i64 at3, .string at4, .int .i64 at5] 77 (0, 0))) := (hbN2.block _ hwq).trans hblk.out
      clear HKS x0 x1 x2 x3 x4 y0 y1 y2 y3 y4 y5 hblk d1r hbN2
      rw [← hA]
      generalize hadTo l A k = hd at *
      by_cases hp0 : pv = 0
      · subst hp0
        by_cases hlt : hd < x.n
        · go_wp2
          exact ⟨⟨k + 1, by omega, by go_num, by rw [HS2.out, if_pos ⟨rfl, hlt⟩], hblk2, hbf⟩, by simp [intOf]; omega⟩
        · have hlt' : x.n ≤ hd := by omega
          go_wp2
          exact ⟨⟨k + 1, by omega, by go_num, by rw [HS2.out, if_neg (fun hh => hlt hh.2)], hblk2, hbf⟩, by simp [intOf]; omega⟩
      · go_wp2
        exact ⟨⟨k + 1, by omega, by go_num, by rw [HS2.out, if_neg (fun hh => hp0 hh.1)], hblk2, hbf⟩, by simp [intOf]; omega⟩
    · have hkk : k = l.length := by omega
      subst hkk
      go_wp2
      go_ret
      exact ⟨ret_int (by unfold hadTo; rw [List.take_of_length_le (Nat.le_refl _)]), hbw⟩

end Go.Proofs.YtahdlejgjcjeoaaGreatDoor

namespace Go.Proofs.YtahdlejgjcjeoaaGreatDoor
open Go.RowKit

/-- All that is one owner's. -/
def ofOwner (o : Nat) : Nat × Nat → Prop := fun κ => κ.1 = o
theorem ofRep_owner {o i : Nat} : ∀ x, ofRep o i x → ofOwner o x := fun _ h => h.1
theorem ds_rho {K : RefC} {i : Nat} {D : RefD} (h : K.Ds[i]? = some D) : ∀ h' : i < K.Ds.length, (K.Ds[i]).ρ = D.ρ := fun h' => by
  rw [List.getElem?_eq_getElem h'] at h
  rw [Option.some.inj h]

set_option maxRecDepth 100000 in
set_option maxHeartbeats 2000000 in
theorem refCrash {w : World} {col : Col} {o x N : Nat} {U : List At} {K : RefC} {c : Clu} (h : RefAt w col o x K c) (hok : c.ok U N) (r : Int) :
    Calls Tryz.prog 30 #[.pointer (some ⟨x, 0, none⟩), .int .i64 r] w fun e w' => e = .returned (.int .i64 (c.works r)) ∧ ∃ K' col', Hid (RefAt w' col' o x K' (c.crash r)) ∧ Hid (FrC (ofOwner o) col col' w w') := by
  have HW := refWorks h hok.n6 r
  by_cases hw : c.works r = 0
  · obtain ⟨⟨h0, hr⟩, hd⟩ := works_zero hw
    obtain ⟨n, rfl⟩ : ∃ n : Nat, r = n := ⟨r.toNat, by omega⟩
    simp only [Int.toNat_natCast] at hr hd
    obtain ⟨g, cap, D, hv, hc, hD, hp, hR⟩ := h.ptr hr
    have c5 := h.cells.2.2.2.2.2.1
    rw [hv] at c5
    have hn6 := hok.n6
    have HC : Hid (c.crash n = c.setRep n (c.rep n).fall) := by unfold Hid Clu.crash; rw [if_pos hw, Int.toNat_natCast]
    have hdn := refDown hR.toB (by omega) (by have := (hok.rep hr).ackL; omega)
    have HFIN : Hid (∀ w' D' col', D'.ρ = D.ρ → RefRep w' col' o n (nearRow c n) D' (c.rep n).fall → FrC (ofRep o n) col col' w w' → RefAt w' col' o x { K with Ds := K.Ds.set n D' } (c.setRep n (c.rep n).fall)) := fun w' D' col' h1 h2 h3 => h.setRep hn6 hr h3 (fun h' => by rw [ds_rho hD h']; exact h1) h2
    rw [hw] at HW ⊢
    clear h hok hR hw hD hv
    generalize D.ρ = ρ at *
    generalize hLL : c.reps.length = L at *
    have q1 : (n : Int) < (L : Int) := by omega
    clear hLL
    go_enter Tryz.func30, Tryz.ntmps30
    go_wp2_with fail
    refine HW.mono ?_
    rintro e w' ⟨rfl, rfl⟩
    go_wp2_with fail
    refine hdn.mono ?_
    rintro e w2 ⟨rfl, D2, col2, hρ2, hR2, hF2⟩
    go_wp2
    go_ret
    exact ⟨rfl, _, col2, by rw [HC.out]; exact HFIN.out _ _ _ hρ2 hR2 hF2, hF2.out.mono ofRep_owner⟩
  · have HC : Hid (c.crash r = c) := by unfold Hid Clu.crash; rw [if_neg hw]
    generalize c.works r = cd at *
    go_enter Tryz.func30, Tryz.ntmps30
    go_wp2_with fail
    refine HW.mono ?_
    rintro e w' ⟨rfl, rfl⟩
    go_wp2
    go_ret
    exact ⟨rfl, K, col, by rw [HC.out]; exact h, FrC.refl _ _ _⟩

end Go.Proofs.YtahdlejgjcjeoaaGreatDoor

namespace Go.Proofs.YtahdlejgjcjeoaaGreatDoor
open Go.RowKit

/-- The book, and whose its blocks are. -/
structure BkC (w : World) (col : Col) (B M : Nat) (va : Nat → Value) (es : Nat → List (Value × Int)) : Prop where
  bk : Bk w B va es
  len : ∀ f, f < 4 → (es f).length ≤ M
  cB : (col B).1 = 3
  cv : ∀ f, f < 4 → ∀ q, (va f).ownBlock = some q → (col q).1 = 3
  ce : ∀ f, f < 4 → ∀ p ∈ es f, ∀ q, p.1.ownBlock = some q → (col q).1 = 3
/-- What lay there at first is as it was, and is nobody's. -/
structure Old (Z w : World) (col : Col) : Prop where
  bel : Below Z.heap.size Z w
  col : ∀ q, q < Z.heap.size → (col q).1 = 0
theorem Old.kept {Z w w' : World} {col col' : Col} {S : Nat × Nat → Prop} (h : Old Z w col) (hf : FrC S col col' w w') (hS : ∀ κ : Nat × Nat, κ.1 = 0 → ¬ S κ) : Old Z w' col' where
  bel := ⟨hf.fr.os.trans h.bel.os, hf.fr.tape.trans h.bel.tape, hf.fr.output.trans h.bel.output, Nat.le_trans h.bel.size hf.size, fun k hk => (hf.fr.block k (Nat.lt_of_lt_of_le hk h.bel.size) (hS _ (h.col k hk))).trans (h.bel.block k hk)⟩
  col := fun q hq => by rw [hf.col q (Nat.lt_of_lt_of_le hq h.bel.size)]; exact h.col q hq
theorem Old.same {Z w w' : World} {col : Col} (h : Old Z w col) (hb : Below w.heap.size w w') : Old Z w' col := h.kept (S := fun _ => False) (frC_same hb) (fun _ _ => id)
/-- The document's cluster is at cR, the program's at cP; the book has at most M lists of a kind. -/
structure GSt (Z w : World) (col : Col) (W x y B M : Nat) (KR : RefC) (KP : PrK) (cR cP : Clu) : Prop where
  old : Old Z w col
  tab : Tab w col
  ref : RefAt w col 1 y KR cR
  prg : PrgAt w col 2 x KP cP
  wb : w.heap[W]? = some (.cells #[.pointer (some ⟨x, 0, none⟩), .pointer (some ⟨y, 0, none⟩), .pointer (some ⟨B, 0, none⟩)] 48 (0, 0))
  cW : (col W).1 = 4
  bk : ∃ va es, BkC w col B M va es

theorem MarkRow.fr {w w' : World} {X : Nat → Prop} {v : Value} {s n : Nat} {c : List Value} (h : MarkRow w v s n c) (hf : Fr X w w') (hx : ∀ q, v.ownBlock = some q → ¬ X q) : MarkRow w' v s n c := by
  obtain ⟨ad, cap, rfl, hcap, H⟩ := h
  refine ⟨ad, cap, rfl, hcap, fun h0 => ?_⟩
  obtain ⟨b, off, rfl, hlt, hrow⟩ := H h0
  refine ⟨b, off, rfl, Nat.lt_of_lt_of_le hlt hf.size, fun i hi j u hu => ?_⟩
  rw [World.cell?_of_block (w := w) (hf.block b hlt (hx b rfl))]
  exact hrow i hi j u hu
theorem BkC.kept {w w' : World} {col col' : Col} {S : Nat × Nat → Prop} {B M : Nat} {va : Nat → Value} {es : Nat → List (Value × Int)} (h : BkC w col B M va es) (hf : FrC S col col' w w') (hS : ∀ κ, κ.1 = 3 → ¬ S κ) : BkC w' col' B M va es where
  bk := {
    c := fun f hf' => by rw [World.cell?_of_block (w := w) (a := ⟨B, f, none⟩) (hf.fr.block B h.bk.lt (hS _ h.cB))]; exact h.bk.c f hf'
    fz := fun o => by rw [World.frozen?_of_block (w := w) (a := ⟨B, o, none⟩) (hf.fr.block B h.bk.lt (hS _ h.cB))]; exact h.bk.fz o
    row := fun f hf' => owns_fr (h.bk.row f hf') hf.fr fun q hq => hS _ (h.cv f hf' q hq)
    good := fun f hf' p hp => by
      obtain ⟨n, hn, hm⟩ := h.bk.good f hf' p hp
      exact ⟨n, hn, hm.fr hf.fr fun q hq => hS _ (h.ce f hf' p hp q hq)⟩
    bnd := h.bk.bnd
    sep := fun f hf' p hp q hq => ⟨Nat.lt_of_lt_of_le (h.bk.sep f hf' p hp q hq).1 hf.size, (h.bk.sep f hf' p hp q hq).2⟩
    apart := h.bk.apart
    cross := h.bk.cross }
  len := h.len
  cB := by rw [hf.col B h.bk.lt]; exact h.cB
  cv := fun f hf' q hq => by rw [hf.col q (own_lt (h.bk.row f hf') q hq)]; exact h.cv f hf' q hq
  ce := fun f hf' p hp q hq => by rw [hf.col q (h.bk.sep f hf' p hp q hq).1]; exact h.ce f hf' p hp q hq

section
variable {Z w w1 w' : World} {col col' : Col} {W x y B M : Nat} {KR : RefC} {KP : PrK} {cR cP : Clu}
theorem GSt.same (h : GSt Z w col W x y B M KR KP cR cP) (hb : Below w.heap.size w w') : GSt Z w' col W x y B M KR KP cR cP := by
  obtain ⟨va, es, hk⟩ := h.bk
  exact ⟨h.old.same hb, h.tab.below hb, h.ref.same hb, h.prg.same hb, (hb.block W (blk_lt h.wb)).trans h.wb, h.cW, va, es, hk.kept (S := fun _ => False) (frC_same hb) (fun _ _ => id)⟩
theorem GSt.wK (h : GSt Z w col W x y B M KR KP cR cP) {S : Nat × Nat → Prop} (hf : FrC S col col' w w') (hS : ∀ κ, κ.1 = 4 → ¬ S κ) : w'.heap[W]? = some (.cells #[.pointer (some ⟨x, 0, none⟩), .pointer (some ⟨y, 0, none⟩), .pointer (some ⟨B, 0, none⟩)] 48 (0, 0)) ∧ (col' W).1 = 4 :=
  ⟨hf.block h.wb (hS _ h.cW), by rw [hf.colB h.wb]; exact h.cW⟩
/-- The program has been called. -/
theorem GSt.byPrg (h : GSt Z w col W x y B M KR KP cR cP) {KP' : PrK} {cP' : Clu} (hf : FrC (ofOwn 2) col col' w w') (hp : PrgAt w' col' 2 x KP' cP') : GSt Z w' col' W x y B M KR KP' cR cP' := by
  obtain ⟨va, es, hk⟩ := h.bk
  have hn : ∀ κ : Nat × Nat, κ.1 ≠ 2 → ¬ ofOwn 2 κ := fun κ e e' => e e'
  obtain ⟨h1, h2⟩ := h.wK hf (fun κ e => hn κ (by omega))
  exact ⟨h.old.kept hf (fun κ e => hn κ (by omega)), h.tab.kept hf (hn _ (by decide)), h.ref.kept hf (fun k => hn _ (by show (1 : Nat) ≠ 2; decide)), hp, h1, h2, va, es, hk.kept hf (fun κ e => hn κ (by omega))⟩
/-- The document has been called. -/
theorem GSt.byRef (h : GSt Z w col W x y B M KR KP cR cP) {KR' : RefC} {cR' : Clu} (hf : FrC (ofOwner 1) col col' w w') (hp : RefAt w' col' 1 y KR' cR') : GSt Z w' col' W x y B M KR' KP cR' cP := by
  obtain ⟨va, es, hk⟩ := h.bk
  have hn : ∀ κ : Nat × Nat, κ.1 ≠ 1 → ¬ ofOwner 1 κ := fun κ e e' => e e'
  obtain ⟨h1, h2⟩ := h.wK hf (fun κ e => hn κ (by omega))
  exact ⟨h.old.kept hf (fun κ e => hn κ (by omega)), h.tab.kept hf (hn _ (by decide)), hp, h.prg.kept hf (fun k => hn _ (by show (2 : Nat) ≠ 1; decide)), h1, h2, va, es, hk.kept hf (fun κ e => hn κ (by omega))⟩
/-- The book has been called. -/
theorem GSt.book (h : GSt Z w col W x y B M KR KP cR cP) {M' : Nat} {va : Nat → Value} {es : Nat → List (Value × Int)} (hf : FrC (ofOwn 3) col col' w w') (hk : BkC w' col' B M' va es) : GSt Z w' col' W x y B M' KR KP cR cP := by
  have hn : ∀ κ : Nat × Nat, κ.1 ≠ 3 → ¬ ofOwn 3 κ := fun κ e e' => e e'
  obtain ⟨h1, h2⟩ := h.wK hf (fun κ e => hn κ (by omega))
  exact ⟨h.old.kept hf (fun κ e => hn κ (by omega)), h.tab.kept hf (hn _ (by decide)), h.ref.kept hf (fun k => hn _ (by show (1 : Nat) ≠ 3; decide)), h.prg.kept hf (fun k => hn _ (by show (2 : Nat) ≠ 3; decide)), h1, h2, va, es, hk⟩
theorem GSt.looks (h : GSt Z w col W x y B M KR KP cR cP) (hM : M ≤ 15000000) :
    Calls Tryz.prog 14 #[.pointer (some ⟨B, 0, none⟩)] w fun e w' => e = .returned (.bool true) ∧ Below w.heap.size w w' := by
  obtain ⟨va, es, hk⟩ := h.bk
  exact looks4_any B va es w hk.bk (fun f hf => by have := hk.len f hf; omega)
end
end Go.Proofs.YtahdlejgjcjeoaaGreatDoor
