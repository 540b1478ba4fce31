/- The document's cluster: a record is torn, or kept whole, at the end of the log. -/
import Derived.Test.YtahdlejgjcjeoaaGreatDoorP38
import Derived.Test.YtahdlejgjcjeoaaGreatDoorP40
import Derived.Test.YtahdlejgjcjeoaaGreatDoorP32
import Derived.Test.YtahdlejgjcjeoaaGreatDoorP37
namespace Go.Proofs.YtahdlejgjcjeoaaGreatDoor
open Go.RowKit
set_option maxRecDepth 100000 in
theorem spoken_none (a : Int) (w : World) (_h1 : -9223372036854775808 ≤ a) (_h2 : a ≤ 9223372036854775807) :
    Calls Tryz.prog 77 #[.int .i64 a, .int .i64 0] w fun e w' => ∃ k, e = .returned (.int .i64 k) ∧ w' = w := by
  by_cases h : a < 0
  · go_enter Tryz.func77, Tryz.ntmps77
    go_wp2
    go_ret
    exact ⟨a, rfl, rfl⟩
  · go_enter Tryz.func77, Tryz.ntmps77
    go_wp2
    go_ret
    first | exact ⟨⟨_, rfl⟩, rfl⟩ | exact ⟨_, rfl, rfl⟩
section
variable {Z w w' : World} {W x y B M M' N : Nat} {U : List At} {c : Clu}
theorem has_none (hnet : c.net = []) (k : Int) : c.has k = false := by unfold Clu.has; rw [hnet]; simp
theorem netErr_none (hnet : c.net = []) (k : Int) : c.netErr k = 10 := by unfold Clu.netErr; rw [has_none hnet]; rfl
theorem Gm.net42 (h : Gm Z w W x y B M c) (hnet : c.net = []) : ∃ R n ad cap, ClAt w x R n n ∧ w.cell? ⟨x, 42, none⟩ = some (.slice ad 0 cap) := by
  obtain ⟨col, KR, KP, g⟩ := h
  obtain ⟨ad, cap, hv, _⟩ := g.prg.at_.net.form
  have c42 := g.prg.at_.cl.2.2.2.2.2.1
  have hl : KP.ns.length = 0 := by rw [← List.length_map (f := _), g.prg.is.nets, hnet]; rfl
  rw [hv, hl] at c42
  exact ⟨KP.R, _, ad, cap, g.prg.at_.clAt g.prg.is.lk, c42⟩
theorem Gm.pDeliver (h : Gm Z w W x y B M c) (hnet : c.net = []) (k : Int) :
    Calls Tryz.prog 78 #[.pointer (some ⟨x, 0, none⟩), .int .i64 k] w fun e w' => e = .returned (.int .i64 10) ∧ Gm Z w' W x y B M c := by
  obtain ⟨R, n, ad, cap, h1, h2⟩ := h.net42 hnet
  exact (prgDeliver_no x R n n k w h1 ad 0 cap h2 (by omega)).mono fun e w' ⟨e1, hb⟩ => ⟨e1, h.same hb⟩
theorem Gm.pDrop (h : Gm Z w W x y B M c) (hnet : c.net = []) (k : Int) :
    Calls Tryz.prog 80 #[.pointer (some ⟨x, 0, none⟩), .int .i64 k] w fun e w' => e = .returned (.int .i64 10) ∧ Gm Z w' W x y B M c := by
  obtain ⟨R, n, ad, cap, h1, h2⟩ := h.net42 hnet
  exact (prgDrop_no x R n n k w h1 ad 0 cap h2 (by omega)).mono fun e w' ⟨e1, hb⟩ => ⟨e1, h.same hb⟩
theorem Gm.pCopy (h : Gm Z w W x y B M c) (hnet : c.net = []) (k : Int) :
    Calls Tryz.prog 82 #[.pointer (some ⟨x, 0, none⟩), .int .i64 k] w fun e w' => e = .returned (.int .i64 10) ∧ Gm Z w' W x y B M c := by
  obtain ⟨R, n, ad, cap, h1, h2⟩ := h.net42 hnet
  exact (prgCopy_no x R n n k w h1 ad 0 cap h2 (by omega)).mono fun e w' ⟨e1, hb⟩ => ⟨e1, h.same hb⟩
theorem Gm.dDeliver (h : Gm Z w W x y B M c) (hok : c.ok U N) (hL : Lim U N) (hnet : c.net = []) (k : Int) :
    Calls Tryz.prog 79 #[.pointer (some ⟨y, 0, none⟩), .int .i64 k] w fun e w' => e = .returned (.int .i64 10) ∧ Gm Z w' W x y B M c := by
  obtain ⟨col, KR, KP, g⟩ := h
  have hc : c.deliver k = c := by unfold Clu.deliver; simp [has_none hnet]
  have := refDeliver g.ref hok hL k
  rw [hc, netErr_none hnet] at this
  exact this.mono fun e w' ⟨h1, K', col', h2, h3⟩ => ⟨h1, col', K', KP, g.byRef h3.out h2.out⟩
theorem Gm.dDrop (h : Gm Z w W x y B M c) (hok : c.ok U N) (hnet : c.net = []) (k : Int) :
    Calls Tryz.prog 81 #[.pointer (some ⟨y, 0, none⟩), .int .i64 k] w fun e w' => e = .returned (.int .i64 10) ∧ Gm Z w' W x y B M c := by
  obtain ⟨col, KR, KP, g⟩ := h
  have hc : c.dropF k = c := by unfold Clu.dropF; simp [has_none hnet]
  have := refDropF g.ref hok k
  rw [hc, netErr_none hnet] at this
  exact this.mono fun e w' ⟨h1, K', col', h2, h3⟩ => ⟨h1, col', K', KP, g.byRef h3.out h2.out⟩
theorem Gm.dCopy (h : Gm Z w W x y B M c) (hok : c.ok U N) (hnet : c.net = []) (k : Int) :
    Calls Tryz.prog 83 #[.pointer (some ⟨y, 0, none⟩), .int .i64 k] w fun e w' => e = .returned (.int .i64 10) ∧ Gm Z w' W x y B M c := by
  obtain ⟨col, KR, KP, g⟩ := h
  have hc : c.copyF k = c := by unfold Clu.copyF; simp [has_none hnet]
  have := refCopyF g.ref hok k
  rw [hc, netErr_none hnet] at this
  exact this.mono fun e w' ⟨h1, K', col', h2, h3⟩ => ⟨h1, col', K', KP, g.byRef h3.out h2.out⟩
theorem Gm.dFlight0 (h : Gm Z w W x y B M c) (hnet : c.net = []) :
    Calls Tryz.prog 40 #[.pointer (some ⟨y, 0, none⟩)] w fun e w' => e = .returned (.int .i64 0) ∧ w' = w := by
  have := h.dFlight
  rw [hnet] at this
  exact this
set_option maxRecDepth 100000 in
set_option maxHeartbeats 1000000 in
theorem Gm.lNet (h : Gm Z w W x y B M c) (hok : c.ok U N) (hL : Lim U N) (hnet : c.net = []) (hM : M ≤ 15000000) (a : ActV) (h1 : -9223372036854775808 ≤ a.n) (h2 : a.n ≤ 9223372036854775807) :
    Calls Tryz.prog 36 #[.pointer (some ⟨W, 0, none⟩), a.val] w fun e w' => e = .returned (.bool true) ∧ Gm Z w' W x y B (M + 36) c := by
  obtain ⟨k, r, q, n, ⟨ty, ky, sd, el, on⟩, key⟩ := a
  have hA : ∀ W', Below w.heap.size w W' → Gm Z W' W x y B M c := fun W' hb => h.same hb
  have HA := Hid.mk hA
  have HFL := Hid.mk (fun W' hb => (hA W' hb).dFlight0 hnet)
  have HSP := Hid.mk (fun W' => spoken_none n W' h1 h2)
  have HPK := Hid.mk (fun W' => pick_any n 20 W' h1 h2 (by decide) (by decide))
  have c0 := h.cell0
  have c1 := h.cell1
  have hlt : W < w.heap.size := by obtain ⟨col, KR, KP, g⟩ := h; exact blk_lt g.wb
  have HK := Hid.mk hok
  have HLM := Hid.mk hL
  have HNT := Hid.mk hnet
  clear hA h hok hL hnet
  show Calls Tryz.prog 36 #[.pointer (some ⟨W, 0, none⟩), .agg #[.int .i64 k, .int .i64 r, .int .i64 q, .int .i64 n, .int .i64 ty, .string ky, .int .i64 sd, .string el, .int .i64 on, .string key]] w _
  by_cases k7 : k = 7
  · subst k7
    go_enter Tryz.func36, Tryz.ntmps36
    go_wp2_with fail
    go_region_law (first | (go_simp; go_at_call 40; refine (HFL.out _ (by first | exact below_alloc (Below.refl _ _) _ | exact (below_alloc (Below.refl _ _) _).drew)).mono ?_; rintro e w1 ⟨rfl, rfl⟩) | (go_simp; go_at_call 77; refine (HSP.out _).mono ?_; rintro e w2 ⟨kk, rfl, rfl⟩) | fail)
    all_goals
      go_wp2_with fail
      refine ((HA.out _ (by first | exact below_alloc (Below.refl _ _) _ | exact (below_alloc (Below.refl _ _) _).drew)).pDeliver HNT.out kk).mono ?_
      rintro e w3 ⟨rfl, h3⟩
      have H3 := Hid.mk h3
      have c1 := h3.cell1
      clear h3
      go_wp2_with fail
      refine (H3.out.dDeliver HK.out HLM.out HNT.out kk).mono ?_
      rintro e w4 ⟨rfl, h4⟩
      have H4 := Hid.mk h4
      clear h4
      go_wp2
      go_ret
      exact ⟨rfl, H4.out.mono (by omega)⟩
  by_cases k8 : k = 8
  · subst k8
    go_enter Tryz.func36, Tryz.ntmps36
    go_wp2_with fail
    go_region_law (first | (go_simp; go_at_call 40; refine (HFL.out _ (by first | exact below_alloc (Below.refl _ _) _ | exact (below_alloc (Below.refl _ _) _).drew)).mono ?_; rintro e w1 ⟨rfl, rfl⟩) | (go_simp; go_at_call 77; refine (HSP.out _).mono ?_; rintro e w2 ⟨kk, rfl, rfl⟩) | fail)
    all_goals
      go_wp2_with fail
      refine ((HA.out _ (by first | exact below_alloc (Below.refl _ _) _ | exact (below_alloc (Below.refl _ _) _).drew)).pDrop HNT.out kk).mono ?_
      rintro e w3 ⟨rfl, h3⟩
      have H3 := Hid.mk h3
      have c1 := h3.cell1
      clear h3
      go_wp2_with fail
      refine (H3.out.dDrop HK.out HNT.out kk).mono ?_
      rintro e w4 ⟨rfl, h4⟩
      have H4 := Hid.mk h4
      clear h4
      go_wp2
      go_ret
      exact ⟨rfl, H4.out.mono (by omega)⟩
  by_cases k9 : k = 9
  · subst k9
    go_enter Tryz.func36, Tryz.ntmps36
    go_wp2_with fail
    go_region_law (first | (go_simp; go_at_call 40; refine (HFL.out _ (by first | exact below_alloc (Below.refl _ _) _ | exact (below_alloc (Below.refl _ _) _).drew)).mono ?_; rintro e w1 ⟨rfl, rfl⟩) | (go_simp; go_at_call 77; refine (HSP.out _).mono ?_; rintro e w2 ⟨kk, rfl, rfl⟩) | fail)
    all_goals
      go_wp2_with fail
      refine ((HA.out _ (by first | exact below_alloc (Below.refl _ _) _ | exact (below_alloc (Below.refl _ _) _).drew)).pCopy HNT.out kk).mono ?_
      rintro e w3 ⟨rfl, h3⟩
      have H3 := Hid.mk h3
      have c1 := h3.cell1
      clear h3
      go_wp2_with fail
      refine (H3.out.dCopy HK.out HNT.out kk).mono ?_
      rintro e w4 ⟨rfl, h4⟩
      have H4 := Hid.mk h4
      clear h4
      go_wp2
      go_ret
      exact ⟨rfl, H4.out.mono (by omega)⟩
  by_cases k12 : k = 12
  · subst k12
    go_enter Tryz.func36, Tryz.ntmps36
    go_wp2_with fail
    go_region_law (first | (go_simp; go_at_call 40; refine (HFL.out _ (by first | exact below_alloc (Below.refl _ _) _ | exact (below_alloc (Below.refl _ _) _).drew)).mono ?_; rintro e w1 ⟨rfl, rfl⟩) | (go_simp; go_at_call 77; refine (HSP.out _).mono ?_; rintro e w2 ⟨kk, rfl, rfl⟩) | fail)
    all_goals
      go_wp2_with fail
      refine ((HA.out _ (by first | exact below_alloc (Below.refl _ _) _ | exact (below_alloc (Below.refl _ _) _).drew)).lFrame HK.out HNT.out hM kk).mono ?_
      rintro e w3 ⟨rfl, h3⟩
      have H3 := Hid.mk h3
      clear h3
      go_wp2
      go_ret
      exact ⟨rfl, H3.out.mono (by omega)⟩
  by_cases k10 : k = 10
  · subst k10
    go_enter Tryz.func36, Tryz.ntmps36
    go_wp2_with fail
    go_region_law (first | (go_simp; go_at_call 40; refine (HFL.out _ (by first | exact below_alloc (Below.refl _ _) _ | exact (below_alloc (Below.refl _ _) _).drew)).mono ?_; rintro e w1 ⟨rfl, rfl⟩) | (go_simp; go_at_call 77; refine (HSP.out _).mono ?_; rintro e w2 ⟨kk, rfl, rfl⟩) | fail)
    all_goals
      go_wp2
      go_loopw [6, 7, 8] (fun s6 s7 s8 wr => s6 = .int .i64 0 ∧ s7 = .int .i64 0 ∧ s8 = .int .i64 0 ∧ wr.cell? ⟨w.heap.size, 3, none⟩ = some (.int .i64 n) ∧ Hid (Gm Z wr W x y B M c)) (fun _ _ _ _ => 0)
      case atStart => exact ⟨rfl, rfl, rfl, (blk_cell (w := w.alloc _) (heap_alloc_new w _) 3).trans rfl, HA.out _ (by first | exact below_alloc (Below.refl _ _) _ | exact (below_alloc (Below.refl _ _) _).drew)⟩
      case round =>
        obtain ⟨rfl, rfl, rfl, ca, hg⟩ := hrel
        have c1 := hg.out.cell1
        have HF2 := Hid.mk (hg.out.dFlight0 HNT.out)
        go_wp2_with fail
        refine (HPK.out _).mono ?_
        rintro e w5 ⟨rr, rfl, hr2, rfl⟩
        have q1 : (0 : Int) ≤ rr := hr2.1
        clear hr2
        go_wp2_with fail
        refine HF2.out.mono ?_
        rintro e w6 ⟨rfl, rfl⟩
        go_wp2
        go_ret
        exact ⟨rfl, hg.out.mono (by omega)⟩
  · go_enter Tryz.func36, Tryz.ntmps36
    go_wp2_with fail
    go_region_law (first | (go_simp; go_at_call 40; refine (HFL.out _ (by first | exact below_alloc (Below.refl _ _) _ | exact (below_alloc (Below.refl _ _) _).drew)).mono ?_; rintro e w1 ⟨rfl, rfl⟩) | (go_simp; go_at_call 77; refine (HSP.out _).mono ?_; rintro e w2 ⟨kk, rfl, rfl⟩) | fail)
    all_goals
      go_wp2
      go_ret
      exact ⟨rfl, (HA.out _ (by first | exact below_alloc (Below.refl _ _) _ | exact (below_alloc (Below.refl _ _) _).drew)).mono (by omega)⟩
end
end Go.Proofs.YtahdlejgjcjeoaaGreatDoor

namespace Go.Proofs.YtahdlejgjcjeoaaGreatDoor
open Go.RowKit

theorem compact_done {w w2 : World} {col : Col} {o i : Nat} {near : List Bool} {D : RefD} {p : Rep} {v2 : Value} (h : RefRep w col o i near D p) (hi : i < 6) (hb2 : Below w.heap.size w w2) (hown2 : w2.ownsRow w.heap.size 77 6 v2 (tell p.atoms).length (flat (tell p.atoms))) (hu : p.torn = []) :
    let w3 := w2.alloc (.cells #[.int .i64 2, .int .i64 p.num, v2, .bool false, .string ⟨#[]⟩] 144)
    (w3.cell? ⟨D.ρ, 7, none⟩ = some D.vl ∧ w3.frozen? ⟨D.ρ, 7, none⟩ = false) ∧ ∃ D' col', D'.ρ = D.ρ ∧ RefRep (w3.setCell ⟨D.ρ, 7, none⟩ (.slice (some ⟨w2.heap.size, 0, none⟩) 1 1)) col' o i near D' p.compact ∧ FrC (ofRep o i) col col' w (w3.setCell ⟨D.ρ, 7, none⟩ (.slice (some ⟨w2.heap.size, 0, none⟩) 1 1)) := by
  intro w3
  have h2 := h.below hb2 (o, 1)
  have hb3 : Below w2.heap.size w2 w3 := below_alloc (Below.refl _ w2) _
  have h3 := h2.below hb3 (o, 50 + i)
  have hH2 : Held w2 (paint col w.heap.size (o, 1)) (o, 1) v2 (tell p.atoms) := held_made rfl hown2
  have hH3 := hH2.kept (S := fun _ => False) (frC_below hb3 (o, 50 + i)) id
  have hrow : RowC w3 (paint (paint col w.heap.size (o, 1)) w2.heap.size (o, 50 + i)) (o, 50 + i) 144 5 (.slice (some ⟨w2.heap.size, 0, none⟩) 1 1) 1 ([(⟨2, p.num, v2, tell p.atoms, false, ⟨#[]⟩⟩ : Rc)].flatMap Rc.cells) :=
    ⟨⟨rfl, .inr ⟨w2.heap.size, 1, _, rfl, Nat.zero_le _, heap_alloc_new w2 _, Nat.le_refl _, by unfold maxLen; omega, rfl, rfl⟩⟩, fun q hq => by obtain rfl := own_g hq; exact paint_new _ _ (Nat.le_refl _)⟩
  have hF : FrC (ofRep o i) col (paint (paint col w.heap.size (o, 1)) w2.heap.size (o, 50 + i)) w w3 := (frC_below hb2 (o, 1)).below hb3 (o, 50 + i)
  obtain ⟨h4, hF4⟩ := h3.set (k := 7) (u := .slice (some ⟨w2.heap.size, 0, none⟩) 1 1) (D' := { D with vl := .slice (some ⟨w2.heap.size, 0, none⟩) 1 1, rs := [⟨2, p.num, v2, tell p.atoms, false, ⟨#[]⟩⟩] }) (p' := p.compact) hi rfl rfl
    { h3.toRefRest with
      log := hrow
      rcd := fun r hr => by
        obtain rfl := List.mem_singleton.1 hr
        exact hH3
      logs := ⟨_, [], (List.append_nil _).symm, fun r hr => by
        obtain rfl := List.mem_singleton.1 hr
        rfl, rfl, .inl ⟨rfl, hu⟩⟩ }
  exact ⟨⟨blk_cell h3.blk 7, blk_thaw h3.blk 7⟩, _, _, by rfl, h4, hF.trans hF4⟩

set_option maxRecDepth 100000 in
set_option maxHeartbeats 2000000 in
theorem refCompact {w : World} {col : Col} {o x N : Nat} {U : List At} {K : RefC} {c : Clu} (h : RefAt w col o x K c) (hok : c.ok U N) (hL : Lim U N) (r : Int) :
    Calls Tryz.prog 33 #[.pointer (some ⟨x, 0, none⟩), .int .i64 r] w fun e w' => e = .returned (.int .i64 (c.works r)) ∧ ∃ K' col', Hid (RefAt w' col' o x K' (c.compact r)) ∧ Hid (FrC (ofOwner o) col col' w w') := by
  have HW := refWorks h hok.n6 r
  by_cases hw : c.works r = 0
  · obtain ⟨⟨h0, hr⟩, hd⟩ := works_zero hw
    obtain ⟨n, rfl⟩ : ∃ n : Nat, r = n := ⟨r.toNat, by omega⟩
    simp only [Int.toNat_natCast] at hr hd
    obtain ⟨g, cap, D, hv, hc, hD, hp, hR⟩ := h.ptr hr
    have c5 := h.cells.2.2.2.2.2.1
    rw [hv] at c5
    have hn6 := hok.n6
    have hrep := hok.rep hr
    have HC : Hid (c.compact n = c.setRep n (c.rep n).compact) := by unfold Hid Clu.compact; rw [if_pos hw, Int.toNat_natCast]
    have HFIN : Hid (∀ w' D' col', D'.ρ = D.ρ → RefRep w' col' o n (nearRow c n) D' (c.rep n).compact → FrC (ofRep o n) col col' w w' → RefAt w' col' o x { K with Ds := K.Ds.set n D' } (c.setRep n (c.rep n).compact)) := fun w' D' col' h1 h2 h3 => h.setRep hn6 hr h3 (fun h' => by rw [ds_rho hD h']; exact h1) h2
    obtain ⟨d0, d1, d2, d3, d4, d5, d6, d7, d8, d9, hfz⟩ := hR.cells
    obtain ⟨adA, cpA, hvA, _⟩ := id hR.atoms
    rw [hvA] at d1
    have hlA : (c.rep n).atoms.length ≤ 274878038016 := Nat.le_trans hrep.alen hL.prod
    have hmA := hrep.may hok.may
    have HT : Hid (∀ W, Below w.heap.size w W → Calls Tryz.prog 72 #[.slice adA (c.rep n).atoms.length cpA] W fun e w' => ∃ ad2 cp2, e = .returned (.slice ad2 (tell (c.rep n).atoms).length cp2) ∧ Hid (w'.ownsRow W.heap.size 77 6 (.slice ad2 (tell (c.rep n).atoms).length cp2) (tell (c.rep n).atoms).length (flat (tell (c.rep n).atoms))) ∧ Below W.heap.size W w') := fun W hW => by
      refine (told_any _ (c.rep n).atoms W (by rw [← hvA]; exact hR.atoms.slice.below hW) (fun a ha => fits_of_may (hmA a ha)) (by omega)).mono ?_
      rintro e w' ⟨v', out, rfl, hown, hto, hb⟩
      obtain rfl : out = tell (c.rep n).atoms := hto.out.unique hmA (tell_told _)
      obtain ⟨ad, cp, rfl⟩ := own_form hown
      exact ⟨ad, cp, rfl, hown, hb⟩
    have HDN : Hid (∀ w2 v2, Below w.heap.size w w2 → w2.ownsRow w.heap.size 77 6 v2 (tell (c.rep n).atoms).length (flat (tell (c.rep n).atoms)) → _) := fun w2 v2 k1 k2 => compact_done hR (by omega) k1 k2 (hrep.tornUp hd)
    have hg : g < w.heap.size := World.block_lt_of_cell? w ⟨g, n, none⟩ hp
    have hρ := blk_lt hR.blk
    obtain ⟨adl, cpl, hvl, _⟩ := hR.log.form
    rw [hvl] at d7 HDN
    rw [hw] at HW ⊢
    clear h hok hR hw hD hv hrep hmA hvA hvl d0 d3 d4 d5 d6 d8 d9 hfz
    generalize D.ρ = ρ at *
    generalize hLL : c.reps.length = L at *
    have q1 : (n : Int) < (L : Int) := by omega
    clear hLL
    go_enter Tryz.func33, Tryz.ntmps33
    go_wp2_with fail
    refine HW.mono ?_
    rintro e w' ⟨rfl, rfl⟩
    go_wp2_with fail
    have HK2 : ∀ W, Below w'.heap.size w' W → W.cell? ⟨ρ, 2, none⟩ = some (.int .i64 (c.rep n).num) ∧ W.cell? ⟨ρ, 1, none⟩ = some (.slice adA (c.rep n).atoms.length cpA) := fun W hW => ⟨by rw [hW.cell (p := ⟨ρ, 2, none⟩) hρ]; exact d2, by rw [hW.cell (p := ⟨ρ, 1, none⟩) hρ]; exact d1⟩
    generalize hnm : (c.rep n).num = nm at *
    generalize (c.rep n).atoms.length = nA at *
    generalize htl : tell (c.rep n).atoms = TL at *
    clear hnm htl
    have HST : ∀ (W : World) (u : Value), W.cell? ⟨ρ, 2, none⟩ = some (.int .i64 nm) ∧ W.cell? ⟨ρ, 1, none⟩ = some (.slice adA nA cpA) → (W.setCell ⟨ρ, 7, none⟩ u).cell? ⟨ρ, 2, none⟩ = some (.int .i64 nm) ∧ (W.setCell ⟨ρ, 7, none⟩ u).cell? ⟨ρ, 1, none⟩ = some (.slice adA nA cpA) := fun W u hh => ⟨(World.cell?_setCell_other _ _ _ _ (by intro e; cases e)).trans hh.1, (World.cell?_setCell_other _ _ _ _ (by intro e; cases e)).trans hh.2⟩
    go_region_held3 (fun W => W.cell? ⟨ρ, 2, none⟩ = some (.int .i64 nm) ∧ W.cell? ⟨ρ, 1, none⟩ = some (.slice adA nA cpA)) (first | exact HK2 _ (Below.refl _ _).drew | exact HK2 _ ((Below.refl _ _).drew.trans hb2) | exact HK2 _ (below_alloc ((Below.refl _ _).drew.trans hb2) _) | exact HST _ _ (by assumption) | go_keep) (first | (go_at_call 72; refine (HT.out _ (Below.refl _ _).drew).mono ?_; rintro e w2 ⟨ad2, cp2, rfl, hown2, hb2⟩; obtain ⟨⟨k7, l7⟩, D3, col3, hρ3, hR3, hF3⟩ := HDN.out w2 _ ((Below.refl _ w').drew.trans hb2) hown2.out) | fail)
    go_wp2
    go_ret
    exact ⟨rfl, _, col3, by rw [HC.out]; exact HFIN.out _ _ _ hρ3 hR3 hF3, hF3.mono ofRep_owner⟩
  · have HC : Hid (c.compact r = c) := by unfold Hid Clu.compact; rw [if_neg hw]
    generalize c.works r = cd at *
    go_enter Tryz.func33, Tryz.ntmps33
    go_wp2_with fail
    refine HW.mono ?_
    rintro e w' ⟨rfl, rfl⟩
    go_wp2
    go_ret
    exact ⟨rfl, K, col, by rw [HC.out]; exact h, FrC.refl _ _ _⟩

end Go.Proofs.YtahdlejgjcjeoaaGreatDoor

namespace Go.Proofs.YtahdlejgjcjeoaaGreatDoor
open Go.RowKit

/-- Behind an append of a torn record to the log, and its storing; the model is down already. -/
theorem RefRepB.pushTorn {w1 w2 w3 : World} {col : Col} {o i g cap H : Nat} {near : List Bool} {D : RefD} {p : Rep} {r : Rc} {dn : Bool} {t : List UInt8} (h : RefRepB w1 col o i near D p dn) (hi : i < 6) (hu : p.down = true) (hnt : ∀ q ∈ D.rs, q.torn = false) (hb : Below w1.heap.size w1 w2)
    (hown : w3.ownsRow 0 144 5 (.slice (some ⟨g, 0, none⟩) (D.rs.length + 1) cap) (D.rs.length + 1) (D.rs.flatMap Rc.cells ++ r.cells)) (hg : w2.grownBy w3 D.vl.ownBlock) (hat : D.vl.ownBlock = some g ∨ g = H) (hH : w1.heap.size ≤ H) (hd : Held w1 col (o, 1) r.v r.d) (ht : r.torn = true) (hbs : r.bytes = bstr t) :
    (w3.cell? ⟨D.ρ, 7, none⟩ = some D.vl ∧ w3.frozen? ⟨D.ρ, 7, none⟩ = false) ∧ RefRepB (w3.setCell ⟨D.ρ, 7, none⟩ (.slice (some ⟨g, 0, none⟩) (D.rs.length + 1) cap)) (paint col w1.heap.size (o, 50 + i)) o i near { D with vl := .slice (some ⟨g, 0, none⟩) (D.rs.length + 1) cap, rs := D.rs ++ [r] } { p with torn := t } dn ∧ FrC (ofRep o i) col (paint col w1.heap.size (o, 50 + i)) w1 (w3.setCell ⟨D.ρ, 7, none⟩ (.slice (some ⟨g, 0, none⟩) (D.rs.length + 1) cap)) := by
  obtain ⟨hr3, hf3⟩ := h.log.lies hb hown hg hat hH
  have ne : ∀ j, j ≠ 50 + i → ¬ ((o, j) = (o, 50 + i)) := fun j hj e => hj (congrArg Prod.snd e)
  have hblk := hf3.block h.blk (by rw [h.cρ]; exact ne _ (by omega))
  have hρ : paint col w1.heap.size (o, 50 + i) D.ρ = (o, 10 + i) := (hf3.colB h.blk).trans h.cρ
  have f4 : FrC (fun x => x = (o, 50 + i) ∨ x = (o, 10 + i)) col (paint col w1.heap.size (o, 50 + i)) w1 (w3.setCell ⟨D.ρ, 7, none⟩ (.slice (some ⟨g, 0, none⟩) (D.rs.length + 1) cap)) := (hf3.mono fun x e => .inl e).trans (frC_setCell (S := fun x => x = (o, 50 + i) ∨ x = (o, 10 + i)) 7 _ (.inr hρ))
  have f5 : FrC (fun x => x = (o, 10 + i)) (paint col w1.heap.size (o, 50 + i)) (paint col w1.heap.size (o, 50 + i)) w3 (w3.setCell ⟨D.ρ, 7, none⟩ (.slice (some ⟨g, 0, none⟩) (D.rs.length + 1) cap)) := frC_setCell (S := fun x => x = (o, 10 + i)) 7 _ hρ
  have n4 : ∀ j, j ≠ 50 + i → j ≠ 10 + i → ¬ ((o, j) = (o, 50 + i) ∨ (o, j) = (o, 10 + i)) := fun j h1 h2 e => by
    rcases e with e | e
    · exact h1 (congrArg Prod.snd e)
    · exact h2 (congrArg Prod.snd e)
  have hrest := h.toRefRest
  refine ⟨⟨blk_cell hblk 7, blk_thaw hblk 7⟩, { atoms := hrest.atoms.kept f4 (n4 _ (by omega) (by omega)), taken := hrest.taken.kept f4 (n4 _ (by omega) (by omega)), tkd := fun t ht => (hrest.tkd t ht).kept f4 (n4 _ (by omega) (by omega)), tsl := hrest.tsl, buf := hrest.buf, near := hrest.near.kept f4 (n4 _ (by omega) (by omega)), acked := hrest.acked.kept f4 (n4 _ (by omega) (by omega)), log := ?_, rcd := fun q hq => ?_, logs := ?_, blk := heap_set (o := 7) hblk _, cρ := hρ }, f4.mono fun x e => ?_⟩
  · show RowC _ _ _ _ 5 _ (D.rs ++ [r]).length ((D.rs ++ [r]).flatMap Rc.cells)
    rw [List.length_append, List.flatMap_append]
    simpa using hr3.kept f5 (fun e => by have := congrArg Prod.snd e; simp only at this; omega)
  · rcases List.mem_append.1 hq with hq | hq
    · exact (hrest.rcd q hq).kept f4 (n4 _ (by omega) (by omega))
    · obtain rfl := List.mem_singleton.1 hq
      exact hd.kept f4 (n4 _ (by omega) (by omega))
  · obtain ⟨A, B, e, hA, hm, hB⟩ := hrest.logs
    obtain rfl : B = [] := by
      rcases hB with ⟨hB, _⟩ | ⟨q, hq, h2, _⟩
      · exact hB
      · have := hnt q (by rw [e, hq]; simp)
        rw [h2] at this
        cases this
    exact ⟨A, [r], by show D.rs ++ [r] = _; rw [e]; simp, hA, hm, .inr ⟨r, rfl, ht, hbs, hu⟩⟩
  · rcases e with e | e
    · rw [e]; exact ofRep_row hi (k := 5) (by omega)
    · rw [e]; exact ofRep_row hi (k := 1) (by omega)
/-- While a replica is up no record of its log is torn. -/
theorem LogIs.whole {rs : List Rc} {p : Rep} (h : LogIs rs p) (hu : p.down = false) : ∀ r ∈ rs, r.torn = false := by
  obtain ⟨A, B, rfl, hA, _, hB⟩ := h
  rcases hB with ⟨rfl, _⟩ | ⟨_, _, _, _, h5⟩
  · simpa using hA
  · rw [hu] at h5
    cases h5

end Go.Proofs.YtahdlejgjcjeoaaGreatDoor

namespace Go.Proofs.YtahdlejgjcjeoaaGreatDoor
open Go.RowKit

/-- What Torn writes: the first bytes of the record, or all of it. -/
def TornAs (S : List UInt8) (keep : Int) (b : Bool) (t : ByteArray) : Prop := (b = true ∧ keep < S.length ∧ t = bstr (S.take keep.toNat)) ∨ (b = false ∧ ¬ keep < S.length ∧ t = ⟨#[]⟩)

theorem RefRep.toB' {w : World} {col : Col} {o i : Nat} {near : List Bool} {D : RefD} {p : Rep} {d : Bool} (h : RefRep w col o i near D p) (e : p.down = d) : RefRepB w col o i near D p d := by
  subst e
  exact h.toB

theorem pushTear {w w4 : World} {col : Col} {o m ql : Nat} {near : List Bool} {D : RefD} {p : Rep} {a : At} {S : List UInt8} {keep : Int} {b : Bool} {t : ByteArray} {e : TypeId} (hR : RefRep w col o m near D p) (hm : m < 6) (hu : p.down = false) (hb4 : Below w.heap.size w w4) (hql : w.heap.size ≤ ql)
    (hbl : w4.heap[ql]? = some (.cells #[.int .i64 a.ty, .string a.key, .int .i64 a.side, .int .i64 a.who, .string a.elem, .int .i64 a.n] e (0, 0))) (hS : recBytes ⟨1, p.num + 1, [a]⟩ = S) (hbt : TornAs S keep b t) (g cap : Nat) (w5 : World)
    (hown : w5.ownsRow 0 144 5 (.slice (some ⟨g, 0, none⟩) (D.rs.length + 1) cap) (D.rs.length + 1) (D.rs.flatMap Rc.cells ++ [.int .i64 1, .int .i64 ((p.num : Int) + 1), .slice (some ⟨ql, 0, none⟩) 1 1, .bool b, .string t])) (w2 : World) (h2 : Below w4.heap.size w4 w2) (hg : w2.grownBy w5 D.vl.ownBlock) (hat : D.vl.ownBlock = some g ∨ g = w4.heap.size + 1) :
    (w5.cell? ⟨D.ρ, 7, none⟩ = some D.vl ∧ w5.frozen? ⟨D.ρ, 7, none⟩ = false) ∧ ∃ D' col' p', D'.ρ = D.ρ ∧ RefRepB (w5.setCell ⟨D.ρ, 7, none⟩ (.slice (some ⟨g, 0, none⟩) (D.rs.length + 1) cap)) col' o m near D' p' false ∧ p'.fall = (p.tear [a] keep).fall ∧ p'.acked = p.acked ∧ FrC (ofRep o m) col col' w (w5.setCell ⟨D.ρ, 7, none⟩ (.slice (some ⟨g, 0, none⟩) (D.rs.length + 1) cap)) := by
  have hR4 := hR.below hb4 (o, 1)
  have hF4 : FrC (ofRep o m) col (paint col w.heap.size (o, 1)) w w4 := frC_below hb4 (o, 1)
  have hH : Held w4 (paint col w.heap.size (o, 1)) (o, 1) (.slice (some ⟨ql, 0, none⟩) 1 1) [a] := ⟨_, 1, rfl, Nat.le_refl _, fun _ => ⟨ql, 0, rfl, blk_lt hbl, paint_new col _ hql, fun k hk => by
    obtain rfl : k = 0 := by simp at hk; omega
    exact cellsAt_block6 hbl⟩⟩
  rcases hbt with ⟨rfl, hk, rfl⟩ | ⟨rfl, hk, rfl⟩
  · have hL4 := hR4.logs.whole hu
    have hlg : LogIs D.rs { p with down := true } := by
      obtain ⟨A, B, e, hA, hmm, hB⟩ := hR4.logs
      refine ⟨A, B, e, hA, hmm, ?_⟩
      rcases hB with hB | ⟨r, h1, h2, h3, h4⟩
      · exact .inl hB
      · exact .inr ⟨r, h1, h2, h3, rfl⟩
    have hB4 : RefRepB w4 (paint col w.heap.size (o, 1)) o m near D { p with down := true } false := { hR4.toRefRest with logs := hlg, blk := by rw [hR4.blk]; simp [RefD.block, RefD.blockB, hu], cρ := hR4.cρ }
    obtain ⟨c7, hB5, hF5⟩ := RefRepB.pushTorn (r := ⟨1, p.num + 1, .slice (some ⟨ql, 0, none⟩) 1 1, [a], true, bstr (S.take keep.toNat)⟩) hB4 hm rfl hL4 h2 hown hg hat (Nat.le_succ _) hH rfl rfl
    refine ⟨c7, _, _, _, by rfl, hB5, ?_, by rfl, hF4.trans hF5⟩
    unfold Rep.tear
    rw [hS, if_pos hk]
    rfl
  · obtain ⟨c7, hB5, hF5⟩ := RefRep.pushLog (r := ⟨1, p.num + 1, .slice (some ⟨ql, 0, none⟩) 1 1, [a], false, ⟨#[]⟩⟩) hR4 hm hu h2 hown hg hat (Nat.le_succ _) hH rfl
    refine ⟨c7, _, _, _, by rfl, hB5.toB' hu, ?_, by rfl, hF4.trans hF5⟩
    unfold Rep.tear
    rw [hS, if_neg hk]
    rfl
/-- Two cells of a record are written. -/
theorem torn_world {w w3 : World} {qd ql : Nat} {a b c d e : Value} {t t' : TypeId} {l : Array Value} (h : w3.heap[qd]? = some (.cells #[a, b, c, d, e] t (0, 0))) (hl : w3.heap[ql]? = some (.cells l t' (0, 0))) (hne : qd ≠ ql) (hb : Below w.heap.size w w3) (hq : w.heap.size ≤ qd) (u v : Value) :
    ((w3.setCell ⟨qd, 3, none⟩ u).setCell ⟨qd, 4, none⟩ v).heap[qd]? = some (.cells #[a, b, c, u, v] t (0, 0)) ∧ ((w3.setCell ⟨qd, 3, none⟩ u).setCell ⟨qd, 4, none⟩ v).heap[ql]? = some (.cells l t' (0, 0)) ∧ Below w.heap.size w ((w3.setCell ⟨qd, 3, none⟩ u).setCell ⟨qd, 4, none⟩ v) := by
  refine ⟨(heap_set (o := 4) (heap_set (o := 3) h u) v).trans (by simp), ?_, (hb.grown (grown_setCell w3 _ u) hb.size (fun k hk => by cases hk; exact hq)).grown (grown_setCell _ _ v) (by rw [show (w3.setCell ⟨qd, 3, none⟩ u).heap.size = w3.heap.size by simp [World.setCell]]; exact hb.size) (fun k hk => by cases hk; exact hq)⟩
  rw [Below.heap_setCell _ _ _ _ (fun e => hne e.symm), Below.heap_setCell _ _ _ _ (fun e => hne e.symm)]
  exact hl
end Go.Proofs.YtahdlejgjcjeoaaGreatDoor
