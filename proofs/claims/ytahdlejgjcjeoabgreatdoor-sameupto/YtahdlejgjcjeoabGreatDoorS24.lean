/- The program's Send: what a frame brings. -/
import Derived.Test.YtahdlejgjcjeoabGreatDoorS23
import Derived.Deep.Cut
import Derived.Test.YtahdlejgjcjeoabGreatDoorS05
import Derived.Test.YtahdlejgjcjeoabGreatDoorS22
namespace Go.Proofs.YtahdlejgjcjeoabGreatDoor
open Go.RowKit Go.MuLone

theorem PrK.is.setN {K : PrK} {c : Clu} {v : Value} {ns : List Fm} {net : List Frm} (h : K.is c) (hn : ns.map Fm.f = net) : (K.setN v ns).is { c with net := net } where
  lk := h.lk
  bp := h.bp
  rr := h.rr
  room := h.room
  near := h.near
  len := h.len
  nets := hn
  reps := h.reps
theorem map_erase (ns : List Fm) (k : Nat) : (ns.eraseIdx k).map Fm.f = (ns.map Fm.f).eraseIdx k := by
  induction ns generalizing k with
  | nil => rfl
  | cons a l ih => cases k with
    | zero => rfl
    | succ k => simp [ih]
theorem PrgAt.lenN {w : World} {col : Col} {o x : Nat} {K : PrK} {c : Clu} (h : PrgAt w col o x K c) : K.ns.length = c.net.length := by rw [← h.is.nets, List.length_map]
theorem netErr_no {c : Clu} {k : Int} (hk : ¬ (0 ≤ k ∧ k < c.net.length)) : c.netErr k = 10 ∧ c.dropF k = c ∧ c.copyF k = c ∧ c.deliver k = c := by
  have : c.has k = false := by unfold Clu.has; exact decide_eq_false hk
  simp [Clu.netErr, Clu.dropF, Clu.copyF, Clu.deliver, this]
theorem netErr_yes {c : Clu} {k : Nat} (hk : k < c.net.length) : c.netErr k = 0 ∧ c.dropF k = c.out k ∧ c.copyF k = c.put (c.frm k) ∧ c.deliver k = (c.out k).arrived (c.frm k) := by
  have : c.has k = true := by unfold Clu.has; exact decide_eq_true (by omega)
  simp [Clu.netErr, Clu.dropF, Clu.copyF, Clu.deliver, this]
theorem put_putN (c : Clu) (f : Frm) : c.put f = { c with net := putN c.net f } := by
  unfold Clu.put putN
  split <;> rfl
/-- The lock taken. -/
theorem PrgAt.locked {w : World} {col : Col} {o x : Nat} {K : PrK} {c : Clu} (h : PrgAt w col o x K c) : PrAt (w.setCell ⟨x, 0, none⟩ (.int .i32 1)) col o x { K with lk := 1 } ∧ FrC (ofOwn o) col col w (w.setCell ⟨x, 0, none⟩ (.int .i32 1)) := by
  obtain ⟨h1, h2⟩ := h.at_.lock 1
  exact ⟨h1, h2.mono ofOwn_lock⟩

set_option maxRecDepth 100000 in
set_option maxHeartbeats 2000000 in
theorem prgDropF {w : World} {col : Col} {o x N : Nat} {U : List At} {K : PrK} {c : Clu} (h : PrgAt w col o x K c) (hok : c.ok U N) (k : Int) :
    Calls Tryz.prog 13 #[.pointer (some ⟨x, 0, none⟩), .int .i64 k] w fun e w' => e = .returned (.int .i64 (c.netErr k)) ∧ ∃ K' col', Hid (PrgAt w' col' o x K' (c.dropF k)) ∧ Hid (FrC (ofOwn o) col col' w w') := by
  have hcl := h.at_.clAt h.is.lk
  by_cases hk : 0 ≤ k ∧ k < c.net.length
  · obtain ⟨m, rfl⟩ : ∃ m : Nat, k = m := ⟨k.toNat, by omega⟩
    have hm : m < c.net.length := by omega
    obtain ⟨e1, e2, -, -⟩ := netErr_yes hm
    rw [e1, e2]
    have hmn : m < K.ns.length := by rw [h.lenN]; exact hm
    have hl200 : K.ns.length ≤ 200 := by rw [h.lenN]; exact hok.netL
    obtain ⟨k1, k2⟩ := h.locked
    have HFR := Hid.mk (frame_yes (k := m) k1 hmn)
    have HLO := Hid.mk (fun W (hb : Below (w.setCell ⟨x, 0, none⟩ (.int .i32 1)).heap.size (w.setCell ⟨x, 0, none⟩ (.int .i32 1)) W) => prgLose (k1.same hb) hmn hl200)
    have HEND : Hid (∀ (W W' : World) (v' : Value), Below (w.setCell ⟨x, 0, none⟩ (.int .i32 1)).heap.size (w.setCell ⟨x, 0, none⟩ (.int .i32 1)) W → PrB W' col o x none (({ K with lk := 1 } : PrK).setN v' (K.ns.eraseIdx m)) → FrC (netS o) col col W W' → W'.cell? ⟨x, 0, none⟩ = some (.int .i32 1) ∧ W'.frozen? ⟨x, 0, none⟩ = false ∧ PrgAt (W'.setCell ⟨x, 0, none⟩ (.int .i32 0)) col o x (K.setN v' (K.ns.eraseIdx m)) (c.out m) ∧ FrC (ofOwn o) col col w (W'.setCell ⟨x, 0, none⟩ (.int .i32 0))) := fun W W' v' hb h1 h2 => by
      obtain ⟨u0, u1, u2, u3⟩ := PrB.unlock (K := K.setN v' (K.ns.eraseIdx m)) h1 h.is.lk
      exact ⟨u0, u1, ⟨u2, h.is.setN (by rw [map_erase, h.is.nets]), h.n⟩, ((k2.trans (frC_same hb)).trans (h2.mono netS_own)).trans (u3.mono ofOwn_lock)⟩
    obtain ⟨adv, cpv, hvv, -⟩ := h.at_.netd _ (List.getElem_mem hmn)
    clear k1 k2 h hok
    unfold Fm.cells at HFR
    generalize K.ns[m] = fm at *
    obtain ⟨⟨f0, f1, f2, f3, fd⟩, fv⟩ := fm
    simp only at hvv HFR
    subst hvv
    go_enter_defers Tryz.func13, Tryz.ntmps13
    go_wp2_with (go_at_call 44; refine (lock_free muLib ⟨x, 0, none⟩ _ hcl.c0 hcl.f0).mono ?_; rintro e w' ⟨rfl, rfl⟩)
    refine HFR.out.mono ?_
    rintro e w2 ⟨rfl, hb2⟩
    go_wp2_with fail
    refine (HLO.out _ (below_alloc hb2 _)).mono ?_
    rintro e w3 ⟨rfl, v', h3, f3⟩
    obtain ⟨u0, u1, hK', hF'⟩ := HEND.out _ _ v' (below_alloc hb2 _) h3.out f3.out
    have HK' := hid_of hK'
    have HF' := hid_of hF'
    clear hK' hF' h3 f3 HEND HLO HFR hb2
    go_wp2
    refine leaves_cons (f := 45) (args := #[.pointer (some ⟨x, 0, none⟩)]) (by simp) (by simp [go_sem]) ?_
    refine (unlock_deferred muLib ⟨x, 0, none⟩ .returning _ u0 u1).mono ?_
    rintro e u' w'' ⟨rfl, rfl, rfl⟩
    exact ⟨_, results_tmp rfl _ _ _, rfl, _, _, HK', HF'⟩
  · obtain ⟨e1, e2, -, -⟩ := netErr_no hk
    rw [e1, e2]
    obtain ⟨ad, cap, hv, _⟩ := h.at_.net.form
    have c42 := h.at_.cl.2.2.2.2.2.1
    rw [hv] at c42
    exact (prgDrop_no x K.R _ _ k w hcl ad K.ns.length cap c42 (by rw [h.lenN]; exact hk)).mono fun e w' ⟨h1, h2⟩ => ⟨h1, K, col, h.same h2, frC_same h2⟩
set_option maxRecDepth 100000 in
set_option maxHeartbeats 2000000 in
theorem prgCopyF {w : World} {col : Col} {o x N : Nat} {U : List At} {K : PrK} {c : Clu} (h : PrgAt w col o x K c) (hok : c.ok U N) (k : Int) :
    Calls Tryz.prog 84 #[.pointer (some ⟨x, 0, none⟩), .int .i64 k] w fun e w' => e = .returned (.int .i64 (c.netErr k)) ∧ ∃ K' col', Hid (PrgAt w' col' o x K' (c.copyF k)) ∧ Hid (FrC (ofOwn o) col col' w w') := by
  have hcl := h.at_.clAt h.is.lk
  by_cases hk : 0 ≤ k ∧ k < c.net.length
  · obtain ⟨m, rfl⟩ : ∃ m : Nat, k = m := ⟨k.toNat, by omega⟩
    have hm : m < c.net.length := by omega
    obtain ⟨e1, -, e2, -⟩ := netErr_yes hm
    rw [e1, e2]
    have hmn : m < K.ns.length := by rw [h.lenN]; exact hm
    have hl200 : K.ns.length ≤ 200 := by rw [h.lenN]; exact hok.netL
    obtain ⟨k1, k2⟩ := h.locked
    have hfm : c.frm m = (K.ns[m]).f := by
      unfold Clu.frm
      rw [← h.is.nets, List.getD_eq_getElem?_getD, List.getElem?_map, List.getElem?_eq_getElem hmn]
      rfl
    have HFR := Hid.mk (frame_yes (k := m) k1 hmn)
    have HLO := Hid.mk (fun W (hb : Below (w.setCell ⟨x, 0, none⟩ (.int .i32 1)).heap.size (w.setCell ⟨x, 0, none⟩ (.int .i32 1)) W) => prgLaunch (k1.same hb) hl200 ((k1.same hb).netd _ (List.getElem_mem hmn)))
    have HEND : Hid (∀ (W W' : World) (v' : Value) (ns' : List Fm) (col' : Col), Below (w.setCell ⟨x, 0, none⟩ (.int .i32 1)).heap.size (w.setCell ⟨x, 0, none⟩ (.int .i32 1)) W → PrB W' col' o x none (({ K with lk := 1 } : PrK).setN v' ns') → ns'.map Fm.f = putN (K.ns.map Fm.f) (K.ns[m]).f → FrC (netS o) col col' W W' → W'.cell? ⟨x, 0, none⟩ = some (.int .i32 1) ∧ W'.frozen? ⟨x, 0, none⟩ = false ∧ PrgAt (W'.setCell ⟨x, 0, none⟩ (.int .i32 0)) col' o x (K.setN v' ns') (c.put (c.frm m)) ∧ FrC (ofOwn o) col col' w (W'.setCell ⟨x, 0, none⟩ (.int .i32 0))) := fun W W' v' ns' col' hb h1 hns h2 => by
      obtain ⟨u0, u1, u2, u3⟩ := PrB.unlock (K := K.setN v' ns') h1 h.is.lk
      refine ⟨u0, u1, ⟨u2, ?_, h.n⟩, ((k2.trans (frC_same hb)).trans (h2.mono netS_own)).trans (u3.mono ofOwn_lock)⟩
      rw [put_putN, hfm]
      exact h.is.setN (by rw [hns, h.is.nets])
    obtain ⟨adv, cpv, hvv, -⟩ := h.at_.netd _ (List.getElem_mem hmn)
    clear k1 k2 h hok hfm
    unfold Fm.cells at HFR
    generalize K.ns[m] = fm at *
    obtain ⟨⟨f0, f1, f2, f3, fd⟩, fv⟩ := fm
    simp only at hvv HFR HLO HEND
    subst hvv
    go_enter_defers Tryz.func84, Tryz.ntmps84
    go_wp2_with (go_at_call 44; refine (lock_free muLib ⟨x, 0, none⟩ _ hcl.c0 hcl.f0).mono ?_; rintro e w' ⟨rfl, rfl⟩)
    refine HFR.out.mono ?_
    rintro e w2 ⟨rfl, hb2⟩
    go_wp2_with fail
    refine (HLO.out _ (below_alloc hb2 _)).mono ?_
    rintro e w3 ⟨rfl, v', ns', col', h3, hns, f3'⟩
    obtain ⟨u0, u1, hK', hF'⟩ := HEND.out _ _ v' ns' col' (below_alloc hb2 _) h3.out hns.out f3'.out
    have HK' := hid_of hK'
    have HF' := hid_of hF'
    clear hK' hF' h3 f3' hns HEND HLO HFR hb2
    go_wp2
    refine leaves_cons (f := 45) (args := #[.pointer (some ⟨x, 0, none⟩)]) (by simp) (by simp [go_sem]) ?_
    refine (unlock_deferred muLib ⟨x, 0, none⟩ .returning _ u0 u1).mono ?_
    rintro e u' w'' ⟨rfl, rfl, rfl⟩
    exact ⟨_, results_tmp rfl _ _ _, rfl, _, _, HK', HF'⟩
  · obtain ⟨e1, -, e2, -⟩ := netErr_no hk
    rw [e1, e2]
    obtain ⟨ad, cap, hv, _⟩ := h.at_.net.form
    have c42 := h.at_.cl.2.2.2.2.2.1
    rw [hv] at c42
    exact (prgCopy_no x K.R _ _ k w hcl ad K.ns.length cap c42 (by rw [h.lenN]; exact hk)).mono fun e w' ⟨h1, h2⟩ => ⟨h1, K, col, h.same h2, frC_same h2⟩
end Go.Proofs.YtahdlejgjcjeoabGreatDoor

namespace Go.Proofs.YtahdlejgjcjeoabGreatDoor
open Go.RowKit Go.MuLone

set_option maxRecDepth 100000 in
set_option maxHeartbeats 2000000 in
theorem prgFrameC {w : World} {col : Col} {o x N : Nat} {U : List At} {K : PrK} {c : Clu} (h : PrgAt w col o x K c) (hok : c.ok U N) (hL : Lim U N) (k : Int) :
    Calls Tryz.prog 91 #[.pointer (some ⟨x, 0, none⟩), .int .i64 k] w fun e w' => ∃ v, e = .returned (.tuple #[.agg #[.int .i64 (c.frmAt k).kind, .int .i64 (c.frmAt k).src, .int .i64 (c.frmAt k).dst, .int .i64 (c.frmAt k).upto, v], .int .i64 (c.netErr k)]) ∧ w'.ownsRow w.heap.size 76 6 v (c.frmAt k).d.length (flat (c.frmAt k).d) ∧ Below w.heap.size w w' := by
  have hcl := h.at_.clAt h.is.lk
  by_cases hk : 0 ≤ k ∧ k < c.net.length
  · obtain ⟨m, rfl⟩ : ∃ m : Nat, k = m := ⟨k.toNat, by omega⟩
    have hm : m < c.net.length := by omega
    obtain ⟨e1, -, -, -⟩ := netErr_yes hm
    have hmn : m < K.ns.length := by rw [h.lenN]; exact hm
    have hfm : c.frmAt m = (K.ns[m]).f := by
      have hh : c.has m = true := by unfold Clu.has; exact decide_eq_true (by omega)
      simp [Clu.frmAt, hh, Clu.frm, ← h.is.nets, hmn]
    have hfl : (K.ns[m]).f.d.length ≤ 131072 := by
      have hin : (K.ns[m]).f ∈ c.net := by rw [← h.is.nets]; exact List.mem_map_of_mem (List.getElem_mem hmn)
      have := hok.net _ hin
      exact Nat.le_trans (this.told.length this.sub) hL.2
    rw [e1, hfm]
    have h0 := hcl
    have h1 := h.same (below_alloc (Below.refl _ w) (.cells zFrm.toArray 110))
    have hcl2 : ClAt (w.alloc (.cells zFrm.toArray 110)) x K.R K.Ds.length K.Ds.length := h1.at_.clAt h1.is.lk
    obtain ⟨k1, k2⟩ := h1.locked
    have HFR := Hid.mk (frame_yes (k := m) k1 hmn)
    have HH := Hid.mk (k1.netd _ (List.getElem_mem hmn)).slice
    obtain ⟨adv, cpv, hvv, -⟩ := h.at_.netd _ (List.getElem_mem hmn)
    have hlt := h0.lt
    clear k1 k2 h hok hfm h1 e1
    unfold Fm.cells at HFR
    generalize K.ns[m] = fm at *
    obtain ⟨⟨f0, f1, f2, f3, fd⟩, fv⟩ := fm
    simp only at hvv HFR HH hfl ⊢
    subst hvv
    go_enter_defers Tryz.func91, Tryz.ntmps91
    go_wp2_with (go_at_call 44; refine (lock_free muLib ⟨x, 0, none⟩ _ hcl2.c0 hcl2.f0).mono ?_; rintro e wl ⟨rfl, hwl⟩; have HL := Hid.mk (lockA h0 hwl); rw [show (w.alloc (.cells zFrm.toArray 110)).setCell ⟨x, 0, none⟩ (.int .i32 1) = wl from hwl.symm] at HFR HH; clear hwl)
    refine HFR.out.mono ?_
    rintro e w2 ⟨rfl, hb2⟩
    have HSL := Hid.mk (HH.out.below hb2)
    have hr1 := (hb2.block _ (blk_lt HL.out.blk)).trans HL.out.blk
    have hq2 : w.heap.size < w2.heap.size := blk_lt hr1
    have HB2 := Hid.mk hb2
    clear hb2
    go_wp2_with fail
    refine (cloneAtoms _ fd _ (HSL.out.below (below_alloc (Below.refl _ _) _)) (by omega)).mono ?_
    rintro e w3 ⟨v', rfl, ho3, hb3⟩
    obtain ⟨ad3, cp3, hv3⟩ := own_form ho3
    subst hv3
    have hfb := (hb3.block w2.heap.size (by simp)).trans (heap_alloc_new w2 _)
    have hrb := (hb3.block w.heap.size (by simp; omega)).trans ((((Below.refl _ w2).alloc (Nat.le_refl _) _).block _ hq2).trans hr1)
    obtain ⟨g0, g1, g2, g3, g4⟩ := five_cells' hfb
    have gf4 := blk_thaw hfb 4
    have hq3 : w2.heap.size < w3.heap.size := blk_lt hfb
    have r0 : w3.cell? ⟨w.heap.size, 0, none⟩ = some (.int .i64 0) := blk_cell hrb 0
    have r1 : w3.cell? ⟨w.heap.size, 1, none⟩ = some (.int .i64 0) := blk_cell hrb 1
    have r2 : w3.cell? ⟨w.heap.size, 2, none⟩ = some (.int .i64 0) := blk_cell hrb 2
    have r3 : w3.cell? ⟨w.heap.size, 3, none⟩ = some (.int .i64 0) := blk_cell hrb 3
    have r4 : w3.cell? ⟨w.heap.size, 4, none⟩ = some (.slice none 0 0) := blk_cell hrb 4
    have rf := blk_thaw hrb
    have hne : w.heap.size ≠ w2.heap.size := by omega
    have hne' : w2.heap.size ≠ w.heap.size := by omega
    have hql : w.heap.size < w3.heap.size := by omega
    have HRB := Hid.mk hrb
    have HB3 := Hid.mk hb3
    have HO3 := Hid.mk ho3
    clear hb3 hfb hrb hr1 ho3 HSL HH HFR
    go_wp2
    clear r0 r1 r2 r3 r4 rf g0 g1 g2 g3 g4 gf4
    have hbs : Below wl.heap.size wl (w3.setCell ⟨w2.heap.size, 4, none⟩ (.slice ad3 fd.length cp3)) := ((HB2.out.alloc HB2.out.size _).trans (HB3.out.mono (by simp; have := HB2.out.size; omega))).setCell (p := ⟨w2.heap.size, 4, none⟩) HB2.out.size _
    have hrb2 : (w3.setCell ⟨w2.heap.size, 4, none⟩ (.slice ad3 fd.length cp3)).heap[w.heap.size]? = some (.cells zFrm.toArray 110 (0, 0)) := ((grown_setCell w3 ⟨w2.heap.size, 4, none⟩ _).block _ hql (fun e => hne (Option.some.inj e))).trans HRB.out
    have HO := Hid.mk (over_row (l' := [.int .i64 f0, .int .i64 f1, .int .i64 f2, .int .i64 f3, .slice ad3 fd.length cp3]) hrb2 rfl)
    have hs1 : w.heap.size ≤ wl.heap.size := by rw [HL.out.size]; omega
    have HBL : Hid (Below w.heap.size wl ((w3.setCell ⟨w2.heap.size, 4, none⟩ (.slice ad3 fd.length cp3)).setCells w.heap.size 0 [.int .i64 f0, .int .i64 f1, .int .i64 f2, .int .i64 f3, .slice ad3 fd.length cp3])) := below_over (hbs.mono hs1) (by simp; omega)
    show Leaves _ _ _ _ _ _ _
    refine leaves_cons (f := 45) (args := #[.pointer (some ⟨x, 0, none⟩)]) (by simp) (by simp [go_sem]) ?_
    obtain ⟨u0, u1, u2, u3⟩ := HL.out.done (w2 := (w3.setCell ⟨w2.heap.size, 4, none⟩ (.slice ad3 fd.length cp3)).setCells w.heap.size 0 [.int .i64 f0, .int .i64 f1, .int .i64 f2, .int .i64 f3, .slice ad3 fd.length cp3]) HBL.out hlt (blk_lt HO.out)
    have HOW : Hid ((((w3.setCell ⟨w2.heap.size, 4, none⟩ (.slice ad3 fd.length cp3)).setCells w.heap.size 0 [.int .i64 f0, .int .i64 f1, .int .i64 f2, .int .i64 f3, .slice ad3 fd.length cp3]).setCell ⟨x, 0, none⟩ (.int .i32 0)).ownsRow w.heap.size 76 6 (.slice ad3 fd.length cp3) fd.length (flat fd)) := by
      have hz : (w2.alloc (.cells #[.int .i64 f0, .int .i64 f1, .int .i64 f2, .int .i64 f3, .slice adv fd.length cpv] 110)).heap.size = w2.heap.size + 1 := by simp
      have h0 := HO3.out
      rw [hz] at h0
      exact owns_mono (owns_put (owns_put (owns_put (owns_put (owns_put (owns_put (owns_put h0 (by omega)) (by omega)) (by omega)) (by omega)) (by omega)) (by omega)) (by omega)) (by omega)
    refine (unlock_deferred muLib ⟨x, 0, none⟩ .returning _ u0 u1).mono ?_
    rintro e u' w'' ⟨rfl, rfl, rfl⟩
    exact ⟨.tuple #[.agg #[.int .i64 f0, .int .i64 f1, .int .i64 f2, .int .i64 f3, .slice ad3 fd.length cp3], .int .i64 0], results_row Tryz.results91 _ rfl rfl (run_loadVar_row _ _ _ _ _ _ _ (u3.trans HO.out) Tryz.underlying110 rfl infoFrmS), _, rfl, HOW.out, u2⟩
  · obtain ⟨e1, -, -, -⟩ := netErr_no hk
    have hf : c.frmAt k = ⟨0, 0, 0, 0, []⟩ := by
      have hh : c.has k = false := by unfold Clu.has; exact decide_eq_false hk
      simp [Clu.frmAt, hh]
    rw [e1, hf]
    obtain ⟨ad, cap, hv, _⟩ := h.at_.net.form
    have c42 := h.at_.cl.2.2.2.2.2.1
    rw [hv] at c42
    exact (prgFrame_no x K.R _ _ k w hcl ad K.ns.length cap c42 (by rw [h.lenN]; exact hk)).mono fun e w' ⟨h1, h2⟩ => ⟨.slice none 0 0, h1, ⟨rfl, .inl ⟨rfl, rfl⟩⟩, h2⟩
end Go.Proofs.YtahdlejgjcjeoabGreatDoor

namespace Go.Proofs.YtahdlejgjcjeoabGreatDoor
open Go.RowKit Go.MuLone

theorem PrB.nearC {w : World} {col : Col} {o x : Nat} {ex : Option Nat} {K : PrK} (h : PrB w col o x ex K) {r q : Nat} (hr : r < 6) (hq : q < 6) : w.cell? ⟨x, 5 + r * 6 + q, none⟩ = some (.bool (K.near r q)) := by
  have hl : (linkB K.near).length = 36 := by simp [linkB]
  rw [blk_cell h.blk, List.getElem?_toArray]
  unfold PrK.block
  rw [List.getElem?_append_right (by simp; omega), List.getElem?_append_left (by rw [hl]; simp; omega)]
  have e : 5 + r * 6 + q - ([.int .i32 K.lk, .int .u32 0, .bool K.bp, .bool K.rr, .int .i64 K.room] : List Value).length = r * 6 + q := by simp; omega
  rw [e]
  have := linkB_get K.near (r * 6 + q) (by omega)
  rw [List.getElem?_toArray] at this
  rw [this, show (r * 6 + q) / 6 = r by omega, show (r * 6 + q) % 6 = q by omega]

set_option maxRecDepth 100000 in
set_option maxHeartbeats 2000000 in
theorem prgSender_both {w : World} {col : Col} {o x : Nat} {K : PrK} (h : PrAt w col o x K) (h6 : K.Ds.length ≤ 6) (r q : Nat) (hr : r < K.Ds.length) (hq : q < K.Ds.length) :
    Calls Tryz.prog 77 #[.pointer (some ⟨x, 0, none⟩), .int .i64 r, .int .i64 q] w fun e w' => Below w.heap.size w w' ∧ e = .returned (.tuple #[.pointer (if K.near r q = true ∧ (K.Ds[r]).up = true then some ⟨K.R, r * 14, none⟩ else none), .int .i64 (if K.near r q = false then 7 else if (K.Ds[r]).up = true then 0 else 8)]) := by
  have HB := Hid.mk (below_alloc (Below.refl _ w) (.cells #[.int .i64 r, .int .i64 q] 3))
  have hb := HB.out
  have hA := h.same hb
  have k41 := hA.cl.2.2.2.2.1
  have nr := hA.nearC (r := r) (q := q) (by omega) (by omega)
  have cu := (hA.cells hr).c0
  have HO1 := Hid.mk (one_yes x K.R r K.Ds.length K.Ds.length _ k41 hr)
  have HO2 := Hid.mk (one_yes x K.R q K.Ds.length K.Ds.length _ k41 hq)
  have HUP := Hid.mk (upOne_yes x K.R r K.Ds.length K.Ds.length (K.Ds[r]).up _ k41 hr cu)
  have hrow := heap_alloc_new w (.cells #[.int .i64 r, .int .i64 q] 3)
  have r0 : (w.alloc (.cells #[.int .i64 r, .int .i64 q] 3)).cell? ⟨w.heap.size, 0, none⟩ = some (.int .i64 r) := blk_cell hrow 0
  have r1 : (w.alloc (.cells #[.int .i64 r, .int .i64 q] 3)).cell? ⟨w.heap.size, 1, none⟩ = some (.int .i64 q) := blk_cell hrow 1
  have hx := blk_lt h.blk
  have g1 : (r : Int) < 6 := by omega
  have g2 : (q : Int) < 6 := by omega
  have g3 : (0 : Int) ≤ r := by omega
  have g4 : (0 : Int) ≤ q := by omega
  clear h hA cu k41 hb hrow
  go_enter Tryz.func77, Tryz.ntmps77
  go_wp2
  generalize w.alloc (.cells #[.int .i64 r, .int .i64 q] 3) = w1 at *
  go_loopw [16] (fun s wr => ∃ i : Nat, i ≤ 2 ∧ s = .int .i64 i ∧ wr = w1) (fun s _ => 2 - (intOf s).toNat)
  case atStart => exact ⟨0, by omega, rfl, rfl⟩
  case round =>
    obtain ⟨i, hi, rfl, rfl⟩ := hrel
    rcases (by omega : i = 0 ∨ i = 1 ∨ i = 2) with rfl | rfl | rfl
    · go_wp2_with fail
      refine HO1.out.mono ?_
      rintro e w2 ⟨rfl, rfl⟩
      go_wp2
      all_goals exact ⟨⟨1, by omega, by go_num, by trivial⟩, by simp [intOf]⟩
    · go_wp2_with fail
      refine HO2.out.mono ?_
      rintro e w2 ⟨rfl, rfl⟩
      go_wp2
      all_goals exact ⟨⟨2, by omega, by go_num, by trivial⟩, by simp [intOf]⟩
    · cases hn : K.near r q with
      | false =>
        rw [hn] at nr
        go_wp2
        all_goals refine bodyPost_ret (v := .tuple #[.pointer none, .int .i64 7]) (by simp [results, Tryz.results77, go_sem]) rfl ⟨HB.out, by rfl⟩
      | true =>
        rw [hn] at nr
        cases hu : (K.Ds[r]).up with
        | false =>
          rw [hu] at HUP
          go_wp2_with fail
          refine HUP.out.mono ?_
          rintro e w2 ⟨rfl, rfl⟩
          go_wp2
          all_goals refine bodyPost_ret (v := .tuple #[.pointer none, .int .i64 8]) (by simp [results, Tryz.results77, go_sem]) rfl ⟨HB.out, by simp⟩
        | true =>
          rw [hu] at HUP
          go_wp2_with fail
          refine HUP.out.mono ?_
          rintro e w2 ⟨rfl, rfl⟩
          go_wp2
          all_goals refine bodyPost_ret (v := .tuple #[.pointer (some ⟨K.R, r * 14, none⟩), .int .i64 0]) (by simp [results, Tryz.results77, go_sem]) rfl ⟨HB.out, by simp⟩

set_option maxRecDepth 100000 in
set_option maxHeartbeats 2000000 in
theorem prgSender_no {w : World} {col : Col} {o x : Nat} {K : PrK} (h : PrAt w col o x K) (r q : Int) (hno : ¬ (0 ≤ r ∧ r < K.Ds.length) ∨ ¬ (0 ≤ q ∧ q < K.Ds.length)) :
    Calls Tryz.prog 77 #[.pointer (some ⟨x, 0, none⟩), .int .i64 r, .int .i64 q] w fun e w' => Below w.heap.size w w' ∧ e = .returned (.tuple #[.pointer none, .int .i64 5]) := by
  have HB := Hid.mk (below_alloc (Below.refl _ w) (.cells #[.int .i64 r, .int .i64 q] 3))
  have hb := HB.out
  have hA := h.same hb
  have k41 := hA.cl.2.2.2.2.1
  have hrow := heap_alloc_new w (.cells #[.int .i64 r, .int .i64 q] 3)
  have r0 : (w.alloc (.cells #[.int .i64 r, .int .i64 q] 3)).cell? ⟨w.heap.size, 0, none⟩ = some (.int .i64 r) := blk_cell hrow 0
  have r1 : (w.alloc (.cells #[.int .i64 r, .int .i64 q] 3)).cell? ⟨w.heap.size, 1, none⟩ = some (.int .i64 q) := blk_cell hrow 1
  have hx := blk_lt h.blk
  clear h hA hb hrow
  go_enter Tryz.func77, Tryz.ntmps77
  go_wp2
  generalize w.alloc (.cells #[.int .i64 r, .int .i64 q] 3) = w1 at *
  by_cases hr : 0 ≤ r ∧ r < K.Ds.length
  · obtain ⟨i, rfl⟩ : ∃ i : Nat, r = i := ⟨r.toNat, by omega⟩
    have HO1 := Hid.mk (one_yes x K.R i K.Ds.length K.Ds.length _ k41 (by omega))
    have HO2 := Hid.mk (one_no x q _ K.Ds.length K.Ds.length _ k41 (by rcases hno with h | h; exact absurd hr h; exact h))
    clear hno hr k41
    go_loopw [16] (fun s wr => ∃ i : Nat, i ≤ 1 ∧ s = .int .i64 i ∧ wr = w1) (fun s _ => 2 - (intOf s).toNat)
    case atStart => exact ⟨0, by omega, rfl, rfl⟩
    case round =>
      obtain ⟨j, hj, rfl, rfl⟩ := hrel
      rcases (by omega : j = 0 ∨ j = 1) with rfl | rfl
      · go_wp2_with fail
        refine HO1.out.mono ?_
        rintro e w2 ⟨rfl, rfl⟩
        go_wp2
        all_goals exact ⟨⟨1, by omega, by go_num, by trivial⟩, by simp [intOf]⟩
      · go_wp2_with fail
        refine HO2.out.mono ?_
        rintro e w2 ⟨rfl, rfl⟩
        go_wp2
        all_goals refine bodyPost_ret (v := .tuple #[.pointer none, .int .i64 5]) (by simp [results, Tryz.results77, go_sem]) rfl ⟨HB.out, by rfl⟩
  · have HO1 := Hid.mk (one_no x r _ K.Ds.length K.Ds.length _ k41 hr)
    clear hno hr k41
    go_loopw [16] (fun s wr => s = .int .i64 0 ∧ wr = w1) (fun s _ => 0)
    case atStart => exact ⟨rfl, rfl⟩
    case round =>
      obtain ⟨rfl, rfl⟩ := hrel
      go_wp2_with fail
      refine HO1.out.mono ?_
      rintro e w2 ⟨rfl, rfl⟩
      go_wp2
      all_goals refine bodyPost_ret (v := .tuple #[.pointer none, .int .i64 5]) (by simp [results, Tryz.results77, go_sem]) rfl ⟨HB.out, by rfl⟩
end Go.Proofs.YtahdlejgjcjeoabGreatDoor

namespace Go.Proofs.YtahdlejgjcjeoabGreatDoor
open Go.RowKit

end Go.Proofs.YtahdlejgjcjeoabGreatDoor

namespace Go.Proofs.YtahdlejgjcjeoabGreatDoor
open Go.RowKit

end Go.Proofs.YtahdlejgjcjeoabGreatDoor

namespace Go.Proofs.YtahdlejgjcjeoabGreatDoor
open Go.RowKit

end Go.Proofs.YtahdlejgjcjeoabGreatDoor

namespace Go.Proofs.YtahdlejgjcjeoabGreatDoor
open Go.RowKit Go.MuLone

def goesE (bp : Bool) (ak q : Nat) (e : Pe) : Bool := decide (ak < e.num) && !(bp && decide (e.org = q))
def sendE (bp : Bool) (ak q : Nat) (es : List Pe) : List At := ((es.filter (goesE bp ak q)).map (·.d)).flatten
theorem sendE_yes {bp : Bool} {ak k i : Nat} {ts : List Pe} (h : i < ts.length) (hg : goesE bp ak k ts[i] = true) : sendE bp ak k (ts.take (i + 1)) = sendE bp ak k (ts.take i) ++ ts[i].d := by
  rw [List.take_succ_eq_append_getElem h, sendE, sendE, List.filter_append, List.filter_cons_of_pos hg]
  simp
theorem sendE_no {bp : Bool} {ak k i : Nat} {ts : List Pe} (h : i < ts.length) (hg : goesE bp ak k ts[i] = false) : sendE bp ak k (ts.take (i + 1)) = sendE bp ak k (ts.take i) := by
  rw [List.take_succ_eq_append_getElem h, sendE, sendE, List.filter_append, List.filter_cons_of_neg (by simp [hg])]
  simp
theorem sendE_all {bp : Bool} {k : Nat} {es : List Pe} {p : Rep} (h : es.map Pe.ent = p.buf) : sendE bp (p.acked.getD k 0) k es = ((p.toSend bp k).map (·.d)).flatten := by
  unfold sendE Rep.toSend
  rw [← h, List.filter_map, List.map_map]
  rfl
theorem sendE_len {bp : Bool} {ak k M : Nat} : ∀ {es : List Pe}, (∀ t ∈ es, t.d.length ≤ M) → (sendE bp ak k es).length ≤ es.length * M
  | [], _ => by simp [sendE]
  | t :: es, h => by
    have ih := sendE_len (bp := bp) (ak := ak) (k := k) (M := M) (es := es) (fun x hx => h x (List.mem_cons_of_mem _ hx))
    have e : (t :: es).length * M = es.length * M + M := by rw [List.length_cons, Nat.succ_mul]
    rw [e]
    unfold sendE at ih ⊢
    rw [List.filter_cons]
    have := h t (List.mem_cons_self ..)
    split
    · simp only [List.map_cons, List.flatten_cons, List.length_append]
      omega
    · omega
theorem sendE_mem {bp : Bool} {ak k : Nat} {es : List Pe} {a : At} (h : a ∈ sendE bp ak k es) : ∃ e ∈ es, a ∈ e.d := by
  unfold sendE at h
  obtain ⟨l, hl, ha⟩ := List.mem_flatten.1 h
  obtain ⟨e, he, rfl⟩ := List.mem_map.1 hl
  exact ⟨e, (List.mem_filter.1 he).1, ha⟩

set_option maxRecDepth 100000 in
set_option maxHeartbeats 4000000 in
theorem prgNews (R i q : Nat) (bp : Bool) (D : PrD) (w : World) (hT : RulesAt w) (hc : Cells14 w R i D) (hq : q < 6) (hst : StMap w D.b D.n D.M) (hmm : MayMap D.M) (hbn : D.n ≤ 8388608)
    (hrow : w.ownsRow 0 85 3 D.vb D.es.length (D.es.flatMap Pe.cells)) (hd : ∀ e ∈ D.es, SliceOf w e.v e.d) (hl : ∀ e ∈ D.es, e.d.length ≤ 131072) (hmay : ∀ e ∈ D.es, ∀ a ∈ e.d, mayB a = true) (hn : D.es.length ≤ 9) :
    Calls Tryz.prog 78 #[.pointer (some ⟨R, i * 14, none⟩), .int .i64 q, .bool bp] w fun e w' => ∃ v out, e = .returned (.tuple #[.int .i64 (if D.ak q < D.base then 2 else 1), v]) ∧ w'.ownsRow w.heap.size 76 6 v out.length (flat out) ∧ Hid (TellOf (if D.ak q < D.base then D.M else addTo (fun _ => none) (sendE bp (D.ak q) q D.es)) out) ∧ Below w.heap.size w w' := by
  have c2 := hc.c2
  have c3 := hc.c3
  have c4 := hc.c4
  have ca := hc.ak q hq
  have e5 : i * 14 + (5 + q) = i * 14 + 5 + q := by omega
  rw [e5] at ca
  have hqi : (q : Int) < 6 := by omega
  have hq0 : (0 : Int) ≤ q := by omega
  have hR : R < w.heap.size := World.block_lt_of_cell? w ⟨R, i * 14 + 2, none⟩ c2
  have HT := Hid.mk hT
  by_cases hlt : D.ak q < D.base
  · have hlt' : (D.ak q : Int) < (D.base : Int) := by omega
    rw [if_pos hlt, if_pos hlt]
    have HTL : Hid (∀ W, Below w.heap.size w W → _) := fun W hW => tell_any D.b D.n D.M W (hT.below hW hT.1) (hst.block (hW.block _ hst.lt)) hmm hbn
    clear hT hc hst hmm hrow hd hl hmay
    go_enter Tryz.func78, Tryz.ntmps78
    go_wp2
    go_quiet (fail)
    go_wp2_with fail
    refine (HTL.out _ (below_drewN (Below.refl _ _) _)).mono ?_
    rintro e w1 ⟨v1, out, rfl, ho, htl, hb1⟩
    obtain ⟨ad1, cp1, hv1⟩ := own_form ho
    subst hv1
    have HO := Hid.mk ho
    have HB1 := Hid.mk ((below_drewN (Below.refl _ w) nq).trans hb1)
    clear ho hb1
    go_wp2
    go_ret2
    exact ⟨_, out, by rfl, HO.out, htl, HB1.out⟩
  · have hlt' : (D.base : Int) ≤ (D.ak q : Int) := by omega
    rw [if_neg hlt, if_neg hlt]
    obtain ⟨ad, cap, hv⟩ := own_form hrow
    rw [hv] at c4 hrow
    have HROW := Hid.mk hrow
    have HD := Hid.mk hd
    have HL := Hid.mk hl
    have HMY := Hid.mk hmay
    have HMM : Hid (∀ l : List At, (∀ a ∈ l, mayB a = true) → MayMap (addTo (fun _ => none) l)) := fun l hl => (holds_list l).mayMap hl
    clear hT hst hmm hrow hd hl hmay hv hc
    generalize D.ak q = ak at *
    generalize D.es = es at *
    generalize hbs : D.base = bs at *
    have hmk := @run_makeMap Tryz.prog
    go_enter Tryz.func78, Tryz.ntmps78
    have h4 : ∀ k, ((w.drewN k).alloc (.map #[] 0)).cell? ⟨R, i * 14 + 4, none⟩ = some (.slice ad es.length cap) := fun k => ((below_alloc (below_drewN (Below.refl _ w) k) _).cell (p := ⟨R, i * 14 + 4, none⟩) hR).trans c4
    have HBA : Hid (∀ k, Below w.heap.size w ((w.drewN k).alloc (.map #[] 0))) := fun k => below_alloc (below_drewN (Below.refl _ w) k) _
    have HMA : Hid (∀ k, StMap ((w.drewN k).alloc (.map #[] 0)) w.heap.size 0 (fun _ => none)) := fun k => stMap_made (w.drewN k)
    go_wp2
    go_quiet (fail)
    go_wp2
    have HB0 := Hid.mk (HBA.out nq)
    have HM0 := Hid.mk (HMA.out nq)
    clear HBA HMA h4
    generalize (w.drewN nq).alloc (.map #[] 0) = w0 at *
    go_loopw [34] (fun s wr => ∃ k : Nat, k ≤ es.length ∧ s = .int .i64 k ∧ Hid (Below w.heap.size w wr ∧ StMap wr w.heap.size (sendE bp ak q (es.take k)).length (addTo (fun _ => none) (sendE bp ak q (es.take k))))) (fun s _ => es.length - (intOf s).toNat)
    case atStart => exact ⟨0, Nat.zero_le _, rfl, HB0.out, HM0.out⟩
    case round =>
      obtain ⟨k, hk, rfl, hst⟩ := hrel
      have hwr := hst.out.1
      have x5 := (hwr.cell (p := ⟨R, i * 14 + 5 + q, none⟩) hR).trans ca
      have hRr := Nat.lt_of_lt_of_le hR hwr.size
      have hRn : R ≠ wr.heap.size := by omega
      have hRn2 : ¬ wr.heap.size = R := by omega
      have hsl := sendE_len (bp := bp) (ak := ak) (k := q) (M := 131072) (es := es.take k) (fun t ht => HL.out t (List.mem_of_mem_take ht))
      have htk : (es.take k).length ≤ 9 := by rw [List.length_take]; omega
      by_cases hkl : k < es.length
      · obtain ⟨g, rfl, hg, d0, d1, d2⟩ := ent_cells HROW.out hkl
        have e0 := (hwr.cell (p := ⟨g, k * 3, none⟩) hg).trans d0
        have e1 := (hwr.cell (p := ⟨g, k * 3 + 1, none⟩) hg).trans d1
        have e2 := (hwr.cell (p := ⟨g, k * 3 + 2, none⟩) hg).trans d2
        have hgr := Nat.lt_of_lt_of_le hg hwr.size
        have hmem := List.getElem_mem hkl
        have HSD := Hid.mk (HD.out _ hmem)
        have htl := HL.out _ hmem
        have HMD := Hid.mk (HMY.out _ hmem)
        have hYN : Hid (∀ b, goesE bp ak q es[k] = b → sendE bp ak q (es.take (k + 1)) = if b then sendE bp ak q (es.take k) ++ es[k].d else sendE bp ak q (es.take k)) := fun b hb => by
          cases b
          · exact sendE_no hkl hb
          · exact sendE_yes hkl hb
        clear hmem d0 d1 d2
        generalize es[k] = t at *
        obtain ⟨tn, tg, tv, td⟩ := t
        simp only [goesE] at hYN
        simp only at e0 e1 e2 HSD htl HMD
        obtain ⟨adv, cpv, hrv, -⟩ := id HSD.out
        subst hrv
        have hkl' : (k : Int) < (es.length : Int) := by omega
        have hk0 : (0 : Int) ≤ (k : Int) := by omega
        have hBe : ∀ n, Below w.heap.size w ((wr.alloc (.cells #[.int .i64 tn, .int .i64 tg, .slice adv td.length cpv] 85)).drewN n) := fun n => below_drewN (below_alloc hwr _) n
        have hBr : ∀ n, Below wr.heap.size wr ((wr.alloc (.cells #[.int .i64 tn, .int .i64 tg, .slice adv td.length cpv] 85)).drewN n) := fun n => below_drewN (below_alloc (Below.refl _ _) _) n
        have HAD : Hid (∀ n, Calls Tryz.prog 110 #[.map (some w.heap.size), .slice adv td.length cpv] ((wr.alloc (.cells #[.int .i64 tn, .int .i64 tg, .slice adv td.length cpv] 85)).drewN n) fun e w' => e = .returned (.tuple #[]) ∧ StMap w' w.heap.size ((sendE bp ak q (es.take k)).length + td.length) (addTo (addTo (fun _ => none) (sendE bp ak q (es.take k))) td) ∧ ((wr.alloc (.cells #[.int .i64 tn, .int .i64 tg, .slice adv td.length cpv] 85)).drewN n).grownBy w' (some w.heap.size)) := fun n => add_any _ td w.heap.size _ _ _ (HT.out.below (hBe n) HT.out.1) (hst.out.2.block ((hBr n).block _ hst.out.2.lt)) (HSD.out.below (hBe n)) HMD.out (by omega)
        have HNO : Hid ((decide (ak < tn) && !(bp && decide (tg = q))) = false → ∀ n, Hid (Below w.heap.size w ((wr.alloc (.cells #[.int .i64 tn, .int .i64 tg, .slice adv td.length cpv] 85)).drewN n) ∧ StMap ((wr.alloc (.cells #[.int .i64 tn, .int .i64 tg, .slice adv td.length cpv] 85)).drewN n) w.heap.size (sendE bp ak q (es.take (k + 1))).length (addTo (fun _ => none) (sendE bp ak q (es.take (k + 1)))))) := fun hgo n => by
          have e := hYN.out false hgo
          simp only [Bool.false_eq_true, if_false] at e
          rw [e]
          exact ⟨hBe n, hst.out.2.block ((hBr n).block _ hst.out.2.lt)⟩
        have HYS : Hid ((decide (ak < tn) && !(bp && decide (tg = q))) = true → ∀ (w4 : World) (n : Nat), StMap w4 w.heap.size ((sendE bp ak q (es.take k)).length + td.length) (addTo (addTo (fun _ => none) (sendE bp ak q (es.take k))) td) → ((wr.alloc (.cells #[.int .i64 tn, .int .i64 tg, .slice adv td.length cpv] 85)).drewN n).grownBy w4 (some w.heap.size) → Hid (Below w.heap.size w w4 ∧ StMap w4 w.heap.size (sendE bp ak q (es.take (k + 1))).length (addTo (fun _ => none) (sendE bp ak q (es.take (k + 1)))))) := fun hgo w4 n h1 h2 => by
          have e := hYN.out true hgo
          simp only [if_true] at e
          rw [e, List.length_append, addTo_append]
          exact ⟨(hBe n).grown h2 (hBe n).size (fun q hq => by cases hq; exact Nat.le_refl _), h1⟩
        clear hst hYN HSD HMD hBe hBr hwr HL HMY HD
        generalize hsn : sendE bp ak q (es.take k) = sl at *
        cases bp with
        | false =>
          by_cases hnn : (ak : Int) < (tn : Int)
          · have HY := Hid.mk (HYS.out (by simp; omega))
            clear HNO HYS
            go_wp2
            go_quiet (fail)
            go_wp2_with fail
            refine (HAD.out nq).mono ?_
            rintro e w4 ⟨rfl, hst4, hg4⟩
            have HX := Hid.mk (HY.out w4 nq hst4 hg4)
            clear hst4 hg4
            go_wp2
            exact ⟨⟨k + 1, by omega, by go_num, HX.out⟩, by simp [intOf]; omega⟩
          · have HX := Hid.mk (HNO.out (by simp; omega))
            have hnn' : (tn : Int) ≤ (ak : Int) := by omega
            clear HNO HYS HAD
            go_wp2
            have hd : decide ((ak : Int) < (tn : Int)) = false := by simpa using hnn'
            have hd2 : decide (ak < tn) = false := by simp; omega
            have hd3 : ¬ (ak : Int) < (tn : Int) := by omega
            go_quiet (fail)
            go_wp2
            exact ⟨⟨k + 1, by omega, by go_num, HX.out nq⟩, by simp [intOf]; omega⟩
        | true =>
          by_cases hgk : (tg : Int) = (q : Int)
          · obtain rfl : tg = q := by omega
            have HX := Hid.mk (HNO.out (by simp))
            clear HNO HYS HAD
            by_cases hnn : (ak : Int) < (tn : Int)
            · go_wp2
              go_quiet (fail)
              go_wp2
              exact ⟨⟨k + 1, by omega, by go_num, HX.out nq⟩, by simp [intOf]; omega⟩
            · have hnn' : (tn : Int) ≤ (ak : Int) := by omega
              go_wp2
              have hd : decide ((ak : Int) < (tn : Int)) = false := by simpa using hnn'
              have hd2 : decide (ak < tn) = false := by simp; omega
              have hd3 : ¬ (ak : Int) < (tn : Int) := by omega
              go_quiet (fail)
              go_wp2
              exact ⟨⟨k + 1, by omega, by go_num, HX.out nq⟩, by simp [intOf]; omega⟩
          · by_cases hnn : (ak : Int) < (tn : Int)
            · have HY := Hid.mk (HYS.out (by
                have h1 : ¬ tg = q := by omega
                have h2 : ak < tn := by omega
                simp [h1, h2]))
              clear HNO HYS
              go_wp2
              have hk2 : decide ((tg : Int) = (q : Int)) = false := by simpa using hgk
              have hk3 : decide (tg = q) = false := by simp; omega
              have hk4 : ((tg : Int) == (q : Int)) = false := by simpa using hgk
              go_quiet (fail)
              go_wp2_with fail
              refine (HAD.out nq).mono ?_
              rintro e w4 ⟨rfl, hst4, hg4⟩
              have HX := Hid.mk (HY.out w4 nq hst4 hg4)
              clear hst4 hg4
              go_wp2
              exact ⟨⟨k + 1, by omega, by go_num, HX.out⟩, by simp [intOf]; omega⟩
            · have HX := Hid.mk (HNO.out (by
                have h2 : ¬ ak < tn := by omega
                simp [h2]))
              have hnn' : (tn : Int) ≤ (ak : Int) := by omega
              clear HNO HYS HAD
              go_wp2
              have hd : decide ((ak : Int) < (tn : Int)) = false := by simpa using hnn'
              have hd2 : decide (ak < tn) = false := by simp; omega
              have hd3 : ¬ (ak : Int) < (tn : Int) := by omega
              go_quiet (fail)
              go_wp2
              exact ⟨⟨k + 1, by omega, by go_num, HX.out nq⟩, by simp [intOf]; omega⟩
      · have hke : k = es.length := by omega
        subst hke
        have hkl' : ¬ (es.length : Int) < (es.length : Int) := by omega
        rw [List.take_of_length_le (Nat.le_refl _)] at hst hsl
        have HTL := Hid.mk (tell_any w.heap.size _ _ wr (HT.out.below hwr HT.out.1) hst.out.2 (HMM.out _ (fun a ha => by obtain ⟨e, he, hae⟩ := sendE_mem ha; exact HMY.out e he a hae)) (by omega))
        have HW := Hid.mk hwr
        clear hst hwr
        go_wp2_with fail
        refine HTL.out.mono ?_
        rintro e w1 ⟨v1, out, rfl, ho, htl, hb1⟩
        obtain ⟨ad1, cp1, hv1⟩ := own_form ho
        subst hv1
        have HO := Hid.mk (owns_mono ho HW.out.size)
        have HB1 := Hid.mk (HW.out.trans (hb1.mono HW.out.size))
        clear ho hb1 HTL
        go_wp2
        go_ret2
        exact ⟨_, out, by rfl, HO.out, htl, HB1.out⟩
end Go.Proofs.YtahdlejgjcjeoabGreatDoor
