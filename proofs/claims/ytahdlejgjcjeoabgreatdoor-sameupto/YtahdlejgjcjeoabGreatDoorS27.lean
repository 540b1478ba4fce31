/- The plain side of P16: what is always so, by every call. -/
import Derived.Test.YtahdlejgjcjeoabGreatDoorS26
import Derived.Test.YtahdlejgjcjeoabGreatDoorS10
import Derived.Test.YtahdlejgjcjeoabGreatDoorS04
namespace Go.Proofs.YtahdlejgjcjeoabGreatDoor
open Go.RowKit Go.MuLone

/-- A call has ended in the lock: given back, the cluster is at c. -/
def ArrP (w : World) (col : Col) (o x : Nat) (c : Clu) (e : Ending) (w' : World) : Prop :=
  e = .returned (.tuple #[]) ∧ w'.cell? ⟨x, 0, none⟩ = some (.int .i32 1) ∧ w'.frozen? ⟨x, 0, none⟩ = false ∧ ∃ K' col', Hid (PrgAt (w'.setCell ⟨x, 0, none⟩ (.int .i32 0)) col' o x K' c) ∧ Hid (FrC (ofOwn o) col col' w (w'.setCell ⟨x, 0, none⟩ (.int .i32 0)))
/-- What is known where a frame arrives. -/
structure ArrH (w : World) (col : Col) (o x : Nat) (K : PrK) (c : Clu) (U : List At) (N : Nat) (f : Frm) (v : Value) : Prop where
  at_ : PrAt w col o x { K with lk := 1 }
  is : K.is c
  n : ∀ i (h : i < K.Ds.length), (K.Ds[i]).n ≤ 4194304
  o0 : o ≠ 0
  tab : Tab w col
  ok : c.ok U N
  lim : Lim U N
  held : Held w col (o, 1) v f.d
  fok : f.ok U N c.reps.length
  far : ∀ j, c.reps.length ≤ j → c.near f.dst j = false
section
variable {w : World} {col : Col} {o x N : Nat} {U : List At} {K : PrK} {c : Clu} {f : Frm} {v : Value}
theorem ArrH.same {w' : World} (h : ArrH w col o x K c U N f v) (hb : Below w.heap.size w w') : ArrH w' col o x K c U N f v :=
  ⟨h.at_.same hb, h.is, h.n, h.o0, h.tab.below hb, h.ok, h.lim, h.held.kept (S := fun _ => False) (frC_same hb) id, h.fok, h.far⟩
theorem ArrH.lt (h : ArrH w col o x K c U N f v) : f.dst < K.Ds.length := by rw [h.is.len]; exact h.fok.dst
theorem ArrH.cell (h : ArrH w col o x K c U N f v) : w.cell? ⟨x, 41, none⟩ = some (.slice (some ⟨K.R, 0, none⟩) K.Ds.length K.Ds.length) ∧ w.cell? ⟨K.R, f.dst * 14, none⟩ = some (.bool (!(c.rep f.dst).down)) ∧ w.cell? ⟨x, 3, none⟩ = some (.bool c.rr) ∧ w.cell? ⟨x, 4, none⟩ = some (.int .i64 c.room) ∧ x < w.heap.size ∧ K.R < w.heap.size := by
  have h1 := h.at_.cl
  have h2 := (h.at_.cells h.lt).c0
  refine ⟨h1.2.2.2.2.1, ?_, ?_, ?_, blk_lt h.at_.blk, blk_lt h.at_.row⟩
  · rw [← (h.is.reps f.dst h.lt).up]; exact h2
  · rw [← h.is.rr]; exact h1.2.2.1
  · rw [← h.is.room]; exact h1.2.2.2.1

set_option maxRecDepth 100000 in
set_option maxHeartbeats 2000000 in
theorem prgArrive_down (h : ArrH w col o x K c U N f v) (hdn : (c.rep f.dst).down = true) :
    Calls Tryz.prog 101 #[.pointer (some ⟨x, 0, none⟩), .agg #[.int .i64 f.kind, .int .i64 f.src, .int .i64 f.dst, .int .i64 f.upto, v]] w (ArrP w col o x (c.arrived f)) := by
  obtain ⟨ad, cp, hv, -⟩ := id h.held
  subst hv
  have hbA := below_alloc (Below.refl _ w) (.cells #[.int .i64 f.kind, .int .i64 f.src, .int .i64 f.dst, .int .i64 f.upto, .slice ad f.d.length cp] 110)
  have hfb := heap_alloc_new w (.cells #[.int .i64 f.kind, .int .i64 f.src, .int .i64 f.dst, .int .i64 f.upto, .slice ad f.d.length cp] 110)
  obtain ⟨k41, kup, -, -, hx, hR⟩ := (h.same hbA).cell
  rw [hdn] at kup
  have hca : c.arrived f = c := by unfold Clu.arrived; rw [if_pos hdn]
  have HEND : Hid (∀ k, ArrP w col o x c (.returned (.tuple #[])) ((w.alloc (.cells #[.int .i64 f.kind, .int .i64 f.src, .int .i64 f.dst, .int .i64 f.upto, .slice ad f.d.length cp] 110)).drewN k)) := fun k => by
    have hb2 := below_drewN hbA k
    have hA := h.at_.same hb2
    obtain ⟨u0, u1, u2, u3⟩ := PrB.unlock (K := K) hA h.is.lk
    exact ⟨rfl, u0, u1, K, col, ⟨u2, h.is, h.n⟩, (frC_same hb2).trans (u3.mono ofOwn_lock)⟩
  obtain ⟨g0, g1, g2, g3, g4⟩ := five_cells' hfb
  rw [hca]
  have hlt := h.lt
  clear h hbA hfb hca
  generalize hLL : K.Ds.length = LL at *
  have q1 : (f.dst : Int) < (LL : Int) := by omega
  have q0 : (0 : Int) ≤ (f.dst : Int) := by omega
  go_enter Tryz.func101, Tryz.ntmps101
  go_wp2
  generalize w.alloc (.cells #[.int .i64 f.kind, .int .i64 f.src, .int .i64 f.dst, .int .i64 f.upto, .slice ad f.d.length cp] 110) = w1 at *
  go_quiet (fail)
  go_wp2
  go_end0
  exact HEND.out nq

set_option maxRecDepth 100000 in
set_option maxHeartbeats 2000000 in
theorem prgArrive_ack (h : ArrH w col o x K c U N f v) (hdn : (c.rep f.dst).down = false) (hk3 : f.kind = 3) :
    Calls Tryz.prog 101 #[.pointer (some ⟨x, 0, none⟩), .agg #[.int .i64 f.kind, .int .i64 f.src, .int .i64 f.dst, .int .i64 f.upto, v]] w (ArrP w col o x (c.arrived f)) := by
  obtain ⟨ad, cp, hv, -⟩ := id h.held
  subst hv
  have hbA := below_alloc (Below.refl _ w) (.cells #[.int .i64 f.kind, .int .i64 f.src, .int .i64 f.dst, .int .i64 f.upto, .slice ad f.d.length cp] 110)
  have hfb := heap_alloc_new w (.cells #[.int .i64 f.kind, .int .i64 f.src, .int .i64 f.dst, .int .i64 f.upto, .slice ad f.d.length cp] 110)
  have h1 := h.same hbA
  obtain ⟨k41, kup, -, -, hx, hR⟩ := h1.cell
  rw [hdn] at kup
  have hca : c.arrived f = c.setRep f.dst ((c.rep f.dst).ack (c.near f.dst) f.src f.upto) := by unfold Clu.arrived; rw [hdn, if_neg (by decide), if_pos hk3]
  have hlt := h.lt
  have hn6 := h.ok.n6
  have hd6 : f.dst < 6 := Nat.lt_of_lt_of_le h.fok.dst hn6
  have hs6 : f.src < 6 := Nat.lt_of_lt_of_le h.fok.src hn6
  have hrep := h.ok.rep h.fok.dst
  have hD := h.is.reps f.dst h.lt
  have hnum : (c.rep f.dst).num ≤ 2097152 := Nat.le_trans hrep.num h.lim.1
  have n0 := h1.at_.nearC (r := f.dst) (q := 0) hd6 (by omega)
  have n1 := h1.at_.nearC (r := f.dst) (q := 1) hd6 (by omega)
  have n2 := h1.at_.nearC (r := f.dst) (q := 2) hd6 (by omega)
  have n3 := h1.at_.nearC (r := f.dst) (q := 3) hd6 (by omega)
  have n4 := h1.at_.nearC (r := f.dst) (q := 4) hd6 (by omega)
  have n5 := h1.at_.nearC (r := f.dst) (q := 5) hd6 (by omega)
  have HLE : Hid (∀ W, Below (w.alloc (.cells #[.int .i64 f.kind, .int .i64 f.src, .int .i64 f.dst, .int .i64 f.upto, .slice ad f.d.length cp] 110)).heap.size (w.alloc (.cells #[.int .i64 f.kind, .int .i64 f.src, .int .i64 f.dst, .int .i64 f.upto, .slice ad f.d.length cp] 110)) W → Calls Tryz.prog 146 #[.pointer (some ⟨K.R, f.dst * 14, none⟩), .int .i64 f.src, .int .i64 f.upto, .agg #[.bool (K.near f.dst 0), .bool (K.near f.dst 1), .bool (K.near f.dst 2), .bool (K.near f.dst 3), .bool (K.near f.dst 4), .bool (K.near f.dst 5)]] W (ArrP w col o x (c.arrived f))) := fun W hW => by
    have hI := PrAt.inside (h1.at_.same hW) (by show K.Ds.length ≤ 6; rw [h.is.len]; exact hn6) h.lt
    refine (prgLearn hI f.src f.upto hs6 (by have := h.fok.upto; have := h.lim.1; omega) (fun q hq => ?_) (by show (K.Ds[f.dst]).base ≤ _; rw [hD.base]; have := hrep.base; omega) (K.near f.dst) (by
      show (K.Ds[f.dst]).es.length ≤ _
      have := hrep.bufL
      rw [← hD.buf, List.length_map] at this
      have := h.ok.room8
      omega)).mono ?_
    · show (K.Ds[f.dst]).ak q ≤ _
      rw [hD.ak q hq]
      by_cases hqn : q < (c.rep f.dst).acked.length
      · rw [List.getD_eq_getElem?_getD, List.getElem?_eq_getElem hqn]
        have := hrep.ack _ (List.getElem_mem hqn)
        simp only [Option.getD_some]
        omega
      · rw [List.getD_eq_getElem?_getD, List.getElem?_eq_none (by omega)]
        exact Nat.zero_le _
    rintro e w2 ⟨rfl, col2, vb2, hI2, hF2⟩
    have hD2 := hD.ack hrep hn6 (c.near f.dst) (K.near f.dst) (fun j hj => h.is.near f.dst j hd6 hj) h.far f.src f.upto h.fok.src vb2
    obtain ⟨D3, hD3, hn3, hA3⟩ := hI2.out.norm2 hD2 (U := U) (fun a ha => hrep.sub a (by
      have : ((c.rep f.dst).ack (c.near f.dst) f.src f.upto).atoms = (c.rep f.dst).atoms := rfl
      rw [this] at ha
      exact ha)) h.lim.2
    obtain ⟨u0, u1, u2, u3⟩ := PrB.unlock (K := K.setD f.dst D3) hA3 h.is.lk
    rw [hca]
    exact ⟨rfl, u0, u1, K.setD f.dst D3, col2, ⟨u2, h.is.set h.fok.dst hD3, setD_n2 h.n hn3⟩, (((frC_same hbA).trans (frC_same hW)).trans (hF2.out.mono ofOwn_prg)).trans (u3.mono ofOwn_lock)⟩
  obtain ⟨g0, g1, g2, g3, g4⟩ := five_cells' hfb
  clear h h1 hbA hfb hca hrep hD hdn hnum
  obtain ⟨fk, fs, ft, fu, fd⟩ := f
  simp only at *
  subst hk3
  generalize hLL : K.Ds.length = LL at *
  have q1 : (ft : Int) < (LL : Int) := by omega
  have q0 : (0 : Int) ≤ (ft : Int) := by omega
  have q6 : (ft : Int) < 6 := by omega
  go_enter Tryz.func101, Tryz.ntmps101
  go_wp2
  generalize w.alloc (.cells #[.int .i64 3, .int .i64 fs, .int .i64 ft, .int .i64 fu, .slice ad fd.length cp] 110) = w1 at *
  rw [Nat.add_zero] at n0
  go_quiet (fail)
  go_wp2
  go_region_law (first | (go_simp; go_at_call 146; refine (HLE.out _ (by first | exact (below_drewN (Below.refl _ _) _).drew | exact below_drewN (Below.refl _ _) _)).mono ?_; rintro e w2 hArr; obtain ⟨rfl, hArr2⟩ := id hArr; have HAR := Hid.mk hArr; clear hArr hArr2) | fail)
  all_goals go_wp2
  all_goals go_end0
  all_goals exact HAR.out
end
end Go.Proofs.YtahdlejgjcjeoabGreatDoor

namespace Go.Proofs.YtahdlejgjcjeoabGreatDoor
open Go.RowKit Go.MuLone
section
variable {w : World} {col : Col} {o x N : Nat} {U : List At} {K : PrK} {c : Clu} {f : Frm} {v : Value}
theorem arr_launch {W : World} {col1 : Col} {K2 : PrK} {c2 : Clu} (hA : PrAt W col1 o x { K2 with lk := 1 }) (his : K2.is c2) (hn : ∀ i (h : i < K2.Ds.length), (K2.Ds[i]).n ≤ 4194304) (h200 : K2.ns.length ≤ 200) (hfr : FrC (ofOwn o) col col1 w W) (a b u : Nat) :
    Calls Tryz.prog 79 #[.pointer (some ⟨x, 0, none⟩), .agg #[.int .i64 3, .int .i64 a, .int .i64 b, .int .i64 u, .slice none 0 0]] W (ArrP w col o x (c2.put ⟨3, a, b, u, []⟩)) := by
  refine (prgLaunch (f := ⟨3, a, b, u, []⟩) (v := .slice none 0 0) hA h200 ⟨none, 0, rfl, Nat.le_refl _, fun h => by simp at h⟩).mono ?_
  rintro e w' ⟨rfl, v', ns', col', p1, p2, p3⟩
  obtain ⟨u0, u1, u2, u3⟩ := PrB.unlock (K := K2.setN v' ns') p1.out his.lk
  refine ⟨rfl, u0, u1, K2.setN v' ns', col', ⟨u2, ?_, hn⟩, (hfr.trans (p3.out.mono netS_own)).trans (u3.mono ofOwn_lock)⟩
  rw [put_putN]
  exact his.setN (by rw [p2.out]; show putN (K2.ns.map Fm.f) _ = _; rw [his.nets])
theorem ArrH.below {w' : World} (h : ArrH w col o x K c U N f v) (hb : Below w.heap.size w w') : ArrH w' (paint col w.heap.size (o, 1)) o x K c U N f v :=
  ⟨h.at_.below hb (o, 1), h.is, h.n, h.o0, h.tab.kept (S := fun _ => False) (frC_below hb (o, 1)) id, h.ok, h.lim, h.held.kept (S := fun _ => False) (frC_below hb (o, 1)) id, h.fok, h.far⟩
theorem setRep_same {c : Clu} {i : Nat} (hi : i < c.reps.length) : c.setRep i (c.rep i) = c := by
  unfold Clu.setRep
  have : c.reps.set i (c.rep i) = c.reps := by
    apply List.ext_getElem?
    intro j
    rw [List.getElem?_set]
    by_cases e : i = j
    · subst e
      rw [if_pos rfl, if_pos hi, Clu.rep, List.getD_eq_getElem?_getD, List.getElem?_eq_getElem hi]
      rfl
    · rw [if_neg e]
  rw [this]

set_option maxRecDepth 100000 in
set_option maxHeartbeats 4000000 in
theorem prgArrive_state (h : ArrH w col o x K c U N f v) (hdn : (c.rep f.dst).down = false) (hk3 : f.kind ≠ 3) :
    Calls Tryz.prog 101 #[.pointer (some ⟨x, 0, none⟩), .agg #[.int .i64 f.kind, .int .i64 f.src, .int .i64 f.dst, .int .i64 f.upto, v]] w (ArrP w col o x (c.arrived f)) := by
  obtain ⟨ad, cp, hv, -⟩ := id h.held
  subst hv
  have hbA := below_alloc (Below.refl _ w) (.cells #[.int .i64 f.kind, .int .i64 f.src, .int .i64 f.dst, .int .i64 f.upto, .slice ad f.d.length cp] 110)
  have hfb := heap_alloc_new w (.cells #[.int .i64 f.kind, .int .i64 f.src, .int .i64 f.dst, .int .i64 f.upto, .slice ad f.d.length cp] 110)
  have h1 := h.below hbA
  obtain ⟨k41, kup, -, -, hx, hR⟩ := h1.cell
  rw [hdn] at kup
  have hlt := h.lt
  have hn6 := h.ok.n6
  have hd6 : f.dst < 6 := Nat.lt_of_lt_of_le h.fok.dst hn6
  have hrep := h.ok.rep h.fok.dst
  have hD := h.is.reps f.dst hlt
  have hmayA : ∀ a ∈ (c.rep f.dst).atoms, mayB a = true := fun a ha => h.ok.may a (hrep.sub a ha)
  have hmayD : ∀ a ∈ f.d, mayB a = true := fun a ha => h.ok.may a (h.fok.sub a ha)
  have hdl : f.d.length ≤ 131072 := Nat.le_trans (h.fok.told.length h.fok.sub) h.lim.2
  have h200 : K.ns.length ≤ 200 := by rw [show K.ns.length = c.net.length by rw [← h.is.nets, List.length_map]]; exact h.ok.netL
  have hca : c.arrived f = (c.setRep f.dst ((c.rep f.dst).arrive c.room c.rr f.d f.src)).put ⟨3, f.dst, f.src, f.upto, []⟩ := by unfold Clu.arrived; rw [hdn, if_neg (by decide), if_neg hk3]
  generalize hw1 : w.alloc (.cells #[.int .i64 f.kind, .int .i64 f.src, .int .i64 f.dst, .int .i64 f.upto, .slice ad f.d.length cp] 110) = w1 at *
  have hfr1 : FrC (ofOwn o) col (paint col w.heap.size (o, 1)) w w1 := frC_below hbA (o, 1)
  have hct : paint col w.heap.size (o, 1) w.heap.size = (o, 1) := paint_new col _ (Nat.le_refl _)
  generalize paint col w.heap.size (o, 1) = col1 at *
  -- unknown
  have HUN : Hid (∀ W, Below w1.heap.size w1 W → W.cell? ⟨x, 3, none⟩ = some (.bool c.rr) ∧ Calls Tryz.prog 147 #[.pointer (some ⟨K.R, f.dst * 14, none⟩), .slice ad f.d.length cp, .bool c.rr] W fun e w' => Below W.heap.size W w' ∧ ∃ v', e = .returned v' ∧ Hid (if c.rr = false ∧ fresh f.d (c.rep f.dst).atoms ≠ [] then v' = .slice ad f.d.length cp else w'.ownsRow W.heap.size 76 6 v' (fresh f.d (c.rep f.dst).atoms).length (flat (fresh f.d (c.rep f.dst).atoms)))) := fun W hW => by
    have hW2 := h1.same hW
    exact ⟨hW2.cell.2.2.1, prgUnknown K.R f.dst K.Ds[f.dst] W hW2.tab.rules (hW2.at_.cells hlt).c3 ((hW2.at_.reps f.dst hlt (by simp)).st) (c.rep f.dst).atoms hD.M _ f.d hW2.held.slice hmayD hdl c.rr⟩
  have hfree : fresh f.d (c.rep f.dst).atoms = [] → c.arrived f = c.put ⟨3, f.dst, f.src, f.upto, []⟩ := fun hf => by
    rw [hca]
    have : (c.rep f.dst).arrive c.room c.rr f.d f.src = c.rep f.dst := by unfold Rep.arrive; rw [if_pos hf]
    rw [this, setRep_same h.fok.dst]
  have HLN : Hid (fresh f.d (c.rep f.dst).atoms = [] → ∀ W, Below w1.heap.size w1 W → Calls Tryz.prog 79 #[.pointer (some ⟨x, 0, none⟩), .agg #[.int .i64 3, .int .i64 f.dst, .int .i64 f.src, .int .i64 f.upto, .slice none 0 0]] W (ArrP w col o x (c.arrived f))) := fun hf W hW => by
    rw [hfree hf]
    exact arr_launch ((h1.at_).same hW) h.is h.n h200 (hfr1.trans (frC_same hW)) _ _ _
  have HTK : Hid (fresh f.d (c.rep f.dst).atoms ≠ [] → ∀ (w2 : World) (v2 : Value), Below w1.heap.size w1 w2 → (if c.rr = false ∧ fresh f.d (c.rep f.dst).atoms ≠ [] then v2 = .slice ad f.d.length cp else w2.ownsRow w1.heap.size 76 6 v2 (fresh f.d (c.rep f.dst).atoms).length (flat (fresh f.d (c.rep f.dst).atoms))) → (∃ ad2 n2 cp2, v2 = .slice ad2 n2 cp2 ∧ 0 < n2) ∧ ∀ W, Below w2.heap.size w2 W → W.cell? ⟨x, 4, none⟩ = some (.int .i64 c.room) ∧ Calls Tryz.prog 62 #[.pointer (some ⟨K.R, f.dst * 14, none⟩), v2, .int .i64 f.src, .int .i64 c.room] W fun e w' => e = .returned (.tuple #[]) ∧ w'.heap[w.heap.size]? = W.heap[w.heap.size]? ∧ ∀ W', Below w'.heap.size w' W' → Calls Tryz.prog 79 #[.pointer (some ⟨x, 0, none⟩), .agg #[.int .i64 3, .int .i64 f.dst, .int .i64 f.src, .int .i64 f.upto, .slice none 0 0]] W' (ArrP w col o x (c.arrived f))) := fun hf w2 v2 hb2 hcase => by
    have h2 := h1.below hb2
    have htl : w.heap.size < w1.heap.size := blk_lt hfb
    have hct2 : paint col1 w1.heap.size (o, 1) w.heap.size = (o, 1) := by rw [paint_old _ _ htl]; exact hct
    obtain ⟨DL, hDL, hmay, hsub, hle, hpos, harr⟩ : ∃ DL, Held w2 (paint col1 w1.heap.size (o, 1)) (o, 1) v2 DL ∧ (∀ a ∈ DL, mayB a = true) ∧ (∀ a ∈ DL, a ∈ U) ∧ DL.length ≤ 131072 ∧ 0 < DL.length ∧ (c.rep f.dst).arrive c.room c.rr f.d f.src = (c.rep f.dst).take c.room DL f.src := by
      have hfp : 0 < (fresh f.d (c.rep f.dst).atoms).length := List.length_pos_iff.2 hf
      have hfs : ∀ a ∈ fresh f.d (c.rep f.dst).atoms, a ∈ f.d := fresh_sub h.fok.told
      have hfl := (fresh_told (m := (c.rep f.dst).atoms) h.fok.told).length (U := U) (fun a ha => h.fok.sub a (hfs a ha))
      by_cases hrr : c.rr = false
      · rw [if_pos ⟨hrr, hf⟩] at hcase
        refine ⟨f.d, by rw [hcase]; exact h2.held, hmayD, h.fok.sub, hdl, ?_, by unfold Rep.arrive; rw [if_neg hf, hrr]; rfl⟩
        obtain ⟨a, ha⟩ := List.exists_mem_of_length_pos hfp
        exact List.length_pos_of_mem (hfs a ha)
      · rw [if_neg (fun e => hrr e.1)] at hcase
        refine ⟨fresh f.d (c.rep f.dst).atoms, held_made rfl hcase, fun a ha => hmayD a (hfs a ha), fun a ha => h.fok.sub a (hfs a ha), Nat.le_trans hfl h.lim.2, hfp, ?_⟩
        unfold Rep.arrive
        rw [if_neg hf, show c.rr = true by simpa using hrr]
        rfl
    obtain ⟨ad2, cp2, hv2, -⟩ := id hDL
    refine ⟨⟨ad2, DL.length, cp2, hv2, hpos⟩, fun W hW => ?_⟩
    have h3 := h2.same hW
    refine ⟨h3.cell.2.2.2.1, ?_⟩
    have hI := PrAt.inside h3.at_ (by show K.Ds.length ≤ 6; rw [h.is.len]; exact hn6) hlt
    have hes : (K.Ds[f.dst]).es.length ≤ 1024 := by
      have := hrep.bufL
      rw [← hD.buf, List.length_map] at this
      have := h.ok.room8
      omega
    refine (prgTake hI h.o0 h3.tab v2 DL (hDL.kept (S := fun _ => False) (frC_same hW) id) hmay hle f.src c.room (by show (K.Ds[f.dst]).num ≤ _; rw [hD.num]; have := hrep.num; have := h.lim.1; omega) (by show (K.Ds[f.dst]).bytes.length ≤ _; rw [hD.bytes]; have := log_len hrep h.lim; omega) hes (by have := h.n f.dst hlt; show (K.Ds[f.dst]).n ≤ _; omega)).mono ?_
    rintro e w3 ⟨rfl, col3, vb3, vl3, hI3, hF3⟩
    have htW : w.heap.size < W.heap.size := Nat.lt_of_lt_of_le htl (Nat.le_trans hb2.size hW.size)
    refine ⟨rfl, hF3.out.fr.block _ htW (by rw [hct2]; exact ofPrg_one hd6), fun W' hW' => ?_⟩
    have hD3 := hD.take hrep h.ok.room1 (torn_up hrep hdn) v2 DL f.src vb3 vl3
    obtain ⟨D4, hD4, hn4, hA4⟩ := hI3.out.norm2 hD3 (U := U) (fun a ha => by
      have : a ∈ (c.rep f.dst).atoms ++ DL := by
        rw [hrep.take_eq _ _ h.ok.room1] at ha
        split at ha <;> exact ha
      rcases List.mem_append.1 this with h5 | h5
      · exact hrep.sub a h5
      · exact hsub a h5) h.lim.2
    rw [hca, harr]
    exact arr_launch (K2 := K.setD f.dst D4) (hA4.same hW') (h.is.set h.fok.dst hD4) (setD_n2 h.n hn4) h200 ((((hfr1.trans (frC_below hb2 (o, 1))).trans (frC_same hW)).trans (hF3.out.mono ofOwn_prg)).trans (frC_same hW')) _ _ _
  have k3 := (HUN.out w1 (Below.refl _ _)).1
  have HUN2 := Hid.mk (fun W hW => (HUN.out W hW).2)
  obtain ⟨g0, g1, g2, g3, g4⟩ := five_cells' hfb
  have HFB := Hid.mk hfb
  clear h h1 hbA hca hrep hD hmayA hmayD hfree hfr1 HUN hfb
  generalize fresh f.d (c.rep f.dst).atoms = FR at *
  generalize hLL : K.Ds.length = LL at *
  have q1 : (f.dst : Int) < (LL : Int) := by omega
  have q0 : (0 : Int) ≤ (f.dst : Int) := by omega
  have hk3' : ¬ (f.kind : Int) = 3 := by omega
  have htl : w.heap.size < w1.heap.size := blk_lt HFB.out
  by_cases hfe : FR = []
  · have HL := Hid.mk (HLN.out hfe)
    subst hfe
    clear HTK HLN
    go_enter Tryz.func101, Tryz.ntmps101
    go_wp2
    go_quiet (fail)
    go_wp2
    go_region_law (first | (go_simp; go_at_call 147; refine (HUN2.out _ (by first | exact (below_drewN (Below.refl _ _) _).drew | exact below_drewN (Below.refl _ _) _)).mono ?_; rintro e w2 ⟨hb2, v2, rfl, hcase⟩; have HB2 := Hid.mk ((by first | exact (below_drewN (Below.refl _ _) _).drew | exact below_drewN (Below.refl _ _) _ : Below w1.heap.size w1 _).trans hb2); have HCS := Hid.mk hcase; clear hb2 hcase) | fail)
    all_goals
      obtain ⟨ad2, cp2, hv2⟩ : ∃ ad2 cp2, v2 = .slice ad2 0 cp2 := by
        have := HCS.out
        rw [if_neg (by simp)] at this
        exact own_form this
      subst hv2
      have hfb2 := (HB2.out.block _ htl).trans HFB.out
      obtain ⟨m0, m1, m2, m3, m4⟩ := five_cells' hfb2
      have hml := blk_lt hfb2
      clear hfb2 HCS
      go_wp2_with fail
      refine (HL.out _ HB2.out).mono ?_
      rintro e w5 hP
      obtain ⟨rfl, hP2⟩ := id hP
      have HP := Hid.mk hP
      clear hP hP2
      go_wp2
      go_end0
      exact HP.out
  · have HT := Hid.mk (HTK.out hfe)
    clear HTK HLN
    go_enter Tryz.func101, Tryz.ntmps101
    go_wp2
    go_quiet (fail)
    go_wp2
    go_region_law (first | (go_simp; go_at_call 147; refine (HUN2.out _ (by first | exact (below_drewN (Below.refl _ _) _).drew | exact below_drewN (Below.refl _ _) _)).mono ?_; rintro e w2 ⟨hb2, v2, rfl, hcase⟩; have HB2 := Hid.mk ((by first | exact (below_drewN (Below.refl _ _) _).drew | exact below_drewN (Below.refl _ _) _ : Below w1.heap.size w1 _).trans hb2); have HCS := Hid.mk hcase; clear hb2 hcase) | fail)
    all_goals
      obtain ⟨⟨ad2, n2, cp2, hv2, hn2⟩, HTA⟩ := HT.out w2 v2 HB2.out HCS.out
      subst hv2
      have hn2' : (0 : Int) < (n2 : Int) := by omega
      have k4 := (HTA w2 (Below.refl _ _)).1
      have HTB := Hid.mk (fun W hW => (HTA W hW).2)
      have hfb2 := (HB2.out.block _ htl).trans HFB.out
      obtain ⟨m0, m1, m2, m3, m4⟩ := five_cells' hfb2
      have hml := blk_lt hfb2
      have HM2 := Hid.mk hfb2
      clear hfb2 HCS HTA
      go_wp2
      go_region_law (first | (go_simp; go_at_call 62; refine (HTB.out _ (by first | exact (Below.refl _ _).drew | exact Below.refl _ _)).mono ?_; rintro e w3 ⟨rfl, htt, hla⟩; have HLA := Hid.mk hla; have htt2 : w3.heap[w.heap.size]? = some (.cells #[.int .i64 f.kind, .int .i64 f.src, .int .i64 f.dst, .int .i64 f.upto, .slice ad f.d.length cp] 110 (0, 0)) := htt.trans HM2.out; obtain ⟨l0, l1, l2, l3, l4⟩ := five_cells' htt2; have hll := blk_lt htt2; clear htt htt2 hla) | fail)
      all_goals
        go_wp2_with fail
        refine (HLA.out _ (Below.refl _ _)).mono ?_
        rintro e w5 hP
        obtain ⟨rfl, hP2⟩ := id hP
        have HP := Hid.mk hP
        clear hP hP2
        go_wp2
        go_end0
        exact HP.out
end
end Go.Proofs.YtahdlejgjcjeoabGreatDoor

namespace Go.Proofs.YtahdlejgjcjeoabGreatDoor
open Go.RowKit Go.MuLone

theorem prgArrive {w : World} {col : Col} {o x N : Nat} {U : List At} {K : PrK} {c : Clu} {f : Frm} {v : Value} (h : ArrH w col o x K c U N f v) :
    Calls Tryz.prog 101 #[.pointer (some ⟨x, 0, none⟩), .agg #[.int .i64 f.kind, .int .i64 f.src, .int .i64 f.dst, .int .i64 f.upto, v]] w (ArrP w col o x (c.arrived f)) := by
  cases hd : (c.rep f.dst).down with
  | true => exact prgArrive_down h hd
  | false =>
    by_cases hk : f.kind = 3
    · exact prgArrive_ack h hd hk
    · exact prgArrive_state h hd hk

set_option maxRecDepth 100000 in
set_option maxHeartbeats 2000000 in
theorem prgDeliver {w : World} {col : Col} {o x N : Nat} {U : List At} {K : PrK} {c : Clu} (h : PrgAt w col o x K c) (ho : o ≠ 0) (hT : Tab w col) (hok : c.ok U N) (hL : Lim U N) (hfar : ∀ i j, c.reps.length ≤ j → c.near i j = false) (k : Int) :
    Calls Tryz.prog 49 #[.pointer (some ⟨x, 0, none⟩), .int .i64 k] w fun e w' => e = .returned (.int .i64 (c.netErr k)) ∧ ∃ K' col', Hid (PrgAt w' col' o x K' (c.deliver k)) ∧ Hid (FrC (ofOwn o) col col' w w') := by
  have hcl := h.at_.clAt h.is.lk
  by_cases hk : 0 ≤ k ∧ k < c.net.length
  · obtain ⟨m, rfl⟩ : ∃ m : Nat, k = m := ⟨k.toNat, by omega⟩
    have hm : m < c.net.length := by omega
    obtain ⟨e1, -, -, e2⟩ := netErr_yes hm
    rw [e1, e2]
    have hmn : m < K.ns.length := by rw [h.lenN]; exact hm
    have hl200 : K.ns.length ≤ 200 := by rw [h.lenN]; exact hok.netL
    obtain ⟨k1, k2⟩ := h.locked
    have hfm : c.frm m = (K.ns[m]).f := by
      unfold Clu.frm
      rw [← h.is.nets, List.getD_eq_getElem?_getD, List.getElem?_map, List.getElem?_eq_getElem hmn]
      rfl
    have hin : (K.ns[m]).f ∈ c.net := by rw [← h.is.nets]; exact List.mem_map_of_mem (List.getElem_mem hmn)
    have HFR := Hid.mk (frame_yes (k := m) k1 hmn)
    have HLO := Hid.mk (fun W (hb : Below (w.setCell ⟨x, 0, none⟩ (.int .i32 1)).heap.size (w.setCell ⟨x, 0, none⟩ (.int .i32 1)) W) => prgLose (k1.below hb (o, 1)) hmn hl200)
    have HAR : Hid (∀ (W W' : World) (v' : Value), Below (w.setCell ⟨x, 0, none⟩ (.int .i32 1)).heap.size (w.setCell ⟨x, 0, none⟩ (.int .i32 1)) W → PrB W' (paint col (w.setCell ⟨x, 0, none⟩ (.int .i32 1)).heap.size (o, 1)) o x none (({ K with lk := 1 } : PrK).setN v' (K.ns.eraseIdx m)) → FrC (netS o) (paint col (w.setCell ⟨x, 0, none⟩ (.int .i32 1)).heap.size (o, 1)) (paint col (w.setCell ⟨x, 0, none⟩ (.int .i32 1)).heap.size (o, 1)) W W' →
        (∀ t, (w.setCell ⟨x, 0, none⟩ (.int .i32 1)).heap.size ≤ t → t < W.heap.size → W'.heap[t]? = W.heap[t]?) ∧ Calls Tryz.prog 101 #[.pointer (some ⟨x, 0, none⟩), .agg (K.ns[m]).cells.toArray] W' fun e w' => e = .returned (.tuple #[]) ∧ w'.cell? ⟨x, 0, none⟩ = some (.int .i32 1) ∧ w'.frozen? ⟨x, 0, none⟩ = false ∧ ∃ K' col', Hid (PrgAt (w'.setCell ⟨x, 0, none⟩ (.int .i32 0)) col' o x K' ((c.out m).arrived (c.frm m))) ∧ Hid (FrC (ofOwn o) col col' w (w'.setCell ⟨x, 0, none⟩ (.int .i32 0)))) := fun W W' v' hb h1 h2 => by
      have hF : FrC (ofOwn o) col (paint col (w.setCell ⟨x, 0, none⟩ (.int .i32 1)).heap.size (o, 1)) w W' := (k2.trans (frC_below hb (o, 1))).trans (h2.mono netS_own)
      refine ⟨fun t h3 h4 => h2.fr.block t h4 (by rw [paint_new _ _ h3]; exact netS_ne (by omega) (by omega)), ?_⟩
      have hA : ArrH W' (paint col (w.setCell ⟨x, 0, none⟩ (.int .i32 1)).heap.size (o, 1)) o x (K.setN v' (K.ns.eraseIdx m)) (c.out m) U N (c.frm m) (K.ns[m]).v := {
        at_ := h1
        is := h.is.setN (by rw [map_erase, h.is.nets])
        n := h.n
        o0 := ho
        tab := hT.kept hF (fun e => ho e.symm)
        ok := hok.out m
        lim := hL
        held := by
          rw [hfm]
          exact ((k1.netd _ (List.getElem_mem hmn)).kept (S := fun _ => False) (frC_below hb (o, 1)) id).kept h2 (netS_ne (by omega) (by omega))
        fok := by rw [hfm]; exact hok.net _ hin
        far := fun j hj => hfar _ j hj }
      refine Calls.mono (show Calls Tryz.prog 101 #[.pointer (some ⟨x, 0, none⟩), .agg (K.ns[m]).cells.toArray] W' _ from by have := prgArrive hA; rw [hfm] at this; exact this) ?_
      rintro e w' ⟨rfl, u0, u1, K', col', p1, p2⟩
      rw [hfm]
      exact ⟨rfl, u0, u1, K', col', p1, hF.trans p2.out⟩
    obtain ⟨adv, cpv, hvv, -⟩ := h.at_.netd _ (List.getElem_mem hmn)
    clear k1 k2 h hok hfm hin hT hL hfar
    unfold Fm.cells at HFR HAR
    generalize K.ns[m] = fm at *
    obtain ⟨⟨f0, f1, f2, f3, fd⟩, fv⟩ := fm
    simp only at hvv HFR HAR
    subst hvv
    go_enter_defers Tryz.func49, Tryz.ntmps49
    go_wp2_with (go_at_call 44; refine (lock_free muLib ⟨x, 0, none⟩ _ hcl.c0 hcl.f0).mono ?_; rintro e w' ⟨rfl, rfl⟩)
    refine HFR.out.mono ?_
    rintro e w2 ⟨rfl, hb2⟩
    go_wp2_with fail
    refine (HLO.out _ (below_alloc hb2 _)).mono ?_
    rintro e w3 ⟨rfl, v', h3, f3'⟩
    obtain ⟨hkeep, har⟩ := HAR.out _ _ v' (below_alloc hb2 _) h3.out f3'.out
    have hfb := (hkeep w2.heap.size hb2.size (by simp)).trans (heap_alloc_new w2 _)
    obtain ⟨l0, l1, l2, l3, l4⟩ := five_cells' hfb
    have hll := blk_lt hfb
    have HARR := Hid.mk har
    clear har hkeep hfb h3 f3' HAR HLO HFR hb2
    go_wp2_with fail
    refine HARR.out.mono ?_
    rintro e w4 ⟨rfl, u0, u1, K4, col4, hK4, hF4⟩
    clear HARR
    go_wp2
    refine leaves_cons (f := 45) (args := #[.pointer (some ⟨x, 0, none⟩)]) (by simp) (by simp [go_sem]) ?_
    refine (unlock_deferred muLib ⟨x, 0, none⟩ .returning _ u0 u1).mono ?_
    rintro e u' w'' ⟨rfl, rfl, rfl⟩
    exact ⟨_, results_tmp rfl _ _ _, rfl, K4, col4, hK4, hF4⟩
  · obtain ⟨e1, -, -, e2⟩ := netErr_no hk
    rw [e1, e2]
    obtain ⟨ad, cap, hv, _⟩ := h.at_.net.form
    have c42 := h.at_.cl.2.2.2.2.2.1
    rw [hv] at c42
    exact (prgDeliver_no x K.R _ _ k w hcl ad K.ns.length cap c42 (by rw [h.lenN]; exact hk)).mono fun e w' ⟨h1, h2⟩ => ⟨h1, K, col, h.same h2, frC_same h2⟩
end Go.Proofs.YtahdlejgjcjeoabGreatDoor

namespace Go.Proofs.YtahdlejgjcjeoabGreatDoor

/-- The N of a slot hangs on the state alone. -/
theorem grd_n {x y : At} (h : grd x y ≤ 0) : x.n ≤ y.n := by
  unfold grd at h
  split at h
  · simp only [sgn] at h
    split at h
    · omega
    · split at h <;> omega
  · omega
theorem hadN_fold (a : At) (l : List At) : ∀ z : Int, (∀ x ∈ l, plc x a = 0 → x.n ≤ l.foldl (fun n x => if plc x a = 0 ∧ n < x.n then x.n else n) z) ∧ z ≤ l.foldl (fun n x => if plc x a = 0 ∧ n < x.n then x.n else n) z ∧ (l.foldl (fun n x => if plc x a = 0 ∧ n < x.n then x.n else n) z = z ∨ ∃ x ∈ l, plc x a = 0 ∧ l.foldl (fun n x => if plc x a = 0 ∧ n < x.n then x.n else n) z = x.n) := by
  induction l with
  | nil => intro z; exact ⟨fun x hx => (by cases hx), Int.le_refl _, .inl rfl⟩
  | cons y l ih =>
    intro z
    rw [List.foldl_cons]
    generalize hz : (if plc y a = 0 ∧ z < y.n then y.n else z) = z'
    obtain ⟨h1, h2, h3⟩ := ih z'
    have hzz : z ≤ z' := by rw [← hz]; split <;> omega
    refine ⟨fun x hx hp => ?_, Int.le_trans hzz h2, ?_⟩
    · rcases List.mem_cons.1 hx with rfl | hx
      · refine Int.le_trans ?_ h2
        rw [← hz]
        by_cases hl : z < x.n
        · rw [if_pos ⟨hp, hl⟩]; exact Int.le_refl _
        · rw [if_neg (fun e => hl e.2)]; omega
      · exact h1 x hx hp
    · rcases h3 with h3 | ⟨x, hx, hp, h3⟩
      · rw [h3, ← hz]
        split
        · rename_i hc
          exact .inr ⟨y, by simp, hc.1, rfl⟩
        · exact .inl rfl
      · exact .inr ⟨x, by simp [hx], hp, h3⟩
theorem hadN_lo {l m : List At} (h : Lo l m) (a : At) : hadN l a ≤ hadN m a := by
  unfold hadN
  obtain ⟨_, _, h3⟩ := hadN_fold a l 0
  obtain ⟨k1, k2, _⟩ := hadN_fold a m 0
  rcases h3 with h3 | ⟨x, hx, hp, h3⟩
  · rw [h3]; exact k2
  · rw [h3]
    obtain ⟨y, hy, p1, g1⟩ := h x hx
    exact Int.le_trans (grd_n g1) (k1 y hy (plc_zero_trans (plc_symm p1) hp))
theorem hadN_eq {l m : List At} (h : Lo l m) (k : Lo m l) (a : At) : hadN l a = hadN m a := Int.le_antisymm (hadN_lo h a) (hadN_lo k a)
theorem opAtom_eq {l m : List At} (h : Lo l m) (k : Lo m l) (r : Nat) (o : OpV) : opAtom l r o = opAtom m r o := by
  unfold opAtom
  simp only [hadN_eq h k]

section
variable {S : Hst} {c : Clu} {U : List At} {N : Nat}
theorem Inv.update0 (h : Inv S c) (hok : c.ok U N) (r : Int) (o : OpV) (he : c.opErr r o = 0) {T : List At} (hT : T = c.top S r.toNat ++ [opAtom (c.rep r.toNat).atoms r.toNat o]) : Inv (S.add r.toNat (c.last r.toNat + 1) T) (c.update r o) ∧ ∀ q, Lo (c.top S q) ((c.update r o).top (S.add r.toNat (c.last r.toNat + 1) T) q) := by
  obtain ⟨hw, hf, hn⟩ := opErr_zero he
  obtain ⟨⟨_, hr⟩, hd⟩ := works_zero hw
  unfold Clu.update
  rw [if_pos he]
  subst hT
  exact h.take hok hr hd (lo_left _ _) (lo_right _ _) (Lo.refl _) (.inl rfl)
theorem Inv.update (h : Inv S c) (hok : c.ok U N) (r : Int) (o : OpV) : ∃ S', Inv S' (c.update r o) ∧ ∀ q, Lo (c.top S q) ((c.update r o).top S' q) := by
  by_cases he : c.opErr r o = 0
  · exact ⟨_, h.update0 hok r o he rfl⟩
  · unfold Clu.update
    rw [if_neg he]
    exact ⟨S, h, fun _ => Lo.refl _⟩
/-- A whole record that was written while the replica went down. -/
theorem Inv.fallen (h : Inv S c) (hok : c.ok U N) {r : Nat} (hr : r < c.reps.length) (hd : (c.rep r).down = false) {d T : List At} (h1 : Lo (c.top S r) T) (h2 : Lo d T) (h3 : Lo T (c.top S r ++ d)) {p : Rep} (hp : p = { c.rep r with log := (c.rep r).log ++ [⟨1, (c.rep r).num + 1, d⟩] }) :
    Inv (S.add r (c.last r + 1) T) (c.setRep r p.fall) ∧ ∀ q, Lo (c.top S q) ((c.setRep r p.fall).top (S.add r (c.last r + 1) T) q) := by
  have H := h.reps r hr
  have hO := hok.rep hr
  have hnl : c.last r = (c.rep r).num := (hO.up hd).symm
  have hl : lastNum p.fall.log = c.last r + 1 := by
    rw [hp]
    show lastNum ((c.rep r).log ++ [_]) = _
    rw [lastNum_app, hnl]
  have hS := add_upto S c r T
  refine h.setRep hok hr (add_zero S r _ T h.zero) hS (by rw [hl, add_at]; exact h1) (RInv.fall (add_zero S r _ T h.zero) (fun j k hj hk => ?_) ?_)
  · have hk' : k ≤ c.last r + 1 := by rw [← hl]; exact hk
    by_cases ek : k = c.last r + 1
    · subst ek
      rw [add_at]
      by_cases ej : j = c.last r + 1
      · subst ej; rw [add_at]; exact Lo.refl _
      · rw [hS r j (by omega)]
        exact (H.mono j (c.last r) (by omega) (Nat.le_refl _)).trans h1
    · rw [hS r k (by omega), hS r j (by omega)]
      exact H.mono j k hj (by show k ≤ c.last r; omega)
  · have hT : (c.setRep r p.fall).top (S.add r (c.last r + 1) T) r = T := by
      unfold Clu.top
      rw [last_setRep c r r _ hr, if_pos rfl, hl, add_at]
    rw [hT]
    unfold Rep.dur
    rw [hp]
    show Lo (((c.rep r).log ++ [(⟨1, (c.rep r).num + 1, d⟩ : Rec)]).map (fun x => x.d)).flatten T ∧ Lo T (((c.rep r).log ++ [(⟨1, (c.rep r).num + 1, d⟩ : Rec)]).map (fun x => x.d)).flatten
    rw [dur_app]
    exact ⟨(H.log.1.trans h1).app h2, h3.trans (H.log.2.both (Lo.refl _))⟩
theorem Inv.copyF (h : Inv S c) (k : Int) : Inv S (c.copyF k) := by
  unfold Clu.copyF
  split
  · rename_i hk
    exact h.put (h.net _ (frm_mem (has_lt hk).2))
  · exact h
end
theorem inv_new (room : Nat) (bp rr : Bool) (n : Nat) (f : Nat → Nat → Bool) : Inv (fun _ _ => []) (clu0 room bp rr n f) := by
  refine ⟨fun _ => rfl, fun r hr => ?_, fun f hf => (by cases hf)⟩
  have hl : r < n := by simpa [clu0] using hr
  have e : (clu0 room bp rr n f).rep r = rep0 n := by
    unfold Clu.rep clu0
    simp [List.getD_eq_getElem?_getD, hl]
  rw [e]
  exact ⟨fun _ _ _ _ => Lo.nil _, ⟨Lo.nil _, Lo.nil _⟩, fun _ => ⟨Lo.nil _, Lo.nil _⟩, fun e he => (by cases he), fun k _ h2 => absurd h2 (Nat.not_lt_zero k), fun _ _ => Lo.nil _⟩

/-- What P16 leans on, with no histories in it. -/
def Clu.inv (c : Clu) : Prop := ∃ S, Inv S c
/-- What each replica has for good, it goes on having. -/
def Clu.more (c c' : Clu) : Prop := ∀ q, q < c.reps.length → Lo (c.rep q).dur (c'.rep q).dur
theorem Clu.more.refl (c : Clu) : c.more c := fun _ _ => Lo.refl _
theorem more_of {S S' : Hst} {c c' : Clu} (h : Inv S c) (h' : Inv S' c') (hl : c'.reps.length = c.reps.length) (ht : ∀ q, Lo (c.top S q) (c'.top S' q)) : c.more c' := fun q hq =>
  ((h.reps q hq).log.1.trans (ht q)).trans (h'.reps q (by omega)).log.2
theorem Clu.inv.up {c : Clu} (h : c.inv) {q : Nat} (hq : q < c.reps.length) (hu : (c.rep q).down = false) : Lo (c.rep q).atoms (c.rep q).dur ∧ Lo (c.rep q).dur (c.rep q).atoms := by
  obtain ⟨S, h⟩ := h
  exact ⟨((h.reps q hq).up hu).1.trans (h.reps q hq).log.2, (h.reps q hq).log.1.trans ((h.reps q hq).up hu).2⟩
section
variable {c : Clu} {U : List At} {N : Nat}
theorem len_setRep (c : Clu) (i : Nat) (p : Rep) : (c.setRep i p).reps.length = c.reps.length := by simp [Clu.setRep]
theorem len_put (c : Clu) (f : Frm) : (c.put f).reps.length = c.reps.length := by unfold Clu.put; split <;> rfl
theorem len_update (c : Clu) (r : Int) (o : OpV) : (c.update r o).reps.length = c.reps.length := by unfold Clu.update; split; exact len_setRep _ _ _; rfl
theorem len_tornOp (c : Clu) (r : Int) (o : OpV) (k : Int) : (c.tornOp r o k).reps.length = c.reps.length := by unfold Clu.tornOp; split; exact len_setRep _ _ _; rfl
theorem len_crash (c : Clu) (r : Int) : (c.crash r).reps.length = c.reps.length := by unfold Clu.crash; split; exact len_setRep _ _ _; rfl
theorem len_start (c : Clu) (r : Int) : (c.start r).reps.length = c.reps.length := by unfold Clu.start; split; exact len_setRep _ _ _; rfl
theorem len_compact (c : Clu) (r : Int) : (c.compact r).reps.length = c.reps.length := by unfold Clu.compact; split; exact len_setRep _ _ _; rfl
theorem Clu.inv.update (h : c.inv) (hok : c.ok U N) (r : Int) (o : OpV) : (c.update r o).inv ∧ c.more (c.update r o) := by
  obtain ⟨S, h⟩ := h
  obtain ⟨S', h1, h2⟩ := h.update hok r o
  exact ⟨⟨S', h1⟩, more_of h h1 (len_update _ _ _) h2⟩
end
end Go.Proofs.YtahdlejgjcjeoabGreatDoor
