/- Where the law Same stands; what every call keeps. No walk. -/
import Derived.Test.YtahdlejgjcjeoabGreatDoorS23
import Derived.Test.YtahdlejgjcjeoabGreatDoorS14
import Derived.Test.YtahdlejgjcjeoabGreatDoorS31
import Derived.Test.YtahdlejgjcjeoabGreatDoorS28
namespace Go.Proofs.YtahdlejgjcjeoabGreatDoor
open Go.RowKit Go.MuLone

set_option maxRecDepth 100000 in
set_option maxHeartbeats 2000000 in
theorem prgReplica_at {w : World} {x R n i : Nat} (up : Bool) (nu ba fr we : Nat) (ak : Nat → Nat) (h0 : ClAt w x R n n) (h1 : 1 ≤ n) (h6 : n ≤ 6) (hi : i < n) (p0 : w.cell? ⟨R, i * 14, none⟩ = some (.bool up)) (p1 : w.cell? ⟨R, i * 14 + 1, none⟩ = some (.int .i64 nu)) (p2 : w.cell? ⟨R, i * 14 + 2, none⟩ = some (.int .i64 ba)) (p12 : w.cell? ⟨R, i * 14 + 12, none⟩ = some (.int .i64 fr)) (p13 : w.cell? ⟨R, i * 14 + 13, none⟩ = some (.int .i64 we)) (pak : ∀ q, q < 6 → w.cell? ⟨R, i * 14 + (5 + q), none⟩ = some (.int .i64 (ak q))) :
    Calls Tryz.prog 59 #[.pointer (some ⟨x, 0, none⟩), .int .i64 i] w fun e w' => ∃ v, e = .returned (.tuple #[.agg #[.bool up, .int .i64 nu, .int .i64 ba, v, .int .i64 fr, .int .i64 we], .int .i64 0]) ∧ w'.ownsRow w.heap.size 3 1 v n (ints ((List.range n).map ak)) ∧ Below w.heap.size w w' := by
  have h : ClAt (w.alloc (.cells zRep.toArray 134)) x R n n := h0.below ((Below.refl _ w).alloc (Nat.le_refl _) _) h0.lt
  have hlt := h0.lt
  have hxR := h0.xR
  go_enter_defers Tryz.func59, Tryz.ntmps59
  go_wp2_with (go_at_call 44; refine (lock_free muLib ⟨x, 0, none⟩ _ h.c0 h.f0).mono ?_; rintro e wl ⟨rfl, hwl⟩; have HL := Hid.mk (lockA h0 hwl); clear hwl)
  refine (one_yes x R i n n _ HL.out.c41 hi).mono ?_
  rintro e w1 ⟨rfl, rfl⟩
  have c41 := HL.out.c41
  have b0 := HL.out.old R _ _ (Ne.symm hxR) p0
  have b1 := HL.out.old R _ _ (Ne.symm hxR) p1
  have b2 := HL.out.old R _ _ (Ne.symm hxR) p2
  have b12 := HL.out.old R _ _ (Ne.symm hxR) p12
  have b13 := HL.out.old R _ _ (Ne.symm hxR) p13
  have HC : Hid (∀ W, Below w1.heap.size w1 W → Calls Tryz.prog 107 #[.slice (some ⟨R, i * 14 + 5, none⟩) n 6] W fun e w' => ∃ v, e = .returned v ∧ w'.ownsRow W.heap.size 3 1 v n (ints ((List.range n).map ak)) ∧ Below W.heap.size W w') := by
    intro W hW
    have hRl : R < w1.heap.size := by
      obtain ⟨cs, e, fz, hh, _⟩ := Go.Sort.cells_of_cell? b0
      exact (Array.getElem?_eq_some_iff.1 hh).1
    have hcell : ∀ j, j < 6 → W.cell? ⟨R, i * 14 + 5 + j, none⟩ = some (.int .i64 (ak j)) := by
      intro j hj
      rw [hW.cell (p := ⟨R, _, none⟩) hRl]
      refine HL.out.old R _ _ (Ne.symm hxR) ?_
      have := pak j hj
      rwa [← Nat.add_assoc] at this
    refine (cloneInts R (i * 14 + 5) n 6 ((List.range n).map fun q => (ak q : Int)) W (by simp) (fun j hj => ?_) (by omega) (by omega)).mono ?_
    · have hj' : j < n := by simpa using hj
      rw [List.getElem_map, List.getElem_range]
      exact hcell j (by omega)
    · rintro e w' ⟨v, rfl, ho, hb⟩
      refine ⟨v, rfl, ?_, hb⟩
      have he : ((List.range n).map fun q => (ak q : Int)).map (.int .i64 ·) = ints ((List.range n).map ak) := by simp [ints]
      rw [← he]
      exact ho
  have HFX : Hid (∀ W, Below w1.heap.size w1 W → (W.cell? ⟨w.heap.size, 0, none⟩ = some (.bool false) ∧ W.cell? ⟨w.heap.size, 1, none⟩ = some (.int .i64 0) ∧ W.cell? ⟨w.heap.size, 2, none⟩ = some (.int .i64 0) ∧ W.cell? ⟨w.heap.size, 3, none⟩ = some (.slice none 0 0) ∧ W.cell? ⟨w.heap.size, 4, none⟩ = some (.int .i64 0) ∧ W.cell? ⟨w.heap.size, 5, none⟩ = some (.int .i64 0)) ∧ (∀ k, W.frozen? ⟨w.heap.size, k, none⟩ = false) ∧ W.heap[w.heap.size]? = some (.cells zRep.toArray 134 (0, 0))) := by
    intro W hW
    have hr1 := (hW.block _ (blk_lt HL.out.blk)).trans HL.out.blk
    exact ⟨⟨blk_cell hr1 0, blk_cell hr1 1, blk_cell hr1 2, blk_cell hr1 3, blk_cell hr1 4, blk_cell hr1 5⟩, blk_thaw hr1, hr1⟩
  have hRl : R < w1.heap.size := by
    obtain ⟨cs, e, fz, hh, _⟩ := Go.Sort.cells_of_cell? b0
    exact (Array.getElem?_eq_some_iff.1 hh).1
  have hRq : R ≠ w.heap.size := by
    obtain ⟨cs, e, fz, hh, _⟩ := Go.Sort.cells_of_cell? p0
    have := (Array.getElem?_eq_some_iff.1 hh).1
    omega
  have hxq : x ≠ w.heap.size := by omega
  have hRq' : w.heap.size ≠ R := Ne.symm hRq
  have hxq' : w.heap.size ≠ x := Ne.symm hxq
  have hxl : x < w1.heap.size := by rw [HL.out.size]; omega
  have hql : w.heap.size < w1.heap.size := by rw [HL.out.size]; omega
  clear p0 p1 p2 p12 p13 pak h h0
  have q1 : (i : Int) < (n : Int) := by omega
  have q6 : (n : Int) ≤ 6 := by omega
  have q0 : (0 : Int) ≤ (n : Int) := by omega
  go_wp2
  go_region_held3 (fun w' => w'.cell? ⟨x, 41, none⟩ = some (.slice (some ⟨R, 0, none⟩) n n) ∧ w'.cell? ⟨R, i * 14, none⟩ = some (.bool up) ∧ w'.cell? ⟨R, i * 14 + 1, none⟩ = some (.int .i64 nu) ∧ w'.cell? ⟨R, i * 14 + 2, none⟩ = some (.int .i64 ba) ∧ w'.cell? ⟨R, i * 14 + 12, none⟩ = some (.int .i64 fr) ∧ w'.cell? ⟨R, i * 14 + 13, none⟩ = some (.int .i64 we)) (first | go_keep | (go_split_ands; refine ⟨?_, ?_, ?_, ?_, ?_, ?_⟩ <;> (first | (rw [hb2.cell (p := ⟨R, _, none⟩) (by simpa using hRl)]; assumption) | (rw [hb2.cell (p := ⟨x, _, none⟩) (by simpa using hxl)]; assumption)))) (first | (go_at_call 107; refine (HC.out _ (Below.refl _ _).drew).mono ?_; rintro e w2 ⟨v, rfl, ho2, hb2⟩; obtain ⟨ad2, cp2, hv2⟩ := own_form ho2; subst hv2; obtain ⟨⟨t0, t1, t2, t3, t4, t5⟩, tf, tb⟩ := HFX.out w2 ((Below.refl _ w1).drew.trans hb2)))
  all_goals go_wp2
  have HB := Hid.mk (over_row (l' := [.bool up, .int .i64 nu, .int .i64 ba, .slice ad2 n cp2, .int .i64 fr, .int .i64 we]) (over_row (l' := zRep) tb rfl) rfl)
  have hq2 : w.heap.size ≤ w2.heap.size := by have := hb2.size; simp at this; omega
  have HBL : Hid (Below w.heap.size w1 ((w2.setCells w.heap.size 0 zRep).setCells w.heap.size 0 [.bool up, .int .i64 nu, .int .i64 ba, .slice ad2 n cp2, .int .i64 fr, .int .i64 we])) := below_over (below_over (((Below.refl _ w1).drew.trans hb2).mono (Nat.le_of_lt hql)) hq2) (Nat.le_trans hq2 (grown_setCells _ _ _).size)
  have HO : Hid (((w2.setCells w.heap.size 0 zRep).setCells w.heap.size 0 [.bool up, .int .i64 nu, .int .i64 ba, .slice ad2 n cp2, .int .i64 fr, .int .i64 we]).ownsRow (w.heap.size + 1) 3 1 (.slice ad2 n cp2) n (ints ((List.range n).map ak))) := by
    have ho3 : w2.ownsRow (w.heap.size + 1) 3 1 (.slice ad2 n cp2) n (ints ((List.range n).map ak)) := owns_mono ho2 (by have := HL.out.size; simp; omega)
    exact owns_put (owns_put (owns_put (owns_put (owns_put (owns_put (owns_put (owns_put (owns_put (owns_put (owns_put (owns_put ho3 (by omega)) (by omega)) (by omega)) (by omega)) (by omega)) (by omega)) (by omega)) (by omega)) (by omega)) (by omega)) (by omega)) (by omega)
  clear t0 t1 t2 t3 t4 t5 tf tb ho2 hb2 HC HFX b0 b1 b2 b12 b13 c41
  show Leaves _ _ _ _ _ _ _
  refine leaves_cons (f := 45) (args := #[.pointer (some ⟨x, 0, none⟩)]) (by simp) (by simp [go_sem]) ?_
  obtain ⟨u0, u1, u2, u3⟩ := HL.out.done (w2 := (w2.setCells w.heap.size 0 zRep).setCells w.heap.size 0 [.bool up, .int .i64 nu, .int .i64 ba, .slice ad2 n cp2, .int .i64 fr, .int .i64 we]) HBL.out hlt (blk_lt HB.out)
  refine (unlock_deferred muLib ⟨x, 0, none⟩ .returning _ u0 u1).mono ?_
  rintro e u' w'' ⟨rfl, rfl, rfl⟩
  exact ⟨.tuple #[.agg [.bool up, .int .i64 nu, .int .i64 ba, .slice ad2 n cp2, .int .i64 fr, .int .i64 we].toArray, .int .i64 0], results_row Tryz.results59 _ rfl rfl (run_loadVar_row _ _ _ _ _ _ _ (u3.trans HB.out) Tryz.underlying134 rfl infoRepl), _, rfl, owns_mono (owns_put HO.out (by omega)) (by omega), u2⟩

theorem range_map_ak {p : Rep} {n : Nat} {ak : Nat → Nat} (hn : p.acked.length = n) (h6 : n ≤ 6) (h : ∀ q, q < 6 → ak q = p.acked.getD q 0) : (List.range n).map ak = p.acked := by
  apply List.ext_getElem
  · simp [hn]
  · intro k h1 h2
    rw [List.getElem_map, List.getElem_range, h k (by omega)]
    simp [List.getD, h2]
theorem prgReplica {w : World} {col : Col} {o x N : Nat} {U : List At} {K : PrK} {c : Clu} (h : PrgAt w col o x K c) (hok : c.ok U N) (r : Int) :
    Calls Tryz.prog 59 #[.pointer (some ⟨x, 0, none⟩), .int .i64 r] w fun e w' => ∃ v, e = .returned (.tuple #[.agg #[.bool (!(c.repAt r).down), .int .i64 (c.repAt r).num, .int .i64 (c.repAt r).base, v, .int .i64 (c.repAt r).frames, .int .i64 (c.repAt r).weight], .int .i64 (c.thereErr r)]) ∧ w'.ownsRow w.heap.size 3 1 v (c.repAt r).acked.length (ints (c.repAt r).acked) ∧ Below w.heap.size w w' := by
  have hcl := h.at_.clAt h.is.lk
  by_cases hr : 0 ≤ r ∧ r < c.reps.length
  · obtain ⟨i, rfl⟩ : ∃ i : Nat, r = i := ⟨r.toNat, by omega⟩
    have hi : i < c.reps.length := by omega
    have hi' : i < K.Ds.length := by rw [h.is.len]; exact hi
    have hth : c.there (i : Int) = true := by simp [Clu.there, hr]
    have e1 : c.repAt (i : Int) = c.rep i := by simp [Clu.repAt, hth]
    have e2 : c.thereErr (i : Int) = 0 := by simp [Clu.thereErr, hth]
    have hc := h.at_.cells hi'
    have hD := h.is.reps i hi'
    have hak := (hok.rep hi).ackL
    have hR := prgReplica_at (K.Ds[i]).up (K.Ds[i]).num (K.Ds[i]).base (K.Ds[i]).frames (K.Ds[i]).weight (K.Ds[i]).ak hcl (by rw [h.is.len]; exact hok.n1) (by rw [h.is.len]; exact hok.n6) hi' hc.c0 hc.c1 hc.c2 hc.c12 hc.c13 hc.ak
    rw [range_map_ak (p := c.rep i) (by rw [h.is.len]; exact hak) (by rw [h.is.len]; exact hok.n6) hD.ak, hD.up, hD.num, hD.base, hD.frames, hD.weight, h.is.len, ← hak] at hR
    rw [e1, e2]
    exact hR
  · have hth : c.there r = false := by simp only [Clu.there, decide_eq_false_iff_not]; exact hr
    have e1 : c.repAt r = ⟨true, [], 0, 0, [], [], [], [], 0, 0⟩ := by simp [Clu.repAt, hth]
    have e2 : c.thereErr r = 5 := by simp [Clu.thereErr, hth]
    rw [e1, e2]
    refine (prgReplica_no x K.R _ _ r w hcl (by rw [h.is.len]; exact hr)).mono ?_
    rintro e w' ⟨rfl, hb⟩
    exact ⟨.slice none 0 0, rfl, World.ownsRow_nil _ _ _ _, hb⟩
end Go.Proofs.YtahdlejgjcjeoabGreatDoor

namespace Go.Proofs.YtahdlejgjcjeoabGreatDoor
open Go.RowKit
/-- Two clusters in memory: x (owner o, at c), y (owner p, at d). -/
structure BiK (Z : Snap) (w : World) (col : Col) (o x : Nat) (K : PrK) (c : Clu) (p y : Nat) (K' : PrK) (d : Clu) : Prop where
  old : Old Z w col
  tab : Tab w col
  prg : PrgAt w col o x K c
  prg' : PrgAt w col p y K' d
  o0 : o ≠ 0
  p0 : p ≠ 0
  op : o ≠ p
def Bi (Z : Snap) (w : World) (o x : Nat) (c : Clu) (p y : Nat) (d : Clu) : Prop := ∃ col K K', BiK Z w col o x K c p y K' d
section
variable {Z : Snap} {w w' : World} {o x p y N : Nat} {c d : Clu} {U : List At}
theorem Bi.swap (h : Bi Z w o x c p y d) : Bi Z w p y d o x c := by
  obtain ⟨col, K, K', k⟩ := h
  exact ⟨col, K', K, k.old, k.tab, k.prg', k.prg, k.p0, k.o0, fun e => k.op e.symm⟩
theorem Bi.same (h : Bi Z w o x c p y d) (hb : Below w.heap.size w w') : Bi Z w' o x c p y d := by
  obtain ⟨col, K, K', k⟩ := h
  exact ⟨col, K, K', k.old.same hb, k.tab.kept (S := fun _ => False) (frC_same hb) id, k.prg.same hb, k.prg'.same hb, k.o0, k.p0, k.op⟩
theorem BiK.turn {col col' : Col} {K K' K2 : PrK} {c' : Clu} (k : BiK Z w col o x K c p y K' d) (hf : FrC (ofOwn o) col col' w w') (hp : PrgAt w' col' o x K2 c') : Bi Z w' o x c' p y d :=
  ⟨col', K2, K', k.old.kept hf (fun κ e (e' : κ.1 = o) => k.o0 (by omega)), k.tab.kept hf (fun (e' : (0 : Nat) = o) => k.o0 e'.symm), hp, k.prg'.kept hf (fun j (e' : p = o) => k.op e'.symm), k.o0, k.p0, k.op⟩
theorem Bi.bel {Z : World} (h : Bi (Snap.all Z) w o x c p y d) : Below Z.heap.size Z w := by
  obtain ⟨col, K, K', k⟩ := h
  exact k.old.below
/-- What has come anew is nobody's from here on, and stays. -/
theorem Bi.rebase {w1 : World} (h : Bi Z w o x c p y d) (hb : Below w.heap.size w w1) : ∃ Z' : Snap, Bi Z' w1 o x c p y d ∧ ∀ (w' : World) (c' d' : Clu), Bi Z' w' o x c' p y d' → Bi Z w' o x c' p y d' ∧ ∀ q, w.heap.size ≤ q → q < w1.heap.size → w'.heap[q]? = w1.heap[q]? := by
  obtain ⟨col, K, K', k⟩ := h
  have hz : Z.w.heap.size ≤ w.heap.size := k.old.bel.size
  have fr : FrC (fun _ => False) col (paint col w.heap.size (0, 0)) w w1 := ⟨(Fr.refl _ w).below hb, fun q hq => paint_old col _ hq⟩
  have k1 : BiK Z w1 (paint col w.heap.size (0, 0)) o x K c p y K' d := ⟨k.old.kept fr (fun _ _ => id), k.tab.kept fr id, k.prg.kept fr (fun _ => id), k.prg'.kept fr (fun _ => id), k.o0, k.p0, k.op⟩
  refine ⟨⟨w1, fun q => (q < Z.w.heap.size ∧ Z.P q) ∨ w.heap.size ≤ q⟩, ⟨_, K, K', { k1 with old := ⟨Fr.refl _ _, fun q hq hp => ?_⟩ }⟩, fun w' c' d' hp' => ?_⟩
  · rcases hp with ⟨h1, h2⟩ | h1
    · exact k1.old.col q h1 h2
    · rw [paint_new col _ h1]
  · obtain ⟨col', K2, K2', k'⟩ := hp'
    refine ⟨⟨col', K2, K2', { k' with old := ⟨⟨k'.old.bel.os.trans k1.old.bel.os, k'.old.bel.tape.trans k1.old.bel.tape, k'.old.bel.output.trans k1.old.bel.output, Nat.le_trans k1.old.bel.size k'.old.bel.size, fun q hk hx => ?_⟩, fun q hq hp => ?_⟩ }⟩, fun q h1 h2 => k'.old.bel.block q h2 (fun e => e (.inr h1))⟩
    · have hp : Z.P q := Classical.not_not.1 hx
      exact (k'.old.bel.block q (Nat.lt_of_lt_of_le hk k1.old.bel.size) (fun e => e (.inl ⟨hk, hp⟩))).trans (k1.old.bel.block q hk hx)
    · exact k'.old.col q (Nat.lt_of_lt_of_le hq k1.old.bel.size) (.inl ⟨hq, hp⟩)
theorem Bi.cUpdate (h : Bi Z w o x c p y d) (hok : c.ok U N) (hL : Lim U N) (r : Int) (op : OpV) (hop : op.short) :
    Calls Tryz.prog 22 #[.pointer (some ⟨x, 0, none⟩), .int .i64 r, op.val] w fun e w' => e = .returned (.int .i64 (c.opErr r op)) ∧ Bi Z w' o x (c.update r op) p y d := by
  obtain ⟨col, K, K', k⟩ := h
  exact (prgUpdate k.prg k.o0 k.tab hok hL r op hop).mono fun e w' ⟨h1, K2, col', h2, h3⟩ => ⟨h1, k.turn h3.out h2.out⟩
theorem Bi.cTorn (h : Bi Z w o x c p y d) (hok : c.ok U N) (hL : Lim U N) (r : Int) (op : OpV) (hop : op.short) (keep : Int) :
    Calls Tryz.prog 24 #[.pointer (some ⟨x, 0, none⟩), .int .i64 r, op.val, .int .i64 keep] w fun e w' => e = .returned (.int .i64 (c.opErr r op)) ∧ Bi Z w' o x (c.tornOp r op keep) p y d := by
  obtain ⟨col, K, K', k⟩ := h
  exact (prgTorn k.prg k.o0 k.tab hok hL r op hop keep).mono fun e w' ⟨h1, K2, col', h2, h3⟩ => ⟨h1, k.turn h3.out h2.out⟩
theorem Bi.cCrash (h : Bi Z w o x c p y d) (hok : c.ok U N) (hL : Lim U N) (r : Int) :
    Calls Tryz.prog 26 #[.pointer (some ⟨x, 0, none⟩), .int .i64 r] w fun e w' => e = .returned (.int .i64 (c.works r)) ∧ Bi Z w' o x (c.crash r) p y d := by
  obtain ⟨col, K, K', k⟩ := h
  exact (prgCrash2 k.prg hok hL r).mono fun e w' ⟨h1, K2, col', h2, h3⟩ => ⟨h1, k.turn h3.out h2.out⟩
theorem Bi.cStart (h : Bi Z w o x c p y d) (hok : c.ok U N) (hL : Lim U N) (r : Int) :
    Calls Tryz.prog 28 #[.pointer (some ⟨x, 0, none⟩), .int .i64 r] w fun e w' => e = .returned (.int .i64 (c.startErr r)) ∧ Bi Z w' o x (c.start r) p y d := by
  obtain ⟨col, K, K', k⟩ := h
  exact (prgStart k.prg k.o0 k.tab hok hL r).mono fun e w' ⟨h1, K2, col', h2, h3⟩ => ⟨h1, k.turn h3.out h2.out⟩
theorem Bi.cCompact (h : Bi Z w o x c p y d) (hok : c.ok U N) (hL : Lim U N) (r : Int) :
    Calls Tryz.prog 30 #[.pointer (some ⟨x, 0, none⟩), .int .i64 r] w fun e w' => e = .returned (.int .i64 (c.works r)) ∧ Bi Z w' o x (c.compact r) p y d := by
  obtain ⟨col, K, K', k⟩ := h
  exact (prgCompact k.prg k.o0 k.tab hok hL r).mono fun e w' ⟨h1, K2, col', h2, h3⟩ => ⟨h1, k.turn h3.out h2.out⟩
theorem Bi.cSend (h : Bi Z w o x c p y d) (hok : c.ok U N) (hL : Lim U N) (r q : Int) :
    Calls Tryz.prog 32 #[.pointer (some ⟨x, 0, none⟩), .int .i64 r, .int .i64 q] w fun e w' => e = .returned (.int .i64 (c.sendErr r q)) ∧ Bi Z w' o x (c.send r q) p y d := by
  obtain ⟨col, K, K', k⟩ := h
  exact (prgSend k.prg k.o0 k.tab hok hL r q).mono fun e w' ⟨h1, K2, col', h2, h3⟩ => ⟨h1, k.turn h3.out h2.out⟩
theorem Bi.cDeliver (h : Bi Z w o x c p y d) (hok : c.ok U N) (hL : Lim U N) (hfar : c.far) (k' : Int) :
    Calls Tryz.prog 49 #[.pointer (some ⟨x, 0, none⟩), .int .i64 k'] w fun e w' => e = .returned (.int .i64 (c.netErr k')) ∧ Bi Z w' o x (c.deliver k') p y d := by
  obtain ⟨col, K, K', k⟩ := h
  exact (prgDeliver k.prg k.o0 k.tab hok hL hfar k').mono fun e w' ⟨h1, K2, col', h2, h3⟩ => ⟨h1, k.turn h3.out h2.out⟩
theorem Bi.cDrop (h : Bi Z w o x c p y d) (hok : c.ok U N) (_hL : Lim U N) (k' : Int) :
    Calls Tryz.prog 13 #[.pointer (some ⟨x, 0, none⟩), .int .i64 k'] w fun e w' => e = .returned (.int .i64 (c.netErr k')) ∧ Bi Z w' o x (c.dropF k') p y d := by
  obtain ⟨col, K, K', k⟩ := h
  exact (prgDropF k.prg hok k').mono fun e w' ⟨h1, K2, col', h2, h3⟩ => ⟨h1, k.turn h3.out h2.out⟩
theorem Bi.cCopy (h : Bi Z w o x c p y d) (hok : c.ok U N) (_hL : Lim U N) (k' : Int) :
    Calls Tryz.prog 84 #[.pointer (some ⟨x, 0, none⟩), .int .i64 k'] w fun e w' => e = .returned (.int .i64 (c.netErr k')) ∧ Bi Z w' o x (c.copyF k') p y d := by
  obtain ⟨col, K, K', k⟩ := h
  exact (prgCopyF k.prg hok k').mono fun e w' ⟨h1, K2, col', h2, h3⟩ => ⟨h1, k.turn h3.out h2.out⟩
theorem Bi.dUpdate (h : Bi Z w o x c p y d) (hok : d.ok U N) (hL : Lim U N) (r : Int) (op : OpV) (hop : op.short) :
    Calls Tryz.prog 22 #[.pointer (some ⟨y, 0, none⟩), .int .i64 r, op.val] w fun e w' => e = .returned (.int .i64 (d.opErr r op)) ∧ Bi Z w' o x c p y (d.update r op) := (h.swap.cUpdate hok hL r op hop).mono fun _ _ ⟨h1, h2⟩ => ⟨h1, h2.swap⟩
theorem Bi.dTorn (h : Bi Z w o x c p y d) (hok : d.ok U N) (hL : Lim U N) (r : Int) (op : OpV) (hop : op.short) (keep : Int) :
    Calls Tryz.prog 24 #[.pointer (some ⟨y, 0, none⟩), .int .i64 r, op.val, .int .i64 keep] w fun e w' => e = .returned (.int .i64 (d.opErr r op)) ∧ Bi Z w' o x c p y (d.tornOp r op keep) := (h.swap.cTorn hok hL r op hop keep).mono fun _ _ ⟨h1, h2⟩ => ⟨h1, h2.swap⟩
theorem Bi.dCrash (h : Bi Z w o x c p y d) (hok : d.ok U N) (hL : Lim U N) (r : Int) :
    Calls Tryz.prog 26 #[.pointer (some ⟨y, 0, none⟩), .int .i64 r] w fun e w' => e = .returned (.int .i64 (d.works r)) ∧ Bi Z w' o x c p y (d.crash r) := (h.swap.cCrash hok hL r).mono fun _ _ ⟨h1, h2⟩ => ⟨h1, h2.swap⟩
theorem Bi.dStart (h : Bi Z w o x c p y d) (hok : d.ok U N) (hL : Lim U N) (r : Int) :
    Calls Tryz.prog 28 #[.pointer (some ⟨y, 0, none⟩), .int .i64 r] w fun e w' => e = .returned (.int .i64 (d.startErr r)) ∧ Bi Z w' o x c p y (d.start r) := (h.swap.cStart hok hL r).mono fun _ _ ⟨h1, h2⟩ => ⟨h1, h2.swap⟩
theorem Bi.dCompact (h : Bi Z w o x c p y d) (hok : d.ok U N) (hL : Lim U N) (r : Int) :
    Calls Tryz.prog 30 #[.pointer (some ⟨y, 0, none⟩), .int .i64 r] w fun e w' => e = .returned (.int .i64 (d.works r)) ∧ Bi Z w' o x c p y (d.compact r) := (h.swap.cCompact hok hL r).mono fun _ _ ⟨h1, h2⟩ => ⟨h1, h2.swap⟩
theorem Bi.dSend (h : Bi Z w o x c p y d) (hok : d.ok U N) (hL : Lim U N) (r q : Int) :
    Calls Tryz.prog 32 #[.pointer (some ⟨y, 0, none⟩), .int .i64 r, .int .i64 q] w fun e w' => e = .returned (.int .i64 (d.sendErr r q)) ∧ Bi Z w' o x c p y (d.send r q) := (h.swap.cSend hok hL r q).mono fun _ _ ⟨h1, h2⟩ => ⟨h1, h2.swap⟩
theorem Bi.dDeliver (h : Bi Z w o x c p y d) (hok : d.ok U N) (hL : Lim U N) (hfar : d.far) (k' : Int) :
    Calls Tryz.prog 49 #[.pointer (some ⟨y, 0, none⟩), .int .i64 k'] w fun e w' => e = .returned (.int .i64 (d.netErr k')) ∧ Bi Z w' o x c p y (d.deliver k') := (h.swap.cDeliver hok hL hfar k').mono fun _ _ ⟨h1, h2⟩ => ⟨h1, h2.swap⟩
theorem Bi.dDrop (h : Bi Z w o x c p y d) (hok : d.ok U N) (hL : Lim U N) (k' : Int) :
    Calls Tryz.prog 13 #[.pointer (some ⟨y, 0, none⟩), .int .i64 k'] w fun e w' => e = .returned (.int .i64 (d.netErr k')) ∧ Bi Z w' o x c p y (d.dropF k') := (h.swap.cDrop hok hL k').mono fun _ _ ⟨h1, h2⟩ => ⟨h1, h2.swap⟩
theorem Bi.dCopy (h : Bi Z w o x c p y d) (hok : d.ok U N) (hL : Lim U N) (k' : Int) :
    Calls Tryz.prog 84 #[.pointer (some ⟨y, 0, none⟩), .int .i64 k'] w fun e w' => e = .returned (.int .i64 (d.netErr k')) ∧ Bi Z w' o x c p y (d.copyF k') := (h.swap.cCopy hok hL k').mono fun _ _ ⟨h1, h2⟩ => ⟨h1, h2.swap⟩
theorem Bi.cFlight (h : Bi Z w o x c p y d) :
    Calls Tryz.prog 12 #[.pointer (some ⟨x, 0, none⟩)] w fun e w' => e = .returned (.int .i64 c.net.length) ∧ Below w.heap.size w w' := by
  obtain ⟨col, K, K', k⟩ := h
  exact prgFlightC k.prg
theorem Bi.cFrame (h : Bi Z w o x c p y d) (hok : c.ok U N) (hL : Lim U N) (i : Int) :
    Calls Tryz.prog 91 #[.pointer (some ⟨x, 0, none⟩), .int .i64 i] w fun e w' => ∃ ad cp, e = .returned (.tuple #[.agg #[.int .i64 (c.frmAt i).kind, .int .i64 (c.frmAt i).src, .int .i64 (c.frmAt i).dst, .int .i64 (c.frmAt i).upto, .slice ad (c.frmAt i).d.length cp], .int .i64 (c.netErr i)]) ∧ SliceOf w' (.slice ad (c.frmAt i).d.length cp) (c.frmAt i).d ∧ Below w.heap.size w w' := by
  obtain ⟨col, K, K', k⟩ := h
  refine (prgFrameC k.prg hok hL i).mono fun e w' ⟨v, h1, h2, h3⟩ => ?_
  obtain ⟨ad, cp, hv⟩ := own_form h2
  subst hv
  exact ⟨ad, cp, h1, sliceOf_owns rfl h2, h3⟩
theorem Bi.cState (h : Bi Z w o x c p y d) (hok : c.ok U N) (r : Int) :
    Calls Tryz.prog 50 #[.pointer (some ⟨x, 0, none⟩), .int .i64 r] w fun e w' => ∃ ad cp out, e = .returned (.tuple #[.slice ad out.length cp, .int .i64 (c.works r)]) ∧ Hid (out = if c.works r = 0 then tell (c.rep r.toNat).atoms else []) ∧ SliceOf w' (.slice ad out.length cp) out ∧ Below w.heap.size w w' := by
  obtain ⟨col, K, K', k⟩ := h
  refine (prgState k.prg k.o0 k.tab hok r).mono fun e w' ⟨v, out, h1, h2, h3, _, h4⟩ => ?_
  obtain ⟨ad, cp, hv⟩ := own_form h2
  subst hv
  exact ⟨ad, cp, out, h1, h3, sliceOf_owns rfl h2, h4⟩
theorem Bi.cRead (h : Bi Z w o x c p y d) (hok : c.ok U N) (hL : Lim U N) (r kind : Int) (key : ByteArray) (hk : key.size ≤ 1099511627776) :
    Calls Tryz.prog 56 #[.pointer (some ⟨x, 0, none⟩), .int .i64 r, .int .i64 kind, .string key] w fun e w' => ∃ n ad cp es, e = .returned (.tuple #[.agg #[.int .i64 n, .slice ad es.length cp], .int .i64 (readErr c r kind)]) ∧ Hid (StrsOf w' (.slice ad es.length cp) es) ∧ Hid (if c.works r = 0 then ReadSpec (tell (c.rep r.toNat).atoms) kind key n es else n = 0 ∧ es = []) ∧ Below w.heap.size w w' := by
  obtain ⟨col, K, K', k⟩ := h
  refine (prgRead k.prg k.o0 k.tab hok hL r kind key hk).mono fun e w' ⟨n, v, es, h1, h2, h3, h4⟩ => ?_
  obtain ⟨ad, cp, hv⟩ := own_form h2
  subst hv
  exact ⟨n, ad, cp, es, h1, strs_keep h2 (Nat.le_refl _) (fun _ _ _ => rfl), h3, h4⟩
theorem Bi.cReplica (h : Bi Z w o x c p y d) (hok : c.ok U N) (r : Int) :
    Calls Tryz.prog 59 #[.pointer (some ⟨x, 0, none⟩), .int .i64 r] w fun e w' => ∃ ad cp, e = .returned (.tuple #[.agg #[.bool (!(c.repAt r).down), .int .i64 (c.repAt r).num, .int .i64 (c.repAt r).base, .slice ad (c.repAt r).acked.length cp, .int .i64 (c.repAt r).frames, .int .i64 (c.repAt r).weight], .int .i64 (c.thereErr r)]) ∧ w'.ownsRow w.heap.size 3 1 (.slice ad (c.repAt r).acked.length cp) (c.repAt r).acked.length (ints (c.repAt r).acked) ∧ Below w.heap.size w w' := by
  obtain ⟨col, K, K', k⟩ := h
  refine (prgReplica k.prg hok r).mono fun e w' ⟨v, h1, h2, h3⟩ => ?_
  obtain ⟨ad, cp, hv⟩ := own_form h2
  subst hv
  exact ⟨ad, cp, h1, h2, h3⟩
end
end Go.Proofs.YtahdlejgjcjeoabGreatDoor

namespace Go.Proofs.YtahdlejgjcjeoabGreatDoor
open Go.RowKit
/-- Both clusters, and the one without savings behind them. -/
structure Sm (Z : Snap) (w : World) (x y : Nat) (b : Bool) (M N : Nat) (c0 cx cy : Clu) : Prop where
  bi : Bi Z w 2 x cx 3 y cy
  s1 : ∃ S, Sim S c0 cx
  s2 : ∃ S, Sim S c0 cy
  k0 : ∃ U : List At, c0.ok U N ∧ U.length ≤ M
  k1 : ∃ U : List At, cx.ok U N ∧ U.length ≤ M
  k2 : ∃ U : List At, cy.ok U N ∧ U.length ≤ M
  f1 : cx.far
  f2 : cy.far
  bo : b = true → cx = c0
section
variable {Z : Snap} {w w' : World} {x y M N : Nat} {b : Bool} {c0 cx cy : Clu}
theorem Sm.same (h : Sm Z w x y b M N c0 cx cy) (hb : Below w.heap.size w w') : Sm Z w' x y b M N c0 cx cy := { h with bi := h.bi.same hb }
theorem ok_more {c : Clu} {M' N' : Nat} (h : ∃ U : List At, c.ok U N ∧ U.length ≤ M) (hM : M ≤ M') (hN : N ≤ N') : ∃ U : List At, c.ok U N' ∧ U.length ≤ M' := by
  obtain ⟨U, h1, h2⟩ := h
  exact ⟨U, h1.later hN, by omega⟩
theorem Sm.later {M' N' : Nat} (h : Sm Z w x y b M N c0 cx cy) (hM : M ≤ M') (hN : N ≤ N') : Sm Z w x y b M' N' c0 cx cy := { h with k0 := ok_more h.k0 hM hN, k1 := ok_more h.k1 hM hN, k2 := ok_more h.k2 hM hN }
theorem Sm.lim (h : Sm Z w x y b M N c0 cx cy) (hM : M ≤ 131072) (hN : N ≤ 2097152) : ∃ U U' : List At, cx.ok U N ∧ Lim U N ∧ cy.ok U' N ∧ Lim U' N := by
  obtain ⟨U, h1, h2⟩ := h.k1
  obtain ⟨U', h1', h2'⟩ := h.k2
  exact ⟨U, U', h1, ⟨hN, by omega⟩, h1', ⟨hN, by omega⟩⟩
theorem near_compact (c : Clu) (r : Int) : (c.compact r).near = c.near := by unfold Clu.compact; split <;> rfl
/-- Both answer the same. -/
theorem Sm.opErr (h : Sm Z w x y b M N c0 cx cy) (r : Int) (op : OpV) : cy.opErr r op = cx.opErr r op := by
  obtain ⟨S, s1⟩ := h.s1
  obtain ⟨S', s2⟩ := h.s2
  rw [s1.opErr, s2.opErr]
theorem Sm.works (h : Sm Z w x y b M N c0 cx cy) (r : Int) : cy.works r = cx.works r := by
  obtain ⟨S, s1⟩ := h.s1
  obtain ⟨S', s2⟩ := h.s2
  rw [s1.works, s2.works]
theorem Sm.startErr (h : Sm Z w x y b M N c0 cx cy) (r : Int) : cy.startErr r = cx.startErr r := by
  obtain ⟨S, s1⟩ := h.s1
  obtain ⟨S', s2⟩ := h.s2
  rw [s1.startErr, s2.startErr]
theorem Sm.sendErr (h : Sm Z w x y b M N c0 cx cy) (r q : Int) : cy.sendErr r q = cx.sendErr r q := by
  obtain ⟨S, s1⟩ := h.s1
  obtain ⟨S', s2⟩ := h.s2
  rw [s1.sendErr, s2.sendErr]
theorem Sm.netErr (h : Sm Z w x y b M N c0 cx cy) (k : Int) : cy.netErr k = cx.netErr k := by
  obtain ⟨S, s1⟩ := h.s1
  obtain ⟨S', s2⟩ := h.s2
  rw [s1.netErr, s2.netErr]
theorem Sm.netL (h : Sm Z w x y b M N c0 cx cy) : cy.net.length = cx.net.length := by
  obtain ⟨S, s1⟩ := h.s1
  obtain ⟨S', s2⟩ := h.s2
  rw [← s1.net.len, ← s2.net.len]
theorem Sm.update (h : Sm Z w x y b M N c0 cx cy) (r : Int) (o : OpV) (hb : Bi Z w' 2 x (cx.update r o) 3 y (cy.update r o)) : Sm Z w' x y b (M + 1) (N + 1) (c0.update r o) (cx.update r o) (cy.update r o) := by
  obtain ⟨S, s1⟩ := h.s1
  obtain ⟨S', s2⟩ := h.s2
  obtain ⟨U0, o0, l0⟩ := h.k0
  obtain ⟨U1, o1, l1⟩ := h.k1
  obtain ⟨U2, o2, l2⟩ := h.k2
  obtain ⟨V0, v0, -, g0⟩ := o0.update r o
  obtain ⟨V1, v1, -, g1⟩ := o1.update r o
  obtain ⟨V2, v2, -, g2⟩ := o2.update r o
  exact ⟨hb, s1.update o0 o1 r o, s2.update o0 o2 r o, ⟨V0, g0, by omega⟩, ⟨V1, g1, by omega⟩, ⟨V2, g2, by omega⟩, far_of h.f1 (near_update _ _ _) (len_update _ _ _), far_of h.f2 (near_update _ _ _) (len_update _ _ _), fun e => by rw [h.bo e]⟩
theorem Sm.tornOp (h : Sm Z w x y b M N c0 cx cy) (r : Int) (o : OpV) (keep : Int) (hb : Bi Z w' 2 x (cx.tornOp r o keep) 3 y (cy.tornOp r o keep)) : Sm Z w' x y b (M + 1) (N + 1) (c0.tornOp r o keep) (cx.tornOp r o keep) (cy.tornOp r o keep) := by
  obtain ⟨S, s1⟩ := h.s1
  obtain ⟨S', s2⟩ := h.s2
  obtain ⟨U0, o0, l0⟩ := h.k0
  obtain ⟨U1, o1, l1⟩ := h.k1
  obtain ⟨U2, o2, l2⟩ := h.k2
  obtain ⟨V0, v0, -, g0⟩ := o0.tornOp r o keep
  obtain ⟨V1, v1, -, g1⟩ := o1.tornOp r o keep
  obtain ⟨V2, v2, -, g2⟩ := o2.tornOp r o keep
  exact ⟨hb, s1.tornOp o0 o1 r o keep, s2.tornOp o0 o2 r o keep, ⟨V0, g0, by omega⟩, ⟨V1, g1, by omega⟩, ⟨V2, g2, by omega⟩, far_of h.f1 (near_torn _ _ _ _) (len_tornOp _ _ _ _), far_of h.f2 (near_torn _ _ _ _) (len_tornOp _ _ _ _), fun e => by rw [h.bo e]⟩
theorem Sm.crash (h : Sm Z w x y b M N c0 cx cy) (r : Int) (hb : Bi Z w' 2 x (cx.crash r) 3 y (cy.crash r)) : Sm Z w' x y b M (N + 1) (c0.crash r) (cx.crash r) (cy.crash r) := by
  obtain ⟨S, s1⟩ := h.s1
  obtain ⟨S', s2⟩ := h.s2
  obtain ⟨U0, o0, l0⟩ := h.k0
  obtain ⟨U1, o1, l1⟩ := h.k1
  obtain ⟨U2, o2, l2⟩ := h.k2
  exact ⟨hb, ⟨S, s1.crash o0 o1 r⟩, ⟨S', s2.crash o0 o2 r⟩, ⟨U0, (o0.crash r).later (by omega), by omega⟩, ⟨U1, (o1.crash r).later (by omega), by omega⟩, ⟨U2, (o2.crash r).later (by omega), by omega⟩, far_of h.f1 (near_crash _ _) (len_crash _ _), far_of h.f2 (near_crash _ _) (len_crash _ _), fun e => by rw [h.bo e]⟩
theorem Sm.start (h : Sm Z w x y b M N c0 cx cy) (r : Int) (hb : Bi Z w' 2 x (cx.start r) 3 y (cy.start r)) : Sm Z w' x y b M (N + 1) (c0.start r) (cx.start r) (cy.start r) := by
  obtain ⟨S, s1⟩ := h.s1
  obtain ⟨S', s2⟩ := h.s2
  obtain ⟨U0, o0, l0⟩ := h.k0
  obtain ⟨U1, o1, l1⟩ := h.k1
  obtain ⟨U2, o2, l2⟩ := h.k2
  exact ⟨hb, ⟨S, s1.start o0 o1 r⟩, ⟨S', s2.start o0 o2 r⟩, ⟨U0, (o0.start r).later (by omega), by omega⟩, ⟨U1, (o1.start r).later (by omega), by omega⟩, ⟨U2, (o2.start r).later (by omega), by omega⟩, far_of h.f1 (near_start _ _) (len_start _ _), far_of h.f2 (near_start _ _) (len_start _ _), fun e => by rw [h.bo e]⟩
theorem Sm.compact (h : Sm Z w x y b M N c0 cx cy) (r : Int) (hb : Bi Z w' 2 x (cx.compact r) 3 y (cy.compact r)) : Sm Z w' x y b M (N + 1) (c0.compact r) (cx.compact r) (cy.compact r) := by
  obtain ⟨S, s1⟩ := h.s1
  obtain ⟨S', s2⟩ := h.s2
  obtain ⟨U0, o0, l0⟩ := h.k0
  obtain ⟨U1, o1, l1⟩ := h.k1
  obtain ⟨U2, o2, l2⟩ := h.k2
  exact ⟨hb, ⟨S, s1.compact o0 o1 r⟩, ⟨S', s2.compact o0 o2 r⟩, ⟨U0, (o0.compact r).later (by omega), by omega⟩, ⟨U1, (o1.compact r).later (by omega), by omega⟩, ⟨U2, (o2.compact r).later (by omega), by omega⟩, far_of h.f1 (near_compact _ _) (len_compact _ _), far_of h.f2 (near_compact _ _) (len_compact _ _), fun e => by rw [h.bo e]⟩
theorem Sm.send (h : Sm Z w x y b M N c0 cx cy) (r q : Int) (hb : Bi Z w' 2 x (cx.send r q) 3 y (cy.send r q)) : Sm Z w' x y b M (N + 1) (c0.send r q) (cx.send r q) (cy.send r q) := by
  obtain ⟨S, s1⟩ := h.s1
  obtain ⟨S', s2⟩ := h.s2
  obtain ⟨U0, o0, l0⟩ := h.k0
  obtain ⟨U1, o1, l1⟩ := h.k1
  obtain ⟨U2, o2, l2⟩ := h.k2
  exact ⟨hb, ⟨S, s1.send o0 o1 r q⟩, ⟨S', s2.send o0 o2 r q⟩, ⟨U0, (o0.send r q).later (by omega), by omega⟩, ⟨U1, (o1.send r q).later (by omega), by omega⟩, ⟨U2, (o2.send r q).later (by omega), by omega⟩, far_send h.f1 r q, far_send h.f2 r q, fun e => by rw [h.bo e]⟩
theorem Sm.deliver (h : Sm Z w x y b M N c0 cx cy) (k : Int) (hb : Bi Z w' 2 x (cx.deliver k) 3 y (cy.deliver k)) : Sm Z w' x y b M (N + 1) (c0.deliver k) (cx.deliver k) (cy.deliver k) := by
  obtain ⟨S, s1⟩ := h.s1
  obtain ⟨S', s2⟩ := h.s2
  obtain ⟨U0, o0, l0⟩ := h.k0
  obtain ⟨U1, o1, l1⟩ := h.k1
  obtain ⟨U2, o2, l2⟩ := h.k2
  exact ⟨hb, s1.deliver o0 o1 k, s2.deliver o0 o2 k, ⟨U0, (o0.deliver k).later (by omega), by omega⟩, ⟨U1, (o1.deliver k).later (by omega), by omega⟩, ⟨U2, (o2.deliver k).later (by omega), by omega⟩, far_deliver h.f1 k, far_deliver h.f2 k, fun e => by rw [h.bo e]⟩
theorem Sm.dropF (h : Sm Z w x y b M N c0 cx cy) (k : Int) (hb : Bi Z w' 2 x (cx.dropF k) 3 y (cy.dropF k)) : Sm Z w' x y b M (N + 1) (c0.dropF k) (cx.dropF k) (cy.dropF k) := by
  obtain ⟨S, s1⟩ := h.s1
  obtain ⟨S', s2⟩ := h.s2
  obtain ⟨U0, o0, l0⟩ := h.k0
  obtain ⟨U1, o1, l1⟩ := h.k1
  obtain ⟨U2, o2, l2⟩ := h.k2
  exact ⟨hb, ⟨S, s1.dropF k⟩, ⟨S', s2.dropF k⟩, ⟨U0, (o0.dropF k).later (by omega), by omega⟩, ⟨U1, (o1.dropF k).later (by omega), by omega⟩, ⟨U2, (o2.dropF k).later (by omega), by omega⟩, far_drop h.f1 k, far_drop h.f2 k, fun e => by rw [h.bo e]⟩
theorem Sm.copyF (h : Sm Z w x y b M N c0 cx cy) (k : Int) (hb : Bi Z w' 2 x (cx.copyF k) 3 y (cy.copyF k)) : Sm Z w' x y b M (N + 1) (c0.copyF k) (cx.copyF k) (cy.copyF k) := by
  obtain ⟨S, s1⟩ := h.s1
  obtain ⟨S', s2⟩ := h.s2
  obtain ⟨U0, o0, l0⟩ := h.k0
  obtain ⟨U1, o1, l1⟩ := h.k1
  obtain ⟨U2, o2, l2⟩ := h.k2
  exact ⟨hb, ⟨S, s1.copyF k⟩, ⟨S', s2.copyF k⟩, ⟨U0, (o0.copyF k).later (by omega), by omega⟩, ⟨U1, (o1.copyF k).later (by omega), by omega⟩, ⟨U2, (o2.copyF k).later (by omega), by omega⟩, far_copy h.f1 k, far_copy h.f2 k, fun e => by rw [h.bo e]⟩
/-- What an act leaves. -/
def SmQ (Z : Snap) (x y : Nat) (b : Bool) (M N : Nat) (e : Ending) (w' : World) : Prop := e = .returned (.bool true) ∧ ∃ c0 cx cy, Sm Z w' x y b (M + 1) (N + 20) c0 cx cy
theorem Sm.done {M' N' : Nat} (h : Sm Z w x y b M' N' c0 cx cy) {e : Ending} (he : e = .returned (.bool true)) (hM : M' ≤ M + 1 := by omega) (hN : N' ≤ N + 20 := by omega) : SmQ Z x y b M N e w := ⟨he, c0, cx, cy, h.later hM hN⟩
theorem Sm.still (h : Sm Z w x y b M N c0 cx cy) {e : Ending} (he : e = .returned (.bool true)) : SmQ Z x y b M N e w := ⟨he, c0, cx, cy, h.later (by omega) (by omega)⟩
/-- An act in memory, and both clusters. -/
theorem Sm.act {k r q n ty sd on : Int} {ky el key : ByteArray} (h : Sm Z w x y b M N c0 cx cy) : ∃ Z' : Snap, Sm Z' (w.alloc (actB k r q n ty ky sd el on key)) x y b M N c0 cx cy ∧ ∀ (w' : World) (c' d' : Clu), Bi Z' w' 2 x c' 3 y d' → Bi Z w' 2 x c' 3 y d' ∧ w'.heap[w.heap.size]? = some (actB k r q n ty ky sd el on key) := by
  obtain ⟨Z', h1, back⟩ := h.bi.rebase (below_alloc (Below.refl _ w) (actB k r q n ty ky sd el on key))
  exact ⟨Z', { h with bi := h1 }, fun w' c' d' hb => ⟨(back w' c' d' hb).1, ((back w' c' d' hb).2 _ (Nat.le_refl _) (by simp)).trans (heap_alloc_new w _)⟩⟩
end
end Go.Proofs.YtahdlejgjcjeoabGreatDoor
