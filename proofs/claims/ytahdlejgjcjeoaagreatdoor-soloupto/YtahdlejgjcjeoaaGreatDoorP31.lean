/- The program's network: a frame that there is not. -/
import Derived.Test.YtahdlejgjcjeoaaGreatDoorP30
import Derived.Test.YtahdlejgjcjeoaaGreatDoorP14
import Derived.Test.YtahdlejgjcjeoaaGreatDoorP15
import Derived.Test.YtahdlejgjcjeoaaGreatDoorP25
namespace Go.Proofs.YtahdlejgjcjeoaaGreatDoor
open Go.RowKit Go.MuLone

theorem PrB.x0 {w : World} {col : Col} {o x : Nat} {ex : Option Nat} {K : PrK} (h : PrB w col o x ex K) (hT : Tab w col) (ho : o ≠ 0) : 0 < x := by
  by_cases e : x = 0
  · have h1 := h.cx
    rw [e, hT.c0] at h1
    exact absurd (congrArg Prod.fst h1).symm ho
  · omega

set_option maxRecDepth 100000 in
theorem prgState {w : World} {col : Col} {o x N : Nat} {U : List At} {K : PrK} {c : Clu} (h : PrgAt w col o x K c) (ho : o ≠ 0) (hT : Tab w col) (hok : c.ok U N) (r : Int) :
    Calls Tryz.prog 20 #[.pointer (some ⟨x, 0, none⟩), .int .i64 r] w fun e w' => ∃ v out, e = .returned (.tuple #[v, .int .i64 (c.works r)]) ∧ w'.ownsRow w.heap.size 77 6 v out.length (flat out) ∧ Hid (out = if c.works r = 0 then tell (c.rep r.toNat).atoms else []) ∧ Hid (c.works r ≠ 0 → v = .slice none 0 0) ∧ Below w.heap.size w w' := by
  have hcl := h.at_.clAt h.is.lk
  have k41 := hcl.l41
  rcases works_cases c r with ⟨hw, hr⟩ | ⟨i, rfl, hi, ⟨hw, hd⟩ | ⟨hw, hd⟩⟩
  · rw [hw]
    refine (prgState_no x K.R _ _ r w hcl (by rw [h.is.len]; exact hr)).mono ?_
    rintro e w' ⟨rfl, hb⟩
    exact ⟨_, [], rfl, World.ownsRow_nil _ _ _ _, rfl, fun _ => rfl, hb⟩
  · have hi' : i < K.Ds.length := by rw [h.is.len]; exact hi
    have kup := hcl.lR (h.at_.cells hi').c0
    rw [h.is.down hi', hd] at kup
    rw [hw]
    clear h hT hok
    go_enter_defers Tryz.func20, Tryz.ntmps20
    go_wp2_with (go_at_call 50; refine (lock_free muLib ⟨x, 0, none⟩ _ hcl.c0 hcl.f0).mono ?_; rintro e w' ⟨rfl, rfl⟩)
    refine (upOne_yes x K.R i K.Ds.length K.Ds.length false _ k41 hi' kup).mono ?_
    rintro e w1 ⟨rfl, rfl⟩
    go_wp2
    refine leaves_cons (f := 51) (args := #[.pointer (some ⟨x, 0, none⟩)]) (by simp) (by simp [go_sem]) ?_
    obtain ⟨u0, u1, u2⟩ := hcl.unlock (w2 := _) (Below.refl _ _)
    refine (unlock_deferred muLib ⟨x, 0, none⟩ .returning _ u0 u1).mono ?_
    rintro e u' w'' ⟨rfl, rfl, rfl⟩
    exact ⟨_, results_tmp2 rfl _ _ _, _, rfl, [], World.ownsRow_nil _ _ _ _, rfl, rfl, u2⟩
  · have hi' : i < K.Ds.length := by rw [h.is.len]; exact hi
    have kup := (h.at_.cells hi').c0
    rw [h.is.down hi', hd] at kup
    have hDi := h.is.reps i hi'
    have hrep := hok.rep hi
    have hmay : ∀ a ∈ (c.rep i).atoms, mayB a = true := fun a ha => hok.may a (hrep.sub a ha)
    have hp := h.at_.reps i hi' (by simp)
    have hst := hp.st
    rw [hDi.M] at hst
    have hbx : (K.Ds[i]).b ≠ x := fun e => by
      have h1 := hp.cb
      rw [e, h.at_.cx] at h1
      exact neκ (by omega) h1
    have hs := prgState_yes x K.R K.Ds.length K.Ds.length i (K.Ds[i]).b (K.Ds[i]).n _ w hcl hi' kup (h.at_.cells hi').c3 hT.rules (h.at_.x0 hT ho) hbx hst ((holds_list _).mayMap hmay) (by have := h.n i hi'; omega)
    rw [hw]
    refine hs.mono ?_
    rintro e w' ⟨v, out, rfl, hown, htl, hb⟩
    exact ⟨v, out, rfl, hown, by rw [Hid, if_pos rfl]; exact tellOf_is hmay htl.out, fun h => absurd rfl h, hb⟩

/-- What Read answers. -/
def readErr (c : Clu) (r kind : Int) : Int := if c.works r ≠ 0 then c.works r else readCode (tell (c.rep r.toNat).atoms) kind
set_option maxRecDepth 100000 in
set_option maxHeartbeats 1000000 in
theorem prgRead {w : World} {col : Col} {o x N : Nat} {U : List At} {K : PrK} {c : Clu} (h : PrgAt w col o x K c) (ho : o ≠ 0) (hT : Tab w col) (hok : c.ok U N) (hL : Lim U N) (r kind : Int) (key : ByteArray) (hk : key.size ≤ 1099511627776) :
    Calls Tryz.prog 45 #[.pointer (some ⟨x, 0, none⟩), .int .i64 r, .int .i64 kind, .string key] w fun e w' => ∃ n v es, e = .returned (.tuple #[.agg #[.int .i64 n, v], .int .i64 (readErr c r kind)]) ∧ w'.ownsRow w.heap.size 9 1 v es.length (es.map Value.string) ∧ Hid (if c.works r = 0 then ReadSpec (tell (c.rep r.toNat).atoms) kind key n es else n = 0 ∧ es = []) ∧ Below w.heap.size w w' := by
  have hbA : ∀ ob, Below w.heap.size w (w.alloc ob) := fun ob => below_alloc (Below.refl _ w) ob
  have HST : Hid (∀ ob, Calls Tryz.prog 20 #[.pointer (some ⟨x, 0, none⟩), .int .i64 r] (w.alloc ob) fun e w' => ∃ v out, e = .returned (.tuple #[v, .int .i64 (c.works r)]) ∧ w'.ownsRow (w.alloc ob).heap.size 77 6 v out.length (flat out) ∧ Hid (out = if c.works r = 0 then tell (c.rep r.toNat).atoms else []) ∧ Hid (c.works r ≠ 0 → v = .slice none 0 0) ∧ Below (w.alloc ob).heap.size (w.alloc ob) w') := fun ob => prgState (h.same (hbA ob)) ho (hT.below (hbA ob)) hok r
  have HR : Hid (RulesAt w) := hT.rules
  have HTL : Hid (c.works r = 0 → (∀ a ∈ tell (c.rep r.toNat).atoms, short a) ∧ (tell (c.rep r.toNat).atoms).length ≤ 131072) := fun hw => by
    rcases works_cases c r with ⟨h5, _⟩ | ⟨i, rfl, hi, _⟩
    · rw [h5] at hw; cases hw
    have hrep := hok.rep hi
    have htt := tell_told (c.rep i).atoms
    exact ⟨fun a ha => short_of_may (hok.may a (hrep.sub a (htt.great a ha).1)), Nat.le_trans (length_le_of_sub (sorted_ne htt.sorted) (fun a ha => hrep.sub a (htt.great a ha).1)) hL.2⟩
  clear h hT hok hL
  by_cases hw : c.works r = 0
  · have hcd : readErr c r kind = readCode (tell (c.rep r.toNat).atoms) kind := by simp [readErr, hw]
    obtain ⟨hsh, hln⟩ := HTL.out hw
    rw [hw] at HST
    rw [hcd]
    have HSH : Hid (∀ a ∈ tell (c.rep r.toNat).atoms, short a) := hsh
    clear hcd HTL hsh
    generalize hT : tell (c.rep r.toNat).atoms = T at *
    clear hT
    generalize hcd : readCode T kind = cd
    have HCD : Hid (readCode T kind = cd) := hcd
    clear hcd
    go_enter Tryz.func45, Tryz.ntmps45
    go_wp2_with fail
    refine (HST.out _).mono ?_
    rintro e w1 ⟨v1, out, rfl, hown1, hout, _, hb1⟩
    have hout' : out = T := by have := hout.out; rwa [if_pos (by trivial)] at this
    subst hout'
    have hs1 := sliceOf_owns rfl hown1
    obtain ⟨ad1, cp1, hv1⟩ := own_form hown1
    subst hv1
    have hbw1 := (below_alloc (Below.refl _ w) (.cells #[.int .i64 0, .slice none 0 0] 98)).trans (hb1.mono (by simp))
    have HC : Hid (∀ W, W = w1 → Calls Tryz.prog 96 #[.slice ad1 out.length cp1, .int .i64 kind, .string key] W fun e w' => ∃ n v' es, e = .returned (.tuple #[.agg #[.int .i64 n, v'], .int .i64 cd]) ∧ w'.ownsRow w1.heap.size 9 1 v' es.length (es.map Value.string) ∧ Hid (ReadSpec out kind key n es) ∧ Below w1.heap.size w1 w') := by
      rintro W rfl
      rw [← HCD.out]
      refine (latRead_any _ out kind key W (HR.out.below hbw1 HR.out.1) hs1 HSH.out (by omega) hk).mono ?_
      rintro e w' ⟨n2, v2, es, rfl, ho, hsp, hb⟩
      exact ⟨n2, v2, es, rfl, ho, hsp.out.1, hb⟩
    clear hown1 hs1 hout
    go_wp2_with fail
    refine (HC.out _ rfl).mono ?_
    rintro e w2 ⟨n2, v2, es, rfl, hown2, hsp, hb2⟩
    obtain ⟨ad2, cp2, hv2⟩ := own_form hown2
    subst hv2
    have hs1' := hb1.size
    have hlt1 : w.heap.size < w1.heap.size := by simp at hs1'; omega
    have hrb := (hb2.block w.heap.size hlt1).trans ((hb1.block w.heap.size (by simp)).trans (heap_alloc_new w (.cells #[.int .i64 0, .slice none 0 0] 98)))
    have r0 : w2.cell? ⟨w.heap.size, 0, none⟩ = some (.int .i64 0) := blk_cell hrb 0
    have r1 : w2.cell? ⟨w.heap.size, 1, none⟩ = some (.slice none 0 0) := blk_cell hrb 1
    have rf0 : w2.frozen? ⟨w.heap.size, 0, none⟩ = false := blk_thaw hrb 0
    have rf1 : w2.frozen? ⟨w.heap.size, 1, none⟩ = false := blk_thaw hrb 1
    have hbw : Below w.heap.size w w2 := hbw1.trans (hb2.mono hbw1.size)
    have HO : Hid (w2.ownsRow (w.heap.size + 1) 9 1 (.slice ad2 es.length cp2) es.length (es.map Value.string)) := owns_mono hown2 (by omega)
    clear HC hown2 hb2 hrb hb1 hs1'
    go_wp2
    refine bodyPost_ret (v := .tuple #[.agg #[.int .i64 n2, .slice ad2 es.length cp2], .int .i64 cd]) ?_ rfl ⟨n2, _, rfl, es, owns_mono (owns_put (owns_put HO.out (by omega)) (by omega)) (by omega), hsp, (hbw.setCell (Nat.le_refl _) _).setCell (Nat.le_refl _) _⟩
    simp [results, Tryz.results45, go_sem, r0, r1]
  · have hcd : readErr c r kind = c.works r := by simp [readErr, hw]
    rw [hcd]
    generalize c.works r = er at *
    go_enter Tryz.func45, Tryz.ntmps45
    go_wp2_with fail
    refine (HST.out _).mono ?_
    rintro e w2 ⟨v1, out, rfl, hown1, hout, _, hb2⟩
    obtain ⟨ad1, cp1, hv1⟩ := own_form hown1
    subst hv1
    have hrb := (hb2.block w.heap.size (by simp)).trans (heap_alloc_new w (.cells #[.int .i64 0, .slice none 0 0] 98))
    have r0 : w2.cell? ⟨w.heap.size, 0, none⟩ = some (.int .i64 0) := blk_cell hrb 0
    have r1 : w2.cell? ⟨w.heap.size, 1, none⟩ = some (.slice none 0 0) := blk_cell hrb 1
    have rf0 : w2.frozen? ⟨w.heap.size, 0, none⟩ = false := blk_thaw hrb 0
    have rf1 : w2.frozen? ⟨w.heap.size, 1, none⟩ = false := blk_thaw hrb 1
    have hbw := (below_alloc (Below.refl _ w) (.cells #[.int .i64 0, .slice none 0 0] 98)).trans (hb2.mono (by simp))
    clear hb2 hrb hown1 hout HST HTL
    go_wp2
    refine bodyPost_ret (v := .tuple #[.agg #[.int .i64 0, .slice none 0 0], .int .i64 er]) ?_ rfl ⟨0, _, rfl, [], World.ownsRow_nil _ _ _ _, ⟨rfl, rfl⟩, (hbw.setCell (Nat.le_refl _) _).setCell (Nat.le_refl _) _⟩
    simp [results, Tryz.results45, go_sem, r0, r1]
end Go.Proofs.YtahdlejgjcjeoaaGreatDoor

namespace Go.Proofs.YtahdlejgjcjeoaaGreatDoor
open Go.RowKit Go.MuLone

set_option maxRecDepth 100000 in
set_option maxHeartbeats 2000000 in
theorem prgReplica_at {w : World} {x R n i : Nat} (up : Bool) (nu ba fr we : Nat) (ak : Nat → Nat) (h0 : ClAt w x R n n) (h1 : 1 ≤ n) (h6 : n ≤ 6) (hi : i < n) (p0 : w.cell? ⟨R, i * 14, none⟩ = some (.bool up)) (p1 : w.cell? ⟨R, i * 14 + 1, none⟩ = some (.int .i64 nu)) (p2 : w.cell? ⟨R, i * 14 + 2, none⟩ = some (.int .i64 ba)) (p12 : w.cell? ⟨R, i * 14 + 12, none⟩ = some (.int .i64 fr)) (p13 : w.cell? ⟨R, i * 14 + 13, none⟩ = some (.int .i64 we)) (pak : ∀ q, q < 6 → w.cell? ⟨R, i * 14 + (5 + q), none⟩ = some (.int .i64 (ak q))) :
    Calls Tryz.prog 133 #[.pointer (some ⟨x, 0, none⟩), .int .i64 i] w fun e w' => ∃ v, e = .returned (.tuple #[.agg #[.bool up, .int .i64 nu, .int .i64 ba, v, .int .i64 fr, .int .i64 we], .int .i64 0]) ∧ w'.ownsRow w.heap.size 3 1 v n (ints ((List.range n).map ak)) ∧ Below w.heap.size w w' := by
  have h : ClAt (w.alloc (.cells zRep.toArray 197)) x R n n := h0.below ((Below.refl _ w).alloc (Nat.le_refl _) _) h0.lt
  have hlt := h0.lt
  have hxR := h0.xR
  go_enter_defers Tryz.func133, Tryz.ntmps133
  go_wp2_with (go_at_call 50; refine (lock_free muLib ⟨x, 0, none⟩ _ h.c0 h.f0).mono ?_; rintro e wl ⟨rfl, hwl⟩; have HL := Hid.mk (lockA h0 hwl); clear hwl)
  refine (one_yes x R i n n _ HL.out.c41 hi).mono ?_
  rintro e w1 ⟨rfl, rfl⟩
  have c41 := HL.out.c41
  have b0 := HL.out.old R _ _ (Ne.symm hxR) p0
  have b1 := HL.out.old R _ _ (Ne.symm hxR) p1
  have b2 := HL.out.old R _ _ (Ne.symm hxR) p2
  have b12 := HL.out.old R _ _ (Ne.symm hxR) p12
  have b13 := HL.out.old R _ _ (Ne.symm hxR) p13
  have HC : Hid (∀ W, Below w1.heap.size w1 W → Calls Tryz.prog 178 #[.slice (some ⟨R, i * 14 + 5, none⟩) n 6] W fun e w' => ∃ v, e = .returned v ∧ w'.ownsRow W.heap.size 3 1 v n (ints ((List.range n).map ak)) ∧ Below W.heap.size W w') := by
    intro W hW
    have hRl : R < w1.heap.size := by
      obtain ⟨cs, e, fz, hh, _⟩ := Go.Sort.cells_of_cell? b0
      exact (Array.getElem?_eq_some_iff.1 hh).1
    have hcell : ∀ j, j < 6 → W.cell? ⟨R, i * 14 + 5 + j, none⟩ = some (.int .i64 (ak j)) := by
      intro j hj
      rw [hW.cell (p := ⟨R, _, none⟩) hRl]
      refine HL.out.old R _ _ (Ne.symm hxR) ?_
      have := pak j hj
      rwa [← Nat.add_assoc] at this
    refine (cloneInts R (i * 14 + 5) n 6 ((List.range n).map fun q => (ak q : Int)) W (by simp) (fun j hj => ?_) (by omega) (by omega)).mono ?_
    · have hj' : j < n := by simpa using hj
      rw [List.getElem_map, List.getElem_range]
      exact hcell j (by omega)
    · rintro e w' ⟨v, rfl, ho, hb⟩
      refine ⟨v, rfl, ?_, hb⟩
      have he : ((List.range n).map fun q => (ak q : Int)).map (.int .i64 ·) = ints ((List.range n).map ak) := by simp [ints]
      rw [← he]
      exact ho
  have HFX : Hid (∀ W, Below w1.heap.size w1 W → (W.cell? ⟨w.heap.size, 0, none⟩ = some (.bool false) ∧ W.cell? ⟨w.heap.size, 1, none⟩ = some (.int .i64 0) ∧ W.cell? ⟨w.heap.size, 2, none⟩ = some (.int .i64 0) ∧ W.cell? ⟨w.heap.size, 3, none⟩ = some (.slice none 0 0) ∧ W.cell? ⟨w.heap.size, 4, none⟩ = some (.int .i64 0) ∧ W.cell? ⟨w.heap.size, 5, none⟩ = some (.int .i64 0)) ∧ (∀ k, W.frozen? ⟨w.heap.size, k, none⟩ = false) ∧ W.heap[w.heap.size]? = some (.cells zRep.toArray 197 (0, 0))) := by
    intro W hW
    have hr1 := (hW.block _ (blk_lt HL.out.blk)).trans HL.out.blk
    exact ⟨⟨blk_cell hr1 0, blk_cell hr1 1, blk_cell hr1 2, blk_cell hr1 3, blk_cell hr1 4, blk_cell hr1 5⟩, blk_thaw hr1, hr1⟩
  have hRl : R < w1.heap.size := by
    obtain ⟨cs, e, fz, hh, _⟩ := Go.Sort.cells_of_cell? b0
    exact (Array.getElem?_eq_some_iff.1 hh).1
  have hRq : R ≠ w.heap.size := by
    obtain ⟨cs, e, fz, hh, _⟩ := Go.Sort.cells_of_cell? p0
    have := (Array.getElem?_eq_some_iff.1 hh).1
    omega
  have hxq : x ≠ w.heap.size := by omega
  have hRq' : w.heap.size ≠ R := Ne.symm hRq
  have hxq' : w.heap.size ≠ x := Ne.symm hxq
  have hxl : x < w1.heap.size := by rw [HL.out.size]; omega
  have hql : w.heap.size < w1.heap.size := by rw [HL.out.size]; omega
  clear p0 p1 p2 p12 p13 pak h h0
  have q1 : (i : Int) < (n : Int) := by omega
  have q6 : (n : Int) ≤ 6 := by omega
  have q0 : (0 : Int) ≤ (n : Int) := by omega
  go_wp2
  go_region_held3 (fun w' => w'.cell? ⟨x, 41, none⟩ = some (.slice (some ⟨R, 0, none⟩) n n) ∧ w'.cell? ⟨R, i * 14, none⟩ = some (.bool up) ∧ w'.cell? ⟨R, i * 14 + 1, none⟩ = some (.int .i64 nu) ∧ w'.cell? ⟨R, i * 14 + 2, none⟩ = some (.int .i64 ba) ∧ w'.cell? ⟨R, i * 14 + 12, none⟩ = some (.int .i64 fr) ∧ w'.cell? ⟨R, i * 14 + 13, none⟩ = some (.int .i64 we)) (first | go_keep | (go_split_ands; refine ⟨?_, ?_, ?_, ?_, ?_, ?_⟩ <;> (first | (rw [hb2.cell (p := ⟨R, _, none⟩) (by simpa using hRl)]; assumption) | (rw [hb2.cell (p := ⟨x, _, none⟩) (by simpa using hxl)]; assumption)))) (first | (go_at_call 178; refine (HC.out _ (Below.refl _ _).drew).mono ?_; rintro e w2 ⟨v, rfl, ho2, hb2⟩; obtain ⟨ad2, cp2, hv2⟩ := own_form ho2; subst hv2; obtain ⟨⟨t0, t1, t2, t3, t4, t5⟩, tf, tb⟩ := HFX.out w2 ((Below.refl _ w1).drew.trans hb2)))
  all_goals go_wp2
  have HB := Hid.mk (over_row (l' := [.bool up, .int .i64 nu, .int .i64 ba, .slice ad2 n cp2, .int .i64 fr, .int .i64 we]) (over_row (l' := zRep) tb rfl) rfl)
  have hq2 : w.heap.size ≤ w2.heap.size := by have := hb2.size; simp at this; omega
  have HBL : Hid (Below w.heap.size w1 ((w2.setCells w.heap.size 0 zRep).setCells w.heap.size 0 [.bool up, .int .i64 nu, .int .i64 ba, .slice ad2 n cp2, .int .i64 fr, .int .i64 we])) := below_over (below_over (((Below.refl _ w1).drew.trans hb2).mono (Nat.le_of_lt hql)) hq2) (Nat.le_trans hq2 (grown_setCells _ _ _).size)
  have HO : Hid (((w2.setCells w.heap.size 0 zRep).setCells w.heap.size 0 [.bool up, .int .i64 nu, .int .i64 ba, .slice ad2 n cp2, .int .i64 fr, .int .i64 we]).ownsRow (w.heap.size + 1) 3 1 (.slice ad2 n cp2) n (ints ((List.range n).map ak))) := by
    have ho3 : w2.ownsRow (w.heap.size + 1) 3 1 (.slice ad2 n cp2) n (ints ((List.range n).map ak)) := owns_mono ho2 (by have := HL.out.size; simp; omega)
    exact owns_put (owns_put (owns_put (owns_put (owns_put (owns_put (owns_put (owns_put (owns_put (owns_put (owns_put (owns_put ho3 (by omega)) (by omega)) (by omega)) (by omega)) (by omega)) (by omega)) (by omega)) (by omega)) (by omega)) (by omega)) (by omega)) (by omega)
  clear t0 t1 t2 t3 t4 t5 tf tb ho2 hb2 HC HFX b0 b1 b2 b12 b13 c41
  show Leaves _ _ _ _ _ _ _
  refine leaves_cons (f := 51) (args := #[.pointer (some ⟨x, 0, none⟩)]) (by simp) (by simp [go_sem]) ?_
  obtain ⟨u0, u1, u2, u3⟩ := HL.out.done (w2 := (w2.setCells w.heap.size 0 zRep).setCells w.heap.size 0 [.bool up, .int .i64 nu, .int .i64 ba, .slice ad2 n cp2, .int .i64 fr, .int .i64 we]) HBL.out hlt (blk_lt HB.out)
  refine (unlock_deferred muLib ⟨x, 0, none⟩ .returning _ u0 u1).mono ?_
  rintro e u' w'' ⟨rfl, rfl, rfl⟩
  exact ⟨.tuple #[.agg [.bool up, .int .i64 nu, .int .i64 ba, .slice ad2 n cp2, .int .i64 fr, .int .i64 we].toArray, .int .i64 0], results_row Tryz.results133 _ rfl rfl (run_loadVar_row _ _ _ _ _ _ _ (u3.trans HB.out) Tryz.underlying197 rfl infoRepl), _, rfl, owns_mono (owns_put HO.out (by omega)) (by omega), u2⟩

theorem range_map_ak {p : Rep} {n : Nat} {ak : Nat → Nat} (hn : p.acked.length = n) (h6 : n ≤ 6) (h : ∀ q, q < 6 → ak q = p.acked.getD q 0) : (List.range n).map ak = p.acked := by
  apply List.ext_getElem
  · simp [hn]
  · intro k h1 h2
    rw [List.getElem_map, List.getElem_range, h k (by omega)]
    simp [List.getD, h2]
theorem prgReplica {w : World} {col : Col} {o x N : Nat} {U : List At} {K : PrK} {c : Clu} (h : PrgAt w col o x K c) (hok : c.ok U N) (r : Int) :
    Calls Tryz.prog 133 #[.pointer (some ⟨x, 0, none⟩), .int .i64 r] w fun e w' => ∃ v, e = .returned (.tuple #[.agg #[.bool (!(c.repAt r).down), .int .i64 (c.repAt r).num, .int .i64 (c.repAt r).base, v, .int .i64 (c.repAt r).frames, .int .i64 (c.repAt r).weight], .int .i64 (c.thereErr r)]) ∧ w'.ownsRow w.heap.size 3 1 v (c.repAt r).acked.length (ints (c.repAt r).acked) ∧ Below w.heap.size w w' := by
  have hcl := h.at_.clAt h.is.lk
  by_cases hr : 0 ≤ r ∧ r < c.reps.length
  · obtain ⟨i, rfl⟩ : ∃ i : Nat, r = i := ⟨r.toNat, by omega⟩
    have hi : i < c.reps.length := by omega
    have hi' : i < K.Ds.length := by rw [h.is.len]; exact hi
    have hth : c.there (i : Int) = true := by simp [Clu.there, hr]
    have e1 : c.repAt (i : Int) = c.rep i := by simp [Clu.repAt, hth]
    have e2 : c.thereErr (i : Int) = 0 := by simp [Clu.thereErr, hth]
    have hc := h.at_.cells hi'
    have hD := h.is.reps i hi'
    have hak := (hok.rep hi).ackL
    have hR := prgReplica_at (K.Ds[i]).up (K.Ds[i]).num (K.Ds[i]).base (K.Ds[i]).frames (K.Ds[i]).weight (K.Ds[i]).ak hcl (by rw [h.is.len]; exact hok.n1) (by rw [h.is.len]; exact hok.n6) hi' hc.c0 hc.c1 hc.c2 hc.c12 hc.c13 hc.ak
    rw [range_map_ak (p := c.rep i) (by rw [h.is.len]; exact hak) (by rw [h.is.len]; exact hok.n6) hD.ak, hD.up, hD.num, hD.base, hD.frames, hD.weight, h.is.len, ← hak] at hR
    rw [e1, e2]
    exact hR
  · have hth : c.there r = false := by simp only [Clu.there, decide_eq_false_iff_not]; exact hr
    have e1 : c.repAt r = ⟨true, [], 0, 0, [], [], [], [], 0, 0⟩ := by simp [Clu.repAt, hth]
    have e2 : c.thereErr r = 5 := by simp [Clu.thereErr, hth]
    rw [e1, e2]
    refine (prgReplica_no x K.R _ _ r w hcl (by rw [h.is.len]; exact hr)).mono ?_
    rintro e w' ⟨rfl, hb⟩
    exact ⟨.slice none 0 0, rfl, World.ownsRow_nil _ _ _ _, hb⟩
end Go.Proofs.YtahdlejgjcjeoaaGreatDoor

namespace Go.Proofs.YtahdlejgjcjeoaaGreatDoor
open Go.RowKit Go.MuLone

set_option maxRecDepth 100000 in
theorem frame_no (x : Nat) (k : Int) (w : World) (ad : Option Addr) (m cp : Nat) (c42 : w.cell? ⟨x, 42, none⟩ = some (.slice ad m cp)) (hk : ¬ (0 ≤ k ∧ k < m)) :
    Calls Tryz.prog 119 #[.pointer (some ⟨x, 0, none⟩), .int .i64 k] w fun e w' => e = .returned (.tuple #[.agg #[.int .i64 0, .int .i64 0, .int .i64 0, .int .i64 0, .slice none 0 0], .int .i64 10]) ∧ Below w.heap.size w w' := by
  have hr1 := heap_alloc_new w (.cells zFrm.toArray 153)
  have k42 := cellKeepA c42 (.cells #[.int .i64 0, .int .i64 0, .int .i64 0, .int .i64 0, .slice none 0 0] 153)
  have HB := Hid.mk hr1
  have HW := Hid.mk (below_alloc (Below.refl _ w) (.cells zFrm.toArray 153))
  clear hr1
  go_enter Tryz.func119, Tryz.ntmps119
  by_cases h0 : k < 0
  · go_wp2
    refine bodyPost_ret (v := .tuple #[.agg #[.int .i64 0, .int .i64 0, .int .i64 0, .int .i64 0, .slice none 0 0], .int .i64 10]) ?_ rfl ⟨rfl, HW.out⟩
    exact results_row Tryz.results119 _ rfl rfl (run_loadVar_row _ _ _ _ _ _ _ HB.out Tryz.underlying153 rfl infoFrmS)
  · have q1 : 0 ≤ k := by omega
    have q2 : (m : Int) ≤ k := by omega
    go_wp2
    refine bodyPost_ret (v := .tuple #[.agg #[.int .i64 0, .int .i64 0, .int .i64 0, .int .i64 0, .slice none 0 0], .int .i64 10]) ?_ rfl ⟨rfl, HW.out⟩
    exact results_row Tryz.results119 _ rfl rfl (run_loadVar_row _ _ _ _ _ _ _ HB.out Tryz.underlying153 rfl infoFrmS)

set_option maxRecDepth 100000 in
set_option maxHeartbeats 1000000 in
theorem prgFrame_no (x R n cap : Nat) (k : Int) (w : World) (h0 : ClAt w x R n cap) (ad : Option Addr) (m cp : Nat) (c42 : w.cell? ⟨x, 42, none⟩ = some (.slice ad m cp)) (hk : ¬ (0 ≤ k ∧ k < m)) :
    Calls Tryz.prog 89 #[.pointer (some ⟨x, 0, none⟩), .int .i64 k] w fun e w' => e = .returned (.tuple #[.agg #[.int .i64 0, .int .i64 0, .int .i64 0, .int .i64 0, .slice none 0 0], .int .i64 10]) ∧ Below w.heap.size w w' := by
  have h : ClAt (w.alloc (.cells zFrm.toArray 153)) x R n cap := h0.below ((Below.refl _ w).alloc (Nat.le_refl _) _) h0.lt
  have hlt := h0.lt
  go_enter_defers Tryz.func89, Tryz.ntmps89
  go_wp2_with (go_at_call 50; refine (lock_free muLib ⟨x, 0, none⟩ _ h.c0 h.f0).mono ?_; rintro e wl ⟨rfl, hwl⟩; have k42 : wl.cell? ⟨x, 42, none⟩ = some (.slice ad m cp) := (by rw [hwl]; exact (World.cell?_setCell_other _ ⟨x, 0, none⟩ ⟨x, 42, none⟩ _ (by simp)).trans (cellKeepA c42 _)); have HL := Hid.mk (lockA h0 hwl); clear hwl)
  refine (frame_no x k _ ad m cp k42 hk).mono ?_
  rintro e w2 ⟨rfl, hb2⟩
  have hr1 := (hb2.block _ (blk_lt HL.out.blk)).trans HL.out.blk
  have HBW := Hid.mk hb2
  have hq2 : w.heap.size < w2.heap.size := blk_lt hr1
  have HB := Hid.mk hr1
  have r0 : w2.cell? ⟨w.heap.size, 0, none⟩ = some (.int .i64 0) := blk_cell hr1 0
  have r1 : w2.cell? ⟨w.heap.size, 1, none⟩ = some (.int .i64 0) := blk_cell hr1 1
  have r2 : w2.cell? ⟨w.heap.size, 2, none⟩ = some (.int .i64 0) := blk_cell hr1 2
  have r3 : w2.cell? ⟨w.heap.size, 3, none⟩ = some (.int .i64 0) := blk_cell hr1 3
  have r4 : w2.cell? ⟨w.heap.size, 4, none⟩ = some (.slice none 0 0) := blk_cell hr1 4
  have rf := blk_thaw hr1
  clear hr1 h hb2 k42
  go_wp2
  clear r0 r1 r2 r3 r4 rf
  have hq : (w2.setCells w.heap.size 0 zFrm).heap.size = w2.heap.size := by simp
  have HO := Hid.mk (over_row (l' := zFrm) HB.out rfl)
  have HO2 : Hid (((w2.setCells w.heap.size 0 zFrm).alloc (.cells #[.int .i64 0, .int .i64 0, .int .i64 0, .int .i64 0, .slice none 0 0] 153)).heap[w.heap.size]? = some (.cells zFrm.toArray 153 (0, 0))) := (((Below.refl _ _).alloc (Nat.le_refl _) _).block _ (blk_lt HO.out)).trans HO.out
  have hs1 : w.heap.size ≤ wl.heap.size := by rw [HL.out.size]; omega
  have HBL : Hid (Below w.heap.size wl ((w2.setCells w.heap.size 0 zFrm).alloc (.cells #[.int .i64 0, .int .i64 0, .int .i64 0, .int .i64 0, .slice none 0 0] 153))) := (below_over (l := zFrm) (HBW.out.mono hs1) (Nat.le_of_lt hq2)).alloc (by rw [hq]; omega) _
  show Leaves _ _ _ _ _ _ _
  refine leaves_cons (f := 51) (args := #[.pointer (some ⟨x, 0, none⟩)]) (by simp) (by simp [go_sem]) ?_
  obtain ⟨u0, u1, u2, u3⟩ := HL.out.done (w2 := (w2.setCells w.heap.size 0 zFrm).alloc (.cells #[.int .i64 0, .int .i64 0, .int .i64 0, .int .i64 0, .slice none 0 0] 153)) HBL.out hlt (blk_lt HO2.out)
  refine (unlock_deferred muLib ⟨x, 0, none⟩ .returning _ u0 u1).mono ?_
  rintro e u' w'' ⟨rfl, rfl, rfl⟩
  exact ⟨.tuple #[.agg zFrm.toArray, .int .i64 10], results_row Tryz.results89 _ rfl rfl (run_loadVar_row _ _ _ _ _ _ _ (u3.trans HO2.out) Tryz.underlying153 rfl infoFrmS), rfl, u2⟩

set_option maxRecDepth 100000 in
theorem prgDrop_no (x R n cap : Nat) (k : Int) (w : World) (h : ClAt w x R n cap) (ad : Option Addr) (m cp : Nat) (c42 : w.cell? ⟨x, 42, none⟩ = some (.slice ad m cp)) (hk : ¬ (0 ≤ k ∧ k < m)) :
    Calls Tryz.prog 80 #[.pointer (some ⟨x, 0, none⟩), .int .i64 k] w fun e w' => e = .returned (.int .i64 10) ∧ Below w.heap.size w w' := by
  have k42 : (w.setCell ⟨x, 0, none⟩ (.int .i32 1)).cell? ⟨x, 42, none⟩ = some (.slice ad m cp) := (World.cell?_setCell_other _ ⟨x, 0, none⟩ ⟨x, 42, none⟩ _ (by simp)).trans c42
  have hfr := frame_no x k (w.setCell ⟨x, 0, none⟩ (.int .i32 1)) ad m cp k42 hk
  rw [lock_size] at hfr
  go_enter_defers Tryz.func80, Tryz.ntmps80
  go_wp2_with (go_at_call 50; refine (lock_free muLib ⟨x, 0, none⟩ _ h.c0 h.f0).mono ?_; rintro e w' ⟨rfl, rfl⟩)
  refine hfr.mono ?_
  rintro e w2 ⟨rfl, hb2⟩
  go_wp2
  refine leaves_cons (f := 51) (args := #[.pointer (some ⟨x, 0, none⟩)]) (by simp) (by simp [go_sem]) ?_
  obtain ⟨u0, u1, u2⟩ := h.unlock (w2 := _) (hb2.alloc (by have := hb2.size; rwa [lock_size] at this) _)
  refine (unlock_deferred muLib ⟨x, 0, none⟩ .returning _ u0 u1).mono ?_
  rintro e u' w'' ⟨rfl, rfl, rfl⟩
  exact ⟨_, results_tmp rfl _ _ _, rfl, u2⟩

set_option maxRecDepth 100000 in
theorem prgDeliver_no (x R n cap : Nat) (k : Int) (w : World) (h : ClAt w x R n cap) (ad : Option Addr) (m cp : Nat) (c42 : w.cell? ⟨x, 42, none⟩ = some (.slice ad m cp)) (hk : ¬ (0 ≤ k ∧ k < m)) :
    Calls Tryz.prog 78 #[.pointer (some ⟨x, 0, none⟩), .int .i64 k] w fun e w' => e = .returned (.int .i64 10) ∧ Below w.heap.size w w' := by
  have k42 : (w.setCell ⟨x, 0, none⟩ (.int .i32 1)).cell? ⟨x, 42, none⟩ = some (.slice ad m cp) := (World.cell?_setCell_other _ ⟨x, 0, none⟩ ⟨x, 42, none⟩ _ (by simp)).trans c42
  have hfr := frame_no x k (w.setCell ⟨x, 0, none⟩ (.int .i32 1)) ad m cp k42 hk
  rw [lock_size] at hfr
  go_enter_defers Tryz.func78, Tryz.ntmps78
  go_wp2_with (go_at_call 50; refine (lock_free muLib ⟨x, 0, none⟩ _ h.c0 h.f0).mono ?_; rintro e w' ⟨rfl, rfl⟩)
  refine hfr.mono ?_
  rintro e w2 ⟨rfl, hb2⟩
  go_wp2
  refine leaves_cons (f := 51) (args := #[.pointer (some ⟨x, 0, none⟩)]) (by simp) (by simp [go_sem]) ?_
  obtain ⟨u0, u1, u2⟩ := h.unlock (w2 := _) (hb2.alloc (by have := hb2.size; rwa [lock_size] at this) _)
  refine (unlock_deferred muLib ⟨x, 0, none⟩ .returning _ u0 u1).mono ?_
  rintro e u' w'' ⟨rfl, rfl, rfl⟩
  exact ⟨_, results_tmp rfl _ _ _, rfl, u2⟩

set_option maxRecDepth 100000 in
theorem prgCopy_no (x R n cap : Nat) (k : Int) (w : World) (h : ClAt w x R n cap) (ad : Option Addr) (m cp : Nat) (c42 : w.cell? ⟨x, 42, none⟩ = some (.slice ad m cp)) (hk : ¬ (0 ≤ k ∧ k < m)) :
    Calls Tryz.prog 82 #[.pointer (some ⟨x, 0, none⟩), .int .i64 k] w fun e w' => e = .returned (.int .i64 10) ∧ Below w.heap.size w w' := by
  have k42 : (w.setCell ⟨x, 0, none⟩ (.int .i32 1)).cell? ⟨x, 42, none⟩ = some (.slice ad m cp) := (World.cell?_setCell_other _ ⟨x, 0, none⟩ ⟨x, 42, none⟩ _ (by simp)).trans c42
  have hfr := frame_no x k (w.setCell ⟨x, 0, none⟩ (.int .i32 1)) ad m cp k42 hk
  rw [lock_size] at hfr
  go_enter_defers Tryz.func82, Tryz.ntmps82
  go_wp2_with (go_at_call 50; refine (lock_free muLib ⟨x, 0, none⟩ _ h.c0 h.f0).mono ?_; rintro e w' ⟨rfl, rfl⟩)
  refine hfr.mono ?_
  rintro e w2 ⟨rfl, hb2⟩
  go_wp2
  refine leaves_cons (f := 51) (args := #[.pointer (some ⟨x, 0, none⟩)]) (by simp) (by simp [go_sem]) ?_
  obtain ⟨u0, u1, u2⟩ := h.unlock (w2 := _) (hb2.alloc (by have := hb2.size; rwa [lock_size] at this) _)
  refine (unlock_deferred muLib ⟨x, 0, none⟩ .returning _ u0 u1).mono ?_
  rintro e u' w'' ⟨rfl, rfl, rfl⟩
  exact ⟨_, results_tmp rfl _ _ _, rfl, u2⟩

theorem prgFlightC {w : World} {col : Col} {o x : Nat} {K : PrK} {c : Clu} (h : PrgAt w col o x K c) :
    Calls Tryz.prog 93 #[.pointer (some ⟨x, 0, none⟩)] w fun e w' => e = .returned (.int .i64 c.net.length) ∧ Below w.heap.size w w' := by
  obtain ⟨ad, cap, hv, _⟩ := h.at_.net.form
  have c42 := h.at_.cl.2.2.2.2.2.1
  rw [hv] at c42
  have := prgFlight x K.R _ _ ad K.ns.length cap w (h.at_.clAt h.is.lk) c42
  rwa [show K.ns.length = c.net.length by rw [← h.is.nets, List.length_map]] at this
end Go.Proofs.YtahdlejgjcjeoaaGreatDoor
