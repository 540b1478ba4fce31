/- The document's Start, where there is nothing to be started. -/
import Derived.Test.YtahdlejgjcjeoaaGreatDoorP30
import Derived.Lib.BufferMore
import Derived.Test.YtahdlejgjcjeoaaGreatDoorP13
namespace Go.Proofs.YtahdlejgjcjeoaaGreatDoor
open Go.RowKit Go.MuLone

set_option maxRecDepth 100000 in
/-- slices.Clone of numbers. -/
theorem cloneInts (b off n cap : Nat) (l : List Int) (w : World) (hn : l.length = n) (hc : ∀ j (h : j < l.length), w.cell? ⟨b, off + j, none⟩ = some (.int .i64 l[j])) (hlen : n ≤ 1048576) (hpos : 0 < n) :
    Calls Tryz.prog 178 #[.slice (some ⟨b, off, none⟩) n cap] w fun e w' => ∃ v, e = .returned v ∧ w'.ownsRow w.heap.size 3 1 v n (l.map (.int .i64 ·)) ∧ Below w.heap.size w w' := by
  obtain ⟨i0, hi, hz0, hz1, hz2⟩ := info_parts infoInt
  go_enter Tryz.func178, Tryz.ntmps178
  have heq := fun W => Lib.run_eql_slice_some_nil (P := Tryz.prog) W (t := 79) ⟨b, off, none⟩ n cap Tryz.underlying79
  have hown : (w.alloc (.cells #[] 3)).ownsRow w.heap.size 3 1 (.slice (some ⟨w.heap.size, 0, none⟩) 0 0) 0 [] :=
    ⟨rfl, .inr ⟨w.heap.size, 0, #[], rfl, Nat.le_refl _, heap_alloc_new w _, Nat.le_refl _, Nat.zero_le _, rfl, rfl⟩⟩
  have hnews : ∀ j u, (l.map (Value.int .i64 ·))[j]? = some u → (w.alloc (.cells #[] 3)).cell? ((⟨b, off, none⟩ : Addr).add j) = some u := by
    intro j u hu
    have hadd : (⟨b, off, none⟩ : Addr).add j = ⟨b, off + j, none⟩ := by unfold Addr.add; split <;> simp_all
    have hj : j < l.length := by have := (List.getElem?_eq_some_iff.1 hu).1; simpa using this
    rw [hadd]
    refine cellKeepA ((hc j hj).trans ?_) _
    simpa [hj] using hu
  have HL : Hid ((l.map (Value.int .i64 ·)).length = n * 1) := by rw [Hid]; simpa using hn
  have HO : Hid (∀ u ∈ l.map (Value.int .i64 ·), u.oneCell' = true) := by
    intro u hu
    obtain ⟨k, -, rfl⟩ := List.mem_map.1 hu
    rfl
  generalize l.map (Value.int .i64 ·) = L at *
  clear hc
  go_wp2_with (at_builtin; refine wpList_append_two _ rfl _ _ 79 rfl w.heap.size 3 i0 _ 1 8 Tryz.underlying79 hi hz0 hz1 hz2 rfl (by decide) _ 0 _ rfl hown ⟨b, off, none⟩ n cap L rfl HL.out hnews HO.out hpos (by unfold maxLen; omega) (by omega) (by simp) ?_; intro gA capA wA hownA hcaseA)
  go_ret
  rw [Nat.zero_add] at hownA
  refine ⟨_, rfl, hownA, ?_⟩
  have hb0 := below_alloc (Below.refl _ w) (.cells #[] 3)
  rcases hcaseA with ⟨h1, _⟩ | ⟨h1, h2⟩
  · exact hb0.grown h1 (by simp) (fun k hk => by cases hk)
  · exact hb0.grown h2 (by simp) (fun k hk => by cases hk; have := own_g h1; omega)

def zRep : List Value := [.bool false, .int .i64 0, .int .i64 0, .slice none 0 0, .int .i64 0, .int .i64 0]
/-- The world in which the lock is held, a new block ahead of it. -/
structure LockA (w wl : World) (x R n cap q : Nat) (o : Obj) : Prop where
  eq : wl = (w.alloc o).setCell ⟨x, 0, none⟩ (.int .i32 1)
  cl : ClAt (w.alloc o) x R n cap
  c41 : wl.cell? ⟨x, 41, none⟩ = some (.slice (some ⟨R, 0, none⟩) n cap)
  blk : wl.heap[w.heap.size]? = some o
  old : ∀ g k v, g ≠ x → w.cell? ⟨g, k, none⟩ = some v → wl.cell? ⟨g, k, none⟩ = some v
  size : wl.heap.size = w.heap.size + 1
theorem lockA {w wl : World} {x R n cap : Nat} {o : Obj} (h : ClAt w x R n cap) (hwl : wl = (w.alloc o).setCell ⟨x, 0, none⟩ (.int .i32 1)) : LockA w wl x R n cap 0 o where
  eq := hwl
  cl := h.below ((Below.refl _ w).alloc (Nat.le_refl _) _) h.lt
  c41 := by
    rw [hwl]
    exact (h.below ((Below.refl _ w).alloc (Nat.le_refl _) o) h.lt).l41
  blk := by
    rw [hwl]
    have hlt := h.lt
    exact ((grown_setCell _ ⟨x, 0, none⟩ _).block _ (by simp) (fun e => by have : w.heap.size = x := Option.some.inj e; omega)).trans (heap_alloc_new w o)
  old g k v hg hv := by
    rw [hwl]
    exact (World.cell?_setCell_other _ ⟨x, 0, none⟩ ⟨g, k, none⟩ _ (fun e => hg (by cases e; rfl))).trans (cellKeepA hv o)
  size := by rw [hwl]; simp
/-- Behind the call: the lock is given back. -/
theorem LockA.done {w wl w2 : World} {x R n cap : Nat} {o : Obj} (h : LockA w wl x R n cap 0 o) (hb : Below w.heap.size wl w2) (hx : x < w.heap.size) (hs : w.heap.size < w2.heap.size) : w2.cell? ⟨x, 0, none⟩ = some (.int .i32 1) ∧ w2.frozen? ⟨x, 0, none⟩ = false ∧ Below w.heap.size w (w2.setCell ⟨x, 0, none⟩ (.int .i32 0)) ∧ (w2.setCell ⟨x, 0, none⟩ (.int .i32 0)).heap[w.heap.size]? = w2.heap[w.heap.size]? := by
  have h0 := h.cl.c0
  have hw : w.cell? ⟨x, 0, none⟩ = some (.int .i32 0) := by
    rw [← h0]
    exact (((Below.refl w.heap.size w).alloc (Nat.le_refl _) o).cell (p := ⟨x, 0, none⟩) hx).symm
  have hb1 : Below w.heap.size (w.setCell ⟨x, 0, none⟩ (.int .i32 1)) w2 := by
    refine ⟨hb.os.trans ?_, hb.tape.trans ?_, hb.output.trans ?_, ?_, fun k hk => (hb.block k hk).trans ?_⟩
    · rw [h.eq]; rfl
    · rw [h.eq]; rfl
    · rw [h.eq]; rfl
    · simp; omega
    · rw [h.eq]
      by_cases hkx : k = x
      · subst hkx
        obtain ⟨cs, e, fz, hx', _⟩ := Go.Sort.cells_of_cell? hw
        rw [heap_setCell_at hx', heap_setCell_at ((((Below.refl w.heap.size w).alloc (Nat.le_refl _) o).block k hk).trans hx')]
      · rw [Below.heap_setCell _ _ _ _ hkx, Below.heap_setCell _ _ _ _ hkx]
        exact ((Below.refl w.heap.size w).alloc (Nat.le_refl _) o).block k hk
  refine ⟨?_, ?_, below_lock hw hb1, Below.heap_setCell _ _ _ _ (by show w.heap.size ≠ x; omega)⟩
  · rw [hb1.cell (p := ⟨x, 0, none⟩) hx]
    exact World.cell?_setCell_same _ _ _ hw
  · rw [hb.frozen (p := ⟨x, 0, none⟩) hx, h.eq, World.frozen?_setCell]
    exact h.cl.f0

/-- A block of so many cells, written over from end to end. -/
theorem over_row {W : World} {q : Nat} {t : TypeId} {l l' : List Value} (h : W.heap[q]? = some (.cells l.toArray t (0, 0))) (hl : l.length = l'.length) : (W.setCells q 0 l').heap[q]? = some (.cells l'.toArray t (0, 0)) := by
  rw [heap_setCells_at l' 0 W _ h]
  congr 2
  apply Array.ext_getElem?
  intro k
  by_cases hk : k < l.length
  · rw [setMany_get? l.toArray _ l' 0 k rfl (by simpa using hk), if_pos ⟨Nat.zero_le _, by omega⟩]
    simp
  · rw [Array.getElem?_eq_none (by rw [Go.Sort.size_setMany]; simpa using hk), Array.getElem?_eq_none (by simp; omega)]
theorem below_over {w W : World} {l : List Value} {q : Nat} (h : Below q w W) (hq : q ≤ W.heap.size) : Below q w (W.setCells q 0 l) := h.grown (grown_setCells l 0 W) hq (fun k hk => by cases hk; exact Nat.le_refl _)
theorem results_row {fn : Func} {p q : Tmp} {ty : TypeId} (h : fn.results = #[.cell p ty, .tmp q]) (tmps : Array Value) {W : World} {g : Nat} {cs : Array Value} {v : Value} (hp : tmps.getD p undef = .pointer (some ⟨g, 0, none⟩)) (hq : tmps.getD q undef = v) (hl : (loadVar ty ⟨g, 0, none⟩).run Tryz.prog W = .ok (.agg cs) W) :
    (results fn tmps).run Tryz.prog W = .ok (.tuple #[.agg cs, v]) W := by
  have hp' : tmps[p]?.getD undef = .pointer (some ⟨g, 0, none⟩) := by simpa using hp
  have hq' : tmps[q]?.getD undef = v := by simpa using hq
  simp [results, h, hp', hq', asAddr, hl]
theorem infoRepl : (Tryz.prog.info? 197).map (·.size) = some 6 := by kernel_rfl
set_option maxRecDepth 100000 in
set_option maxHeartbeats 1000000 in
theorem prgReplica_no (x R n cap : Nat) (r : Int) (w : World) (h0 : ClAt w x R n cap) (hr : ¬ (0 ≤ r ∧ r < n)) :
    Calls Tryz.prog 133 #[.pointer (some ⟨x, 0, none⟩), .int .i64 r] w fun e w' => e = .returned (.tuple #[.agg zRep.toArray, .int .i64 5]) ∧ Below w.heap.size w w' := by
  have h : ClAt (w.alloc (.cells zRep.toArray 197)) x R n cap := h0.below ((Below.refl _ w).alloc (Nat.le_refl _) _) h0.lt
  have hlt := h0.lt
  go_enter_defers Tryz.func133, Tryz.ntmps133
  go_wp2_with (go_at_call 50; refine (lock_free muLib ⟨x, 0, none⟩ _ h.c0 h.f0).mono ?_; rintro e wl ⟨rfl, hwl⟩; have HL := Hid.mk (lockA h0 hwl); clear hwl)
  refine (one_no x r _ n cap _ HL.out.c41 hr).mono ?_
  rintro e w1 ⟨rfl, rfl⟩
  have hr1 := HL.out.blk
  have r0 := blk_cell hr1 0
  have r1 := blk_cell hr1 1
  have r2 := blk_cell hr1 2
  have r3 := blk_cell hr1 3
  have r4 := blk_cell hr1 4
  have r5 := blk_cell hr1 5
  have rf := blk_thaw hr1
  simp only [zRep] at r0 r1 r2 r3 r4 r5
  simp at r0 r1 r2 r3 r4 r5
  have HB := Hid.mk (over_row (l' := zRep) hr1 rfl)
  clear hr1 h
  go_wp2
  clear r0 r1 r2 r3 r4 r5 rf
  show Leaves _ _ _ _ _ _ _
  refine leaves_cons (f := 51) (args := #[.pointer (some ⟨x, 0, none⟩)]) (by simp) (by simp [go_sem]) ?_
  obtain ⟨u0, u1, u2, u3⟩ := HL.out.done (w2 := w1.setCells w.heap.size 0 zRep) (below_over (Below.refl _ _) (by rw [HL.out.size]; omega)) hlt (blk_lt HB.out)
  refine (unlock_deferred muLib ⟨x, 0, none⟩ .returning _ u0 u1).mono ?_
  rintro e u' w'' ⟨rfl, rfl, rfl⟩
  exact ⟨.tuple #[.agg zRep.toArray, .int .i64 5], results_row Tryz.results133 _ rfl rfl (run_loadVar_row _ _ _ _ _ _ _ (u3.trans HB.out) Tryz.underlying197 rfl infoRepl), rfl, u2⟩

set_option maxRecDepth 100000 in
set_option maxHeartbeats 2000000 in
theorem prgReplica_new {w : World} {x R n i : Nat} (hP : PF w x R n) (hi : i < n) :
    Calls Tryz.prog 133 #[.pointer (some ⟨x, 0, none⟩), .int .i64 i] w fun e w' => ∃ v, e = .returned (.tuple #[.agg #[.bool true, .int .i64 0, .int .i64 0, v, .int .i64 0, .int .i64 0], .int .i64 0]) ∧ w'.ownsRow w.heap.size 3 1 v n (ints (List.replicate n 0)) ∧ Below w.heap.size w w' := by
  have h0 := hP.cl
  have h : ClAt (w.alloc (.cells zRep.toArray 197)) x R n n := h0.below ((Below.refl _ w).alloc (Nat.le_refl _) _) h0.lt
  have hlt := h0.lt
  have hxR := h0.xR
  have h6 := hP.n6
  have h1 := hP.n1
  obtain ⟨m, -, -, p0, p1, p2, -, -, -, p12, p13⟩ := hP.cell hi
  obtain ⟨m', hrow, -, -⟩ := hP.row i hi
  have a5 := hrow 5 _ rfl
  have a6 := hrow 6 _ rfl
  have a7 := hrow 7 _ rfl
  have a8 := hrow 8 _ rfl
  have a9 := hrow 9 _ rfl
  have a10 := hrow 10 _ rfl
  clear hrow
  go_enter_defers Tryz.func133, Tryz.ntmps133
  go_wp2_with (go_at_call 50; refine (lock_free muLib ⟨x, 0, none⟩ _ h.c0 h.f0).mono ?_; rintro e wl ⟨rfl, hwl⟩; have HL := Hid.mk (lockA h0 hwl); clear hwl)
  refine (one_yes x R i n n _ HL.out.c41 hi).mono ?_
  rintro e w1 ⟨rfl, rfl⟩
  have c41 := HL.out.c41
  have b0 := HL.out.old R _ _ (Ne.symm hxR) p0
  have b1 := HL.out.old R _ _ (Ne.symm hxR) p1
  have b2 := HL.out.old R _ _ (Ne.symm hxR) p2
  have b12 := HL.out.old R _ _ (Ne.symm hxR) p12
  have b13 := HL.out.old R _ _ (Ne.symm hxR) p13
  have HC : Hid (∀ W, Below w1.heap.size w1 W → Calls Tryz.prog 178 #[.slice (some ⟨R, i * 14 + 5, none⟩) n 6] W fun e w' => ∃ v, e = .returned v ∧ w'.ownsRow W.heap.size 3 1 v n (ints (List.replicate n 0)) ∧ Below W.heap.size W w') := by
    intro W hW
    have hRl : R < w1.heap.size := by
      obtain ⟨cs, e, fz, hh, _⟩ := Go.Sort.cells_of_cell? b0
      exact (Array.getElem?_eq_some_iff.1 hh).1
    have hcell : ∀ j, j < 6 → W.cell? ⟨R, i * 14 + 5 + j, none⟩ = some (.int .i64 0) := by
      intro j hj
      rw [hW.cell (p := ⟨R, _, none⟩) hRl]
      refine HL.out.old R _ _ (Ne.symm hxR) ?_
      rcases (show j = 0 ∨ j = 1 ∨ j = 2 ∨ j = 3 ∨ j = 4 ∨ j = 5 by omega) with rfl | rfl | rfl | rfl | rfl | rfl
      · exact a5
      · exact a6
      · exact a7
      · exact a8
      · exact a9
      · exact a10
    refine (cloneInts R (i * 14 + 5) n 6 (List.replicate n 0) W (by simp) (fun j hj => ?_) (by omega) (by omega)).mono ?_
    · rw [List.getElem_replicate]
      exact hcell j (by simp at hj; omega)
    · rintro e w' ⟨v, rfl, ho, hb⟩
      refine ⟨v, rfl, ?_, hb⟩
      have he : (List.replicate n (0 : Int)).map (.int .i64 ·) = ints (List.replicate n 0) := by simp [ints]
      rw [← he]
      exact ho
  have HFX : Hid (∀ W, Below w1.heap.size w1 W → (W.cell? ⟨w.heap.size, 0, none⟩ = some (.bool false) ∧ W.cell? ⟨w.heap.size, 1, none⟩ = some (.int .i64 0) ∧ W.cell? ⟨w.heap.size, 2, none⟩ = some (.int .i64 0) ∧ W.cell? ⟨w.heap.size, 3, none⟩ = some (.slice none 0 0) ∧ W.cell? ⟨w.heap.size, 4, none⟩ = some (.int .i64 0) ∧ W.cell? ⟨w.heap.size, 5, none⟩ = some (.int .i64 0)) ∧ (∀ k, W.frozen? ⟨w.heap.size, k, none⟩ = false) ∧ W.heap[w.heap.size]? = some (.cells zRep.toArray 197 (0, 0))) := by
    intro W hW
    have hr1 := (hW.block _ (blk_lt HL.out.blk)).trans HL.out.blk
    exact ⟨⟨blk_cell hr1 0, blk_cell hr1 1, blk_cell hr1 2, blk_cell hr1 3, blk_cell hr1 4, blk_cell hr1 5⟩, blk_thaw hr1, hr1⟩
  have hRl : R < w1.heap.size := by
    obtain ⟨cs, e, fz, hh, _⟩ := Go.Sort.cells_of_cell? b0
    exact (Array.getElem?_eq_some_iff.1 hh).1
  have hRq : R ≠ w.heap.size := by
    obtain ⟨cs, e, fz, hh, _⟩ := Go.Sort.cells_of_cell? p0
    have := (Array.getElem?_eq_some_iff.1 hh).1
    omega
  have hxq : x ≠ w.heap.size := by omega
  have hRq' : w.heap.size ≠ R := Ne.symm hRq
  have hxq' : w.heap.size ≠ x := Ne.symm hxq
  have hxl : x < w1.heap.size := by rw [HL.out.size]; omega
  have hql : w.heap.size < w1.heap.size := by rw [HL.out.size]; omega
  clear p0 p1 p2 p12 p13 a5 a6 a7 a8 a9 a10 h h0 hP
  have q1 : (i : Int) < (n : Int) := by omega
  have q6 : (n : Int) ≤ 6 := by omega
  have q0 : (0 : Int) ≤ (n : Int) := by omega
  go_wp2
  go_region_held3 (fun w' => w'.cell? ⟨x, 41, none⟩ = some (.slice (some ⟨R, 0, none⟩) n n) ∧ w'.cell? ⟨R, i * 14, none⟩ = some (.bool true) ∧ w'.cell? ⟨R, i * 14 + 1, none⟩ = some (.int .i64 0) ∧ w'.cell? ⟨R, i * 14 + 2, none⟩ = some (.int .i64 0) ∧ w'.cell? ⟨R, i * 14 + 12, none⟩ = some (.int .i64 0) ∧ w'.cell? ⟨R, i * 14 + 13, none⟩ = some (.int .i64 0)) (first | go_keep | (go_split_ands; refine ⟨?_, ?_, ?_, ?_, ?_, ?_⟩ <;> (first | (rw [hb2.cell (p := ⟨R, _, none⟩) (by simpa using hRl)]; assumption) | (rw [hb2.cell (p := ⟨x, _, none⟩) (by simpa using hxl)]; assumption)))) (first | (go_at_call 178; refine (HC.out _ (Below.refl _ _).drew).mono ?_; rintro e w2 ⟨v, rfl, ho2, hb2⟩; obtain ⟨ad2, cp2, hv2⟩ := own_form ho2; subst hv2; obtain ⟨⟨t0, t1, t2, t3, t4, t5⟩, tf, tb⟩ := HFX.out w2 ((Below.refl _ w1).drew.trans hb2)))
  all_goals go_wp2
  have HB := Hid.mk (over_row (l' := [.bool true, .int .i64 0, .int .i64 0, .slice ad2 n cp2, .int .i64 0, .int .i64 0]) (over_row (l' := zRep) tb rfl) rfl)
  have hq2 : w.heap.size ≤ w2.heap.size := by have := hb2.size; simp at this; omega
  have HBL : Hid (Below w.heap.size w1 ((w2.setCells w.heap.size 0 zRep).setCells w.heap.size 0 [.bool true, .int .i64 0, .int .i64 0, .slice ad2 n cp2, .int .i64 0, .int .i64 0])) := below_over (below_over (((Below.refl _ w1).drew.trans hb2).mono (Nat.le_of_lt hql)) hq2) (Nat.le_trans hq2 (grown_setCells _ _ _).size)
  have HO : Hid (((w2.setCells w.heap.size 0 zRep).setCells w.heap.size 0 [.bool true, .int .i64 0, .int .i64 0, .slice ad2 n cp2, .int .i64 0, .int .i64 0]).ownsRow (w.heap.size + 1) 3 1 (.slice ad2 n cp2) n (ints (List.replicate n 0))) := by
    have ho3 : w2.ownsRow (w.heap.size + 1) 3 1 (.slice ad2 n cp2) n (ints (List.replicate n 0)) := owns_mono ho2 (by have := HL.out.size; simp; omega)
    exact owns_put (owns_put (owns_put (owns_put (owns_put (owns_put (owns_put (owns_put (owns_put (owns_put (owns_put (owns_put ho3 (by omega)) (by omega)) (by omega)) (by omega)) (by omega)) (by omega)) (by omega)) (by omega)) (by omega)) (by omega)) (by omega)) (by omega)
  clear t0 t1 t2 t3 t4 t5 tf tb ho2 hb2 HC HFX b0 b1 b2 b12 b13 c41
  show Leaves _ _ _ _ _ _ _
  refine leaves_cons (f := 51) (args := #[.pointer (some ⟨x, 0, none⟩)]) (by simp) (by simp [go_sem]) ?_
  obtain ⟨u0, u1, u2, u3⟩ := HL.out.done (w2 := (w2.setCells w.heap.size 0 zRep).setCells w.heap.size 0 [.bool true, .int .i64 0, .int .i64 0, .slice ad2 n cp2, .int .i64 0, .int .i64 0]) HBL.out hlt (blk_lt HB.out)
  refine (unlock_deferred muLib ⟨x, 0, none⟩ .returning _ u0 u1).mono ?_
  rintro e u' w'' ⟨rfl, rfl, rfl⟩
  exact ⟨.tuple #[.agg [.bool true, .int .i64 0, .int .i64 0, .slice ad2 n cp2, .int .i64 0, .int .i64 0].toArray, .int .i64 0], results_row Tryz.results133 _ rfl rfl (run_loadVar_row _ _ _ _ _ _ _ (u3.trans HB.out) Tryz.underlying197 rfl infoRepl), _, rfl, owns_mono (owns_put HO.out (by omega)) (by omega), u2⟩
end Go.Proofs.YtahdlejgjcjeoaaGreatDoor

namespace Go.Proofs.YtahdlejgjcjeoaaGreatDoor
open Go.RowKit Go.MuLone

def zFrm : List Value := [.int .i64 0, .int .i64 0, .int .i64 0, .int .i64 0, .slice none 0 0]
theorem infoFrm : (Tryz.prog.info? 153).map (·.size) = some 5 := by kernel_rfl
set_option maxRecDepth 100000 in
theorem frame_none (x : Nat) (k : Int) (w : World) (c42 : w.cell? ⟨x, 42, none⟩ = some (.slice none 0 0)) :
    Calls Tryz.prog 119 #[.pointer (some ⟨x, 0, none⟩), .int .i64 k] w fun e w' => e = .returned (.tuple #[.agg #[.int .i64 0, .int .i64 0, .int .i64 0, .int .i64 0, .slice none 0 0], .int .i64 10]) ∧ Below w.heap.size w w' := by
  have hr1 := heap_alloc_new w (.cells zFrm.toArray 153)
  have k42 := cellKeepA c42 (.cells #[.int .i64 0, .int .i64 0, .int .i64 0, .int .i64 0, .slice none 0 0] 153)
  have HB := Hid.mk hr1
  have HW := Hid.mk (below_alloc (Below.refl _ w) (.cells zFrm.toArray 153))
  clear hr1
  go_enter Tryz.func119, Tryz.ntmps119
  by_cases h0 : k < 0
  · go_wp2
    refine bodyPost_ret (v := .tuple #[.agg #[.int .i64 0, .int .i64 0, .int .i64 0, .int .i64 0, .slice none 0 0], .int .i64 10]) ?_ rfl ⟨rfl, HW.out⟩
    exact results_row Tryz.results119 _ rfl rfl (run_loadVar_row _ _ _ _ _ _ _ HB.out Tryz.underlying153 rfl infoFrm)
  · have q1 : 0 ≤ k := by omega
    go_wp2
    refine bodyPost_ret (v := .tuple #[.agg #[.int .i64 0, .int .i64 0, .int .i64 0, .int .i64 0, .slice none 0 0], .int .i64 10]) ?_ rfl ⟨rfl, HW.out⟩
    exact results_row Tryz.results119 _ rfl rfl (run_loadVar_row _ _ _ _ _ _ _ HB.out Tryz.underlying153 rfl infoFrm)

set_option maxRecDepth 100000 in
set_option maxHeartbeats 1000000 in
theorem prgFrame_none (x R n cap : Nat) (k : Int) (w : World) (h0 : ClAt w x R n cap) (c42 : w.cell? ⟨x, 42, none⟩ = some (.slice none 0 0)) :
    Calls Tryz.prog 89 #[.pointer (some ⟨x, 0, none⟩), .int .i64 k] w fun e w' => e = .returned (.tuple #[.agg #[.int .i64 0, .int .i64 0, .int .i64 0, .int .i64 0, .slice none 0 0], .int .i64 10]) ∧ Below w.heap.size w w' := by
  have h : ClAt (w.alloc (.cells zFrm.toArray 153)) x R n cap := h0.below ((Below.refl _ w).alloc (Nat.le_refl _) _) h0.lt
  have hlt := h0.lt
  go_enter_defers Tryz.func89, Tryz.ntmps89
  go_wp2_with (go_at_call 50; refine (lock_free muLib ⟨x, 0, none⟩ _ h.c0 h.f0).mono ?_; rintro e wl ⟨rfl, hwl⟩; have k42 : wl.cell? ⟨x, 42, none⟩ = some (.slice none 0 0) := (by rw [hwl]; exact (World.cell?_setCell_other _ ⟨x, 0, none⟩ ⟨x, 42, none⟩ _ (by simp)).trans (cellKeepA c42 _)); have HL := Hid.mk (lockA h0 hwl); clear hwl)
  refine (frame_none x k _ k42).mono ?_
  rintro e w2 ⟨rfl, hb2⟩
  have hr1 := (hb2.block _ (blk_lt HL.out.blk)).trans HL.out.blk
  have HBW := Hid.mk hb2
  have hq2 : w.heap.size < w2.heap.size := blk_lt hr1
  have HB := Hid.mk hr1
  have r0 : w2.cell? ⟨w.heap.size, 0, none⟩ = some (.int .i64 0) := blk_cell hr1 0
  have r1 : w2.cell? ⟨w.heap.size, 1, none⟩ = some (.int .i64 0) := blk_cell hr1 1
  have r2 : w2.cell? ⟨w.heap.size, 2, none⟩ = some (.int .i64 0) := blk_cell hr1 2
  have r3 : w2.cell? ⟨w.heap.size, 3, none⟩ = some (.int .i64 0) := blk_cell hr1 3
  have r4 : w2.cell? ⟨w.heap.size, 4, none⟩ = some (.slice none 0 0) := blk_cell hr1 4
  have rf := blk_thaw hr1
  clear hr1 h hb2 k42
  go_wp2
  clear r0 r1 r2 r3 r4 rf
  have hq : (w2.setCells w.heap.size 0 zFrm).heap.size = w2.heap.size := by simp
  have HO := Hid.mk (over_row (l' := zFrm) HB.out rfl)
  have HO2 : Hid (((w2.setCells w.heap.size 0 zFrm).alloc (.cells #[.int .i64 0, .int .i64 0, .int .i64 0, .int .i64 0, .slice none 0 0] 153)).heap[w.heap.size]? = some (.cells zFrm.toArray 153 (0, 0))) := (((Below.refl _ _).alloc (Nat.le_refl _) _).block _ (blk_lt HO.out)).trans HO.out
  have hs1 : w.heap.size ≤ wl.heap.size := by rw [HL.out.size]; omega
  have HBL : Hid (Below w.heap.size wl ((w2.setCells w.heap.size 0 zFrm).alloc (.cells #[.int .i64 0, .int .i64 0, .int .i64 0, .int .i64 0, .slice none 0 0] 153))) := (below_over (l := zFrm) (HBW.out.mono hs1) (Nat.le_of_lt hq2)).alloc (by rw [hq]; omega) _
  show Leaves _ _ _ _ _ _ _
  refine leaves_cons (f := 51) (args := #[.pointer (some ⟨x, 0, none⟩)]) (by simp) (by simp [go_sem]) ?_
  obtain ⟨u0, u1, u2, u3⟩ := HL.out.done (w2 := (w2.setCells w.heap.size 0 zFrm).alloc (.cells #[.int .i64 0, .int .i64 0, .int .i64 0, .int .i64 0, .slice none 0 0] 153)) HBL.out hlt (blk_lt HO2.out)
  refine (unlock_deferred muLib ⟨x, 0, none⟩ .returning _ u0 u1).mono ?_
  rintro e u' w'' ⟨rfl, rfl, rfl⟩
  exact ⟨.tuple #[.agg zFrm.toArray, .int .i64 10], results_row Tryz.results89 _ rfl rfl (run_loadVar_row _ _ _ _ _ _ _ (u3.trans HO2.out) Tryz.underlying153 rfl infoFrm), rfl, u2⟩
end Go.Proofs.YtahdlejgjcjeoaaGreatDoor

namespace Go.Proofs.YtahdlejgjcjeoaaGreatDoor
open Go.RowKit

set_option maxRecDepth 100000 in
set_option maxHeartbeats 400000 in
theorem refStartUp {w : World} {col : Col} {o x : Nat} {K : RefC} {c : Clu} (h : RefAt w col o x K c) (r : Int) (hs : c.startErr r ≠ 0) :
    Calls Tryz.prog 31 #[.pointer (some ⟨x, 0, none⟩), .int .i64 r] w fun e w' => e = .returned (.int .i64 (c.startErr r)) ∧ w' = w := by
  have HT := refThere h r
  cases ht : c.there r
  · rw [ht] at HT
    go_enter Tryz.func31, Tryz.ntmps31
    go_wp2_with fail
    refine HT.mono ?_
    rintro e w' ⟨rfl, rfl⟩
    go_wp2
    go_ret
    exact ⟨ret_int (by unfold Clu.startErr; rw [ht]; rfl), rfl⟩
  · obtain ⟨h0, hr⟩ := there_lt ht
    obtain ⟨n, rfl⟩ : ∃ n : Nat, r = n := ⟨r.toNat, by omega⟩
    simp only [Int.toNat_natCast] at hr
    obtain ⟨g, cap, D, hv, hc, hD, hp, hR⟩ := h.ptr hr
    have c5 := h.cells.2.2.2.2.2.1
    rw [hv] at c5
    have d0 := hR.cells.1
    have hdn : (c.rep n).down = false := by
      cases hd : (c.rep n).down
      · rfl
      · exact absurd (by unfold Clu.startErr; rw [ht]; simp [hd]) hs
    have HW : Hid (c.startErr (n : Int) = 9) := by unfold Clu.startErr Hid; rw [ht]; simp [hdn]
    rw [hdn] at d0
    rw [ht] at HT
    clear h hR ht hdn hs
    generalize c.reps.length = L at *
    have q1 : (n : Int) < (L : Int) := by omega
    go_enter Tryz.func31, Tryz.ntmps31
    go_wp2_with fail
    refine HT.mono ?_
    rintro e w' ⟨rfl, rfl⟩
    go_wp2
    go_ret
    exact ⟨ret_int HW.out.symm, rfl⟩
end Go.Proofs.YtahdlejgjcjeoaaGreatDoor
