/- The program's network: launch, lose, frame. -/
import Derived.Test.YtahdlejgjcjeoabGreatDoorS21
import Derived.Lib.BufferMore
import Derived.Test.YtahdlejgjcjeoabGreatDoorS14
import Derived.Test.YtahdlejgjcjeoabGreatDoorS13
import Derived.Test.YtahdlejgjcjeoabGreatDoorS05
import Derived.Laws.Concat
import Derived.Deep.RegionHeldLaw
import Derived.Test.YtahdlejgjcjeoabGreatDoorS09
import Derived.Deep.Cut
import Derived.Test.YtahdlejgjcjeoabGreatDoorS06
namespace Go.Proofs.YtahdlejgjcjeoabGreatDoor
open Go.RowKit Go.MuLone

set_option maxRecDepth 100000 in
/-- slices.Clone of numbers. -/
theorem cloneInts (b off n cap : Nat) (l : List Int) (w : World) (hn : l.length = n) (hc : ∀ j (h : j < l.length), w.cell? ⟨b, off + j, none⟩ = some (.int .i64 l[j])) (hlen : n ≤ 1048576) (hpos : 0 < n) :
    Calls Tryz.prog 107 #[.slice (some ⟨b, off, none⟩) n cap] w fun e w' => ∃ v, e = .returned v ∧ w'.ownsRow w.heap.size 3 1 v n (l.map (.int .i64 ·)) ∧ Below w.heap.size w w' := by
  obtain ⟨i0, hi, hz0, hz1, hz2⟩ := info_parts infoInt
  go_enter Tryz.func107, Tryz.ntmps107
  have heq := fun W => Lib.run_eql_slice_some_nil (P := Tryz.prog) W (t := 78) ⟨b, off, none⟩ n cap Tryz.underlying78
  have hown : (w.alloc (.cells #[] 3)).ownsRow w.heap.size 3 1 (.slice (some ⟨w.heap.size, 0, none⟩) 0 0) 0 [] :=
    ⟨rfl, .inr ⟨w.heap.size, 0, #[], rfl, Nat.le_refl _, heap_alloc_new w _, Nat.le_refl _, Nat.zero_le _, rfl, rfl⟩⟩
  have hnews : ∀ j u, (l.map (Value.int .i64 ·))[j]? = some u → (w.alloc (.cells #[] 3)).cell? ((⟨b, off, none⟩ : Addr).add j) = some u := by
    intro j u hu
    have hadd : (⟨b, off, none⟩ : Addr).add j = ⟨b, off + j, none⟩ := by unfold Addr.add; split <;> simp_all
    have hj : j < l.length := by have := (List.getElem?_eq_some_iff.1 hu).1; simpa using this
    rw [hadd]
    refine cellKeepA ((hc j hj).trans ?_) _
    simpa [hj] using hu
  have HL : Hid ((l.map (Value.int .i64 ·)).length = n * 1) := by rw [Hid]; simpa using hn
  have HO : Hid (∀ u ∈ l.map (Value.int .i64 ·), u.oneCell' = true) := by
    intro u hu
    obtain ⟨k, -, rfl⟩ := List.mem_map.1 hu
    rfl
  generalize l.map (Value.int .i64 ·) = L at *
  clear hc
  go_wp2_with (at_builtin; refine wpList_append_two _ rfl _ _ 78 rfl w.heap.size 3 i0 _ 1 8 Tryz.underlying78 hi hz0 hz1 hz2 rfl (by decide) _ 0 _ rfl hown ⟨b, off, none⟩ n cap L rfl HL.out hnews HO.out hpos (by unfold maxLen; omega) (by omega) (by simp) ?_; intro gA capA wA hownA hcaseA)
  go_ret
  rw [Nat.zero_add] at hownA
  refine ⟨_, rfl, hownA, ?_⟩
  have hb0 := below_alloc (Below.refl _ w) (.cells #[] 3)
  rcases hcaseA with ⟨h1, _⟩ | ⟨h1, h2⟩
  · exact hb0.grown h1 (by simp) (fun k hk => by cases hk)
  · exact hb0.grown h2 (by simp) (fun k hk => by cases hk; have := own_g h1; omega)

def zRep : List Value := [.bool false, .int .i64 0, .int .i64 0, .slice none 0 0, .int .i64 0, .int .i64 0]
/-- The world in which the lock is held, a new block ahead of it. -/
structure LockA (w wl : World) (x R n cap q : Nat) (o : Obj) : Prop where
  eq : wl = (w.alloc o).setCell ⟨x, 0, none⟩ (.int .i32 1)
  cl : ClAt (w.alloc o) x R n cap
  c41 : wl.cell? ⟨x, 41, none⟩ = some (.slice (some ⟨R, 0, none⟩) n cap)
  blk : wl.heap[w.heap.size]? = some o
  old : ∀ g k v, g ≠ x → w.cell? ⟨g, k, none⟩ = some v → wl.cell? ⟨g, k, none⟩ = some v
  size : wl.heap.size = w.heap.size + 1
theorem lockA {w wl : World} {x R n cap : Nat} {o : Obj} (h : ClAt w x R n cap) (hwl : wl = (w.alloc o).setCell ⟨x, 0, none⟩ (.int .i32 1)) : LockA w wl x R n cap 0 o where
  eq := hwl
  cl := h.below ((Below.refl _ w).alloc (Nat.le_refl _) _) h.lt
  c41 := by
    rw [hwl]
    exact (h.below ((Below.refl _ w).alloc (Nat.le_refl _) o) h.lt).l41
  blk := by
    rw [hwl]
    have hlt := h.lt
    exact ((grown_setCell _ ⟨x, 0, none⟩ _).block _ (by simp) (fun e => by have : w.heap.size = x := Option.some.inj e; omega)).trans (heap_alloc_new w o)
  old g k v hg hv := by
    rw [hwl]
    exact (World.cell?_setCell_other _ ⟨x, 0, none⟩ ⟨g, k, none⟩ _ (fun e => hg (by cases e; rfl))).trans (cellKeepA hv o)
  size := by rw [hwl]; simp
/-- Behind the call: the lock is given back. -/
theorem LockA.done {w wl w2 : World} {x R n cap : Nat} {o : Obj} (h : LockA w wl x R n cap 0 o) (hb : Below w.heap.size wl w2) (hx : x < w.heap.size) (hs : w.heap.size < w2.heap.size) : w2.cell? ⟨x, 0, none⟩ = some (.int .i32 1) ∧ w2.frozen? ⟨x, 0, none⟩ = false ∧ Below w.heap.size w (w2.setCell ⟨x, 0, none⟩ (.int .i32 0)) ∧ (w2.setCell ⟨x, 0, none⟩ (.int .i32 0)).heap[w.heap.size]? = w2.heap[w.heap.size]? := by
  have h0 := h.cl.c0
  have hw : w.cell? ⟨x, 0, none⟩ = some (.int .i32 0) := by
    rw [← h0]
    exact (((Below.refl w.heap.size w).alloc (Nat.le_refl _) o).cell (p := ⟨x, 0, none⟩) hx).symm
  have hb1 : Below w.heap.size (w.setCell ⟨x, 0, none⟩ (.int .i32 1)) w2 := by
    refine ⟨hb.os.trans ?_, hb.tape.trans ?_, hb.output.trans ?_, ?_, fun k hk => (hb.block k hk).trans ?_⟩
    · rw [h.eq]; rfl
    · rw [h.eq]; rfl
    · rw [h.eq]; rfl
    · simp; omega
    · rw [h.eq]
      by_cases hkx : k = x
      · subst hkx
        obtain ⟨cs, e, fz, hx', _⟩ := Go.Sort.cells_of_cell? hw
        rw [heap_setCell_at hx', heap_setCell_at ((((Below.refl w.heap.size w).alloc (Nat.le_refl _) o).block k hk).trans hx')]
      · rw [Below.heap_setCell _ _ _ _ hkx, Below.heap_setCell _ _ _ _ hkx]
        exact ((Below.refl w.heap.size w).alloc (Nat.le_refl _) o).block k hk
  refine ⟨?_, ?_, below_lock hw hb1, Below.heap_setCell _ _ _ _ (by show w.heap.size ≠ x; omega)⟩
  · rw [hb1.cell (p := ⟨x, 0, none⟩) hx]
    exact World.cell?_setCell_same _ _ _ hw
  · rw [hb.frozen (p := ⟨x, 0, none⟩) hx, h.eq, World.frozen?_setCell]
    exact h.cl.f0

/-- A block of so many cells, written over from end to end. -/
theorem over_row {W : World} {q : Nat} {t : TypeId} {l l' : List Value} (h : W.heap[q]? = some (.cells l.toArray t (0, 0))) (hl : l.length = l'.length) : (W.setCells q 0 l').heap[q]? = some (.cells l'.toArray t (0, 0)) := by
  rw [heap_setCells_at l' 0 W _ h]
  congr 2
  apply Array.ext_getElem?
  intro k
  by_cases hk : k < l.length
  · rw [setMany_get? l.toArray _ l' 0 k rfl (by simpa using hk), if_pos ⟨Nat.zero_le _, by omega⟩]
    simp
  · rw [Array.getElem?_eq_none (by rw [Go.Sort.size_setMany]; simpa using hk), Array.getElem?_eq_none (by simp; omega)]
theorem below_over {w W : World} {l : List Value} {q : Nat} (h : Below q w W) (hq : q ≤ W.heap.size) : Below q w (W.setCells q 0 l) := h.grown (grown_setCells l 0 W) hq (fun k hk => by cases hk; exact Nat.le_refl _)
theorem results_row {fn : Func} {p q : Tmp} {ty : TypeId} (h : fn.results = #[.cell p ty, .tmp q]) (tmps : Array Value) {W : World} {g : Nat} {cs : Array Value} {v : Value} (hp : tmps.getD p undef = .pointer (some ⟨g, 0, none⟩)) (hq : tmps.getD q undef = v) (hl : (loadVar ty ⟨g, 0, none⟩).run Tryz.prog W = .ok (.agg cs) W) :
    (results fn tmps).run Tryz.prog W = .ok (.tuple #[.agg cs, v]) W := by
  have hp' : tmps[p]?.getD undef = .pointer (some ⟨g, 0, none⟩) := by simpa using hp
  have hq' : tmps[q]?.getD undef = v := by simpa using hq
  simp [results, h, hp', hq', asAddr, hl]
theorem infoRepl : (Tryz.prog.info? 134).map (·.size) = some 6 := by kernel_rfl
set_option maxRecDepth 100000 in
set_option maxHeartbeats 1000000 in
theorem prgReplica_no (x R n cap : Nat) (r : Int) (w : World) (h0 : ClAt w x R n cap) (hr : ¬ (0 ≤ r ∧ r < n)) :
    Calls Tryz.prog 59 #[.pointer (some ⟨x, 0, none⟩), .int .i64 r] w fun e w' => e = .returned (.tuple #[.agg zRep.toArray, .int .i64 5]) ∧ Below w.heap.size w w' := by
  have h : ClAt (w.alloc (.cells zRep.toArray 134)) x R n cap := h0.below ((Below.refl _ w).alloc (Nat.le_refl _) _) h0.lt
  have hlt := h0.lt
  go_enter_defers Tryz.func59, Tryz.ntmps59
  go_wp2_with (go_at_call 44; refine (lock_free muLib ⟨x, 0, none⟩ _ h.c0 h.f0).mono ?_; rintro e wl ⟨rfl, hwl⟩; have HL := Hid.mk (lockA h0 hwl); clear hwl)
  refine (one_no x r _ n cap _ HL.out.c41 hr).mono ?_
  rintro e w1 ⟨rfl, rfl⟩
  have hr1 := HL.out.blk
  have r0 := blk_cell hr1 0
  have r1 := blk_cell hr1 1
  have r2 := blk_cell hr1 2
  have r3 := blk_cell hr1 3
  have r4 := blk_cell hr1 4
  have r5 := blk_cell hr1 5
  have rf := blk_thaw hr1
  simp only [zRep] at r0 r1 r2 r3 r4 r5
  simp at r0 r1 r2 r3 r4 r5
  have HB := Hid.mk (over_row (l' := zRep) hr1 rfl)
  clear hr1 h
  go_wp2
  clear r0 r1 r2 r3 r4 r5 rf
  show Leaves _ _ _ _ _ _ _
  refine leaves_cons (f := 45) (args := #[.pointer (some ⟨x, 0, none⟩)]) (by simp) (by simp [go_sem]) ?_
  obtain ⟨u0, u1, u2, u3⟩ := HL.out.done (w2 := w1.setCells w.heap.size 0 zRep) (below_over (Below.refl _ _) (by rw [HL.out.size]; omega)) hlt (blk_lt HB.out)
  refine (unlock_deferred muLib ⟨x, 0, none⟩ .returning _ u0 u1).mono ?_
  rintro e u' w'' ⟨rfl, rfl, rfl⟩
  exact ⟨.tuple #[.agg zRep.toArray, .int .i64 5], results_row Tryz.results59 _ rfl rfl (run_loadVar_row _ _ _ _ _ _ _ (u3.trans HB.out) Tryz.underlying134 rfl infoRepl), rfl, u2⟩

end Go.Proofs.YtahdlejgjcjeoabGreatDoor

namespace Go.Proofs.YtahdlejgjcjeoabGreatDoor
open Go.RowKit Go.MuLone

def zFrm : List Value := [.int .i64 0, .int .i64 0, .int .i64 0, .int .i64 0, .slice none 0 0]
theorem infoFrmS : (Tryz.prog.info? 110).map (·.size) = some 5 := by kernel_rfl
end Go.Proofs.YtahdlejgjcjeoabGreatDoor

namespace Go.Proofs.YtahdlejgjcjeoabGreatDoor
open Go.RowKit Go.MuLone

set_option maxRecDepth 100000 in
theorem frame_no (x : Nat) (k : Int) (w : World) (ad : Option Addr) (m cp : Nat) (c42 : w.cell? ⟨x, 42, none⟩ = some (.slice ad m cp)) (hk : ¬ (0 ≤ k ∧ k < m)) :
    Calls Tryz.prog 46 #[.pointer (some ⟨x, 0, none⟩), .int .i64 k] w fun e w' => e = .returned (.tuple #[.agg #[.int .i64 0, .int .i64 0, .int .i64 0, .int .i64 0, .slice none 0 0], .int .i64 10]) ∧ Below w.heap.size w w' := by
  have hr1 := heap_alloc_new w (.cells zFrm.toArray 110)
  have k42 := cellKeepA c42 (.cells #[.int .i64 0, .int .i64 0, .int .i64 0, .int .i64 0, .slice none 0 0] 110)
  have HB := Hid.mk hr1
  have HW := Hid.mk (below_alloc (Below.refl _ w) (.cells zFrm.toArray 110))
  clear hr1
  go_enter Tryz.func46, Tryz.ntmps46
  by_cases h0 : k < 0
  · go_wp2
    refine bodyPost_ret (v := .tuple #[.agg #[.int .i64 0, .int .i64 0, .int .i64 0, .int .i64 0, .slice none 0 0], .int .i64 10]) ?_ rfl ⟨rfl, HW.out⟩
    exact results_row Tryz.results46 _ rfl rfl (run_loadVar_row _ _ _ _ _ _ _ HB.out Tryz.underlying110 rfl infoFrmS)
  · have q1 : 0 ≤ k := by omega
    have q2 : (m : Int) ≤ k := by omega
    go_wp2
    refine bodyPost_ret (v := .tuple #[.agg #[.int .i64 0, .int .i64 0, .int .i64 0, .int .i64 0, .slice none 0 0], .int .i64 10]) ?_ rfl ⟨rfl, HW.out⟩
    exact results_row Tryz.results46 _ rfl rfl (run_loadVar_row _ _ _ _ _ _ _ HB.out Tryz.underlying110 rfl infoFrmS)

set_option maxRecDepth 100000 in
set_option maxHeartbeats 1000000 in
theorem prgFrame_no (x R n cap : Nat) (k : Int) (w : World) (h0 : ClAt w x R n cap) (ad : Option Addr) (m cp : Nat) (c42 : w.cell? ⟨x, 42, none⟩ = some (.slice ad m cp)) (hk : ¬ (0 ≤ k ∧ k < m)) :
    Calls Tryz.prog 91 #[.pointer (some ⟨x, 0, none⟩), .int .i64 k] w fun e w' => e = .returned (.tuple #[.agg #[.int .i64 0, .int .i64 0, .int .i64 0, .int .i64 0, .slice none 0 0], .int .i64 10]) ∧ Below w.heap.size w w' := by
  have h : ClAt (w.alloc (.cells zFrm.toArray 110)) x R n cap := h0.below ((Below.refl _ w).alloc (Nat.le_refl _) _) h0.lt
  have hlt := h0.lt
  go_enter_defers Tryz.func91, Tryz.ntmps91
  go_wp2_with (go_at_call 44; refine (lock_free muLib ⟨x, 0, none⟩ _ h.c0 h.f0).mono ?_; rintro e wl ⟨rfl, hwl⟩; have k42 : wl.cell? ⟨x, 42, none⟩ = some (.slice ad m cp) := (by rw [hwl]; exact (World.cell?_setCell_other _ ⟨x, 0, none⟩ ⟨x, 42, none⟩ _ (by simp)).trans (cellKeepA c42 _)); have HL := Hid.mk (lockA h0 hwl); clear hwl)
  refine (frame_no x k _ ad m cp k42 hk).mono ?_
  rintro e w2 ⟨rfl, hb2⟩
  have hr1 := (hb2.block _ (blk_lt HL.out.blk)).trans HL.out.blk
  have HBW := Hid.mk hb2
  have hq2 : w.heap.size < w2.heap.size := blk_lt hr1
  have HB := Hid.mk hr1
  have r0 : w2.cell? ⟨w.heap.size, 0, none⟩ = some (.int .i64 0) := blk_cell hr1 0
  have r1 : w2.cell? ⟨w.heap.size, 1, none⟩ = some (.int .i64 0) := blk_cell hr1 1
  have r2 : w2.cell? ⟨w.heap.size, 2, none⟩ = some (.int .i64 0) := blk_cell hr1 2
  have r3 : w2.cell? ⟨w.heap.size, 3, none⟩ = some (.int .i64 0) := blk_cell hr1 3
  have r4 : w2.cell? ⟨w.heap.size, 4, none⟩ = some (.slice none 0 0) := blk_cell hr1 4
  have rf := blk_thaw hr1
  clear hr1 h hb2 k42
  go_wp2
  clear r0 r1 r2 r3 r4 rf
  have hq : (w2.setCells w.heap.size 0 zFrm).heap.size = w2.heap.size := by simp
  have HO := Hid.mk (over_row (l' := zFrm) HB.out rfl)
  have HO2 : Hid (((w2.setCells w.heap.size 0 zFrm).alloc (.cells #[.int .i64 0, .int .i64 0, .int .i64 0, .int .i64 0, .slice none 0 0] 110)).heap[w.heap.size]? = some (.cells zFrm.toArray 110 (0, 0))) := (((Below.refl _ _).alloc (Nat.le_refl _) _).block _ (blk_lt HO.out)).trans HO.out
  have hs1 : w.heap.size ≤ wl.heap.size := by rw [HL.out.size]; omega
  have HBL : Hid (Below w.heap.size wl ((w2.setCells w.heap.size 0 zFrm).alloc (.cells #[.int .i64 0, .int .i64 0, .int .i64 0, .int .i64 0, .slice none 0 0] 110))) := (below_over (l := zFrm) (HBW.out.mono hs1) (Nat.le_of_lt hq2)).alloc (by rw [hq]; omega) _
  show Leaves _ _ _ _ _ _ _
  refine leaves_cons (f := 45) (args := #[.pointer (some ⟨x, 0, none⟩)]) (by simp) (by simp [go_sem]) ?_
  obtain ⟨u0, u1, u2, u3⟩ := HL.out.done (w2 := (w2.setCells w.heap.size 0 zFrm).alloc (.cells #[.int .i64 0, .int .i64 0, .int .i64 0, .int .i64 0, .slice none 0 0] 110)) HBL.out hlt (blk_lt HO2.out)
  refine (unlock_deferred muLib ⟨x, 0, none⟩ .returning _ u0 u1).mono ?_
  rintro e u' w'' ⟨rfl, rfl, rfl⟩
  exact ⟨.tuple #[.agg zFrm.toArray, .int .i64 10], results_row Tryz.results91 _ rfl rfl (run_loadVar_row _ _ _ _ _ _ _ (u3.trans HO2.out) Tryz.underlying110 rfl infoFrmS), rfl, u2⟩

set_option maxRecDepth 100000 in
theorem prgDrop_no (x R n cap : Nat) (k : Int) (w : World) (h : ClAt w x R n cap) (ad : Option Addr) (m cp : Nat) (c42 : w.cell? ⟨x, 42, none⟩ = some (.slice ad m cp)) (hk : ¬ (0 ≤ k ∧ k < m)) :
    Calls Tryz.prog 13 #[.pointer (some ⟨x, 0, none⟩), .int .i64 k] w fun e w' => e = .returned (.int .i64 10) ∧ Below w.heap.size w w' := by
  have k42 : (w.setCell ⟨x, 0, none⟩ (.int .i32 1)).cell? ⟨x, 42, none⟩ = some (.slice ad m cp) := (World.cell?_setCell_other _ ⟨x, 0, none⟩ ⟨x, 42, none⟩ _ (by simp)).trans c42
  have hfr := frame_no x k (w.setCell ⟨x, 0, none⟩ (.int .i32 1)) ad m cp k42 hk
  rw [lock_size] at hfr
  go_enter_defers Tryz.func13, Tryz.ntmps13
  go_wp2_with (go_at_call 44; refine (lock_free muLib ⟨x, 0, none⟩ _ h.c0 h.f0).mono ?_; rintro e w' ⟨rfl, rfl⟩)
  refine hfr.mono ?_
  rintro e w2 ⟨rfl, hb2⟩
  go_wp2
  refine leaves_cons (f := 45) (args := #[.pointer (some ⟨x, 0, none⟩)]) (by simp) (by simp [go_sem]) ?_
  obtain ⟨u0, u1, u2⟩ := h.unlock (w2 := _) (hb2.alloc (by have := hb2.size; rwa [lock_size] at this) _)
  refine (unlock_deferred muLib ⟨x, 0, none⟩ .returning _ u0 u1).mono ?_
  rintro e u' w'' ⟨rfl, rfl, rfl⟩
  exact ⟨_, results_tmp rfl _ _ _, rfl, u2⟩

set_option maxRecDepth 100000 in
theorem prgDeliver_no (x R n cap : Nat) (k : Int) (w : World) (h : ClAt w x R n cap) (ad : Option Addr) (m cp : Nat) (c42 : w.cell? ⟨x, 42, none⟩ = some (.slice ad m cp)) (hk : ¬ (0 ≤ k ∧ k < m)) :
    Calls Tryz.prog 49 #[.pointer (some ⟨x, 0, none⟩), .int .i64 k] w fun e w' => e = .returned (.int .i64 10) ∧ Below w.heap.size w w' := by
  have k42 : (w.setCell ⟨x, 0, none⟩ (.int .i32 1)).cell? ⟨x, 42, none⟩ = some (.slice ad m cp) := (World.cell?_setCell_other _ ⟨x, 0, none⟩ ⟨x, 42, none⟩ _ (by simp)).trans c42
  have hfr := frame_no x k (w.setCell ⟨x, 0, none⟩ (.int .i32 1)) ad m cp k42 hk
  rw [lock_size] at hfr
  go_enter_defers Tryz.func49, Tryz.ntmps49
  go_wp2_with (go_at_call 44; refine (lock_free muLib ⟨x, 0, none⟩ _ h.c0 h.f0).mono ?_; rintro e w' ⟨rfl, rfl⟩)
  refine hfr.mono ?_
  rintro e w2 ⟨rfl, hb2⟩
  go_wp2
  refine leaves_cons (f := 45) (args := #[.pointer (some ⟨x, 0, none⟩)]) (by simp) (by simp [go_sem]) ?_
  obtain ⟨u0, u1, u2⟩ := h.unlock (w2 := _) (hb2.alloc (by have := hb2.size; rwa [lock_size] at this) _)
  refine (unlock_deferred muLib ⟨x, 0, none⟩ .returning _ u0 u1).mono ?_
  rintro e u' w'' ⟨rfl, rfl, rfl⟩
  exact ⟨_, results_tmp rfl _ _ _, rfl, u2⟩

set_option maxRecDepth 100000 in
theorem prgCopy_no (x R n cap : Nat) (k : Int) (w : World) (h : ClAt w x R n cap) (ad : Option Addr) (m cp : Nat) (c42 : w.cell? ⟨x, 42, none⟩ = some (.slice ad m cp)) (hk : ¬ (0 ≤ k ∧ k < m)) :
    Calls Tryz.prog 84 #[.pointer (some ⟨x, 0, none⟩), .int .i64 k] w fun e w' => e = .returned (.int .i64 10) ∧ Below w.heap.size w w' := by
  have k42 : (w.setCell ⟨x, 0, none⟩ (.int .i32 1)).cell? ⟨x, 42, none⟩ = some (.slice ad m cp) := (World.cell?_setCell_other _ ⟨x, 0, none⟩ ⟨x, 42, none⟩ _ (by simp)).trans c42
  have hfr := frame_no x k (w.setCell ⟨x, 0, none⟩ (.int .i32 1)) ad m cp k42 hk
  rw [lock_size] at hfr
  go_enter_defers Tryz.func84, Tryz.ntmps84
  go_wp2_with (go_at_call 44; refine (lock_free muLib ⟨x, 0, none⟩ _ h.c0 h.f0).mono ?_; rintro e w' ⟨rfl, rfl⟩)
  refine hfr.mono ?_
  rintro e w2 ⟨rfl, hb2⟩
  go_wp2
  refine leaves_cons (f := 45) (args := #[.pointer (some ⟨x, 0, none⟩)]) (by simp) (by simp [go_sem]) ?_
  obtain ⟨u0, u1, u2⟩ := h.unlock (w2 := _) (hb2.alloc (by have := hb2.size; rwa [lock_size] at this) _)
  refine (unlock_deferred muLib ⟨x, 0, none⟩ .returning _ u0 u1).mono ?_
  rintro e u' w'' ⟨rfl, rfl, rfl⟩
  exact ⟨_, results_tmp rfl _ _ _, rfl, u2⟩

theorem prgFlightC {w : World} {col : Col} {o x : Nat} {K : PrK} {c : Clu} (h : PrgAt w col o x K c) :
    Calls Tryz.prog 12 #[.pointer (some ⟨x, 0, none⟩)] w fun e w' => e = .returned (.int .i64 c.net.length) ∧ Below w.heap.size w w' := by
  obtain ⟨ad, cap, hv, _⟩ := h.at_.net.form
  have c42 := h.at_.cl.2.2.2.2.2.1
  rw [hv] at c42
  have := prgFlight x K.R _ _ ad K.ns.length cap w (h.at_.clAt h.is.lk) c42
  rwa [show K.ns.length = c.net.length by rw [← h.is.nets, List.length_map]] at this
end Go.Proofs.YtahdlejgjcjeoabGreatDoor

namespace Go.Proofs.YtahdlejgjcjeoabGreatDoor
open Go.RowKit

end Go.Proofs.YtahdlejgjcjeoabGreatDoor

namespace Go.Proofs.YtahdlejgjcjeoabGreatDoor
open Go.RowKit

end Go.Proofs.YtahdlejgjcjeoabGreatDoor

namespace Go.Proofs.YtahdlejgjcjeoabGreatDoor
open Go.RowKit

/-- Two cells of a block of the call's own, while callees make new ones. -/
def Two (w : World) (a b : Value) (wK : World) : Prop := wK.cell? ⟨w.heap.size, 0, none⟩ = some a ∧ wK.cell? ⟨w.heap.size, 1, none⟩ = some b ∧ Below w.heap.size w wK ∧ w.heap.size < wK.heap.size
end Go.Proofs.YtahdlejgjcjeoabGreatDoor

namespace Go.Proofs.YtahdlejgjcjeoabGreatDoor
open Go.RowKit

end Go.Proofs.YtahdlejgjcjeoabGreatDoor

namespace Go.Proofs.YtahdlejgjcjeoabGreatDoor
open Go.RowKit

end Go.Proofs.YtahdlejgjcjeoabGreatDoor

namespace Go.Proofs.YtahdlejgjcjeoabGreatDoor
open Go.RowKit

end Go.Proofs.YtahdlejgjcjeoabGreatDoor

namespace Go.Proofs.YtahdlejgjcjeoabGreatDoor
open Go.RowKit

end Go.Proofs.YtahdlejgjcjeoabGreatDoor

namespace Go.Proofs.YtahdlejgjcjeoabGreatDoor
open Go.RowKit

/-- All that is one owner's. -/
def ofOwner (o : Nat) : Nat × Nat → Prop := fun κ => κ.1 = o
end Go.Proofs.YtahdlejgjcjeoabGreatDoor

namespace Go.Proofs.YtahdlejgjcjeoabGreatDoor
open Go.RowKit

theorem five_int {a b c d : Int} {v : Value} (h : v.oneCell' = true) : ∀ u ∈ [Value.int .i64 a, .int .i64 b, .int .i64 c, .int .i64 d, v], u.oneCell' = true := by
  intro u hu
  simp only [List.mem_cons, List.not_mem_nil, or_false] at hu
  rcases hu with rfl | rfl | rfl | rfl | rfl
  · rfl
  · rfl
  · rfl
  · rfl
  · exact h
theorem five_cells' {w : World} {q : Nat} {a b c d e : Value} {t : TypeId} {fz : Nat × Nat} (h : w.heap[q]? = some (.cells #[a, b, c, d, e] t fz)) : w.cell? ⟨q, 0, none⟩ = some a ∧ w.cell? ⟨q, 1, none⟩ = some b ∧ w.cell? ⟨q, 2, none⟩ = some c ∧ w.cell? ⟨q, 3, none⟩ = some d ∧ w.cell? ⟨q, 4, none⟩ = some e := ⟨blk_cell h 0, blk_cell h 1, blk_cell h 2, blk_cell h 3, blk_cell h 4⟩
theorem netS_owner {o : Nat} : ∀ κ, (κ = (o, 3) ∨ κ = (o, 0)) → ofOwner o κ := fun κ h => by rcases h with rfl | rfl <;> rfl
end Go.Proofs.YtahdlejgjcjeoabGreatDoor

namespace Go.Proofs.YtahdlejgjcjeoabGreatDoor
open Go.RowKit Go.MuLone

def netS (o : Nat) (κ : Nat × Nat) : Prop := κ = (o, 3) ∨ κ = (o, 0)
theorem netS_own {o : Nat} : ∀ κ, netS o κ → ofOwn o κ := netS_owner
theorem netS_ne {o k : Nat} (h3 : k ≠ 3) (h0 : k ≠ 0) : ¬ netS o (o, k) := by
  rintro (e | e)
  · exact h3 (congrArg Prod.snd e)
  · exact h0 (congrArg Prod.snd e)
def putN (l : List Frm) (f : Frm) : List Frm := if l.length < 200 then l ++ [f] else l
def PrK.setN (K : PrK) (v : Value) (ns : List Fm) : PrK := { K with vF := v, ns := ns }
theorem PrK.setN_block (K : PrK) (v : Value) (ns : List Fm) : K.block.set 42 v = (K.setN v ns).block := by
  have hl : (linkB K.near).length = 36 := by simp [linkB]
  have e1 : K.block = ([.int .i32 K.lk, .int .u32 0, .bool K.bp, .bool K.rr, .int .i64 K.room] ++ linkB K.near ++ [.slice (some ⟨K.R, 0, none⟩) K.Ds.length K.Ds.length]) ++ [K.vF] := by simp [PrK.block]
  have e2 : (K.setN v ns).block = ([.int .i32 K.lk, .int .u32 0, .bool K.bp, .bool K.rr, .int .i64 K.room] ++ linkB K.near ++ [.slice (some ⟨K.R, 0, none⟩) K.Ds.length K.Ds.length]) ++ [v] := by simp [PrK.block, PrK.setN]
  have hz : ([.int .i32 K.lk, .int .u32 0, .bool K.bp, .bool K.rr, .int .i64 K.room] ++ linkB K.near ++ [.slice (some ⟨K.R, 0, none⟩) K.Ds.length K.Ds.length] : List Value).length = 42 := by simp [hl]
  rw [e1, e2, List.set_append_right _ _ (by rw [hz]; exact Nat.le_refl _), hz]
  rfl
/-- The network has turned. -/
theorem PrB.setNet {w w' : World} {col col' : Col} {o x : Nat} {ex : Option Nat} {K : PrK} {v : Value} {ns : List Fm} (h : PrB w col o x ex K) (hf : FrC (netS o) col col' w w')
    (hb : w'.heap[x]? = some (.cells (K.setN v ns).block.toArray 108 (0, 0)))
    (hn : RowC w' col' (o, 3) 110 5 v ns.length (ns.flatMap Fm.cells)) (hd : ∀ f ∈ ns, Held w' col' (o, 1) f.v f.f.d) : PrB w' col' o x ex (K.setN v ns) where
  blk := hb
  cx := (hf.colB h.blk).trans h.cx
  row := hf.block h.row (by show ¬ netS o (col K.R); rw [h.cR]; exact netS_ne (by omega) (by omega))
  cR := (hf.colB h.row).trans h.cR
  net := hn
  netd := hd
  reps i hi hne := (h.reps i hi hne).kept hf (netS_ne (by omega) (by omega)) (netS_ne (by omega) (by omega)) (netS_ne (by omega) (by omega)) (netS_ne (by omega) (by omega))
/-- Behind an append to the network, and its storing. -/
theorem PrB.pushNet {w1 w2 w3 : World} {col : Col} {o x g cap H : Nat} {ex : Option Nat} {K : PrK} {m : Fm} (h : PrB w1 col o x ex K) (hb : Below w1.heap.size w1 w2)
    (hown : w3.ownsRow 0 110 5 (.slice (some ⟨g, 0, none⟩) (K.ns.length + 1) cap) (K.ns.length + 1) (K.ns.flatMap Fm.cells ++ m.cells)) (hg : w2.grownBy w3 K.vF.ownBlock) (hat : K.vF.ownBlock = some g ∨ g = H) (hH : w1.heap.size ≤ H) (hd : Held w1 col (o, 1) m.v m.f.d) :
    (w3.cell? ⟨x, 42, none⟩ = some K.vF ∧ w3.frozen? ⟨x, 42, none⟩ = false) ∧ PrB (w3.setCell ⟨x, 42, none⟩ (.slice (some ⟨g, 0, none⟩) (K.ns.length + 1) cap)) (paint col w1.heap.size (o, 3)) o x ex (K.setN (.slice (some ⟨g, 0, none⟩) (K.ns.length + 1) cap) (K.ns ++ [m])) ∧ FrC (netS o) col (paint col w1.heap.size (o, 3)) w1 (w3.setCell ⟨x, 42, none⟩ (.slice (some ⟨g, 0, none⟩) (K.ns.length + 1) cap)) := by
  obtain ⟨hr3, hf3⟩ := h.net.lies hb hown hg hat hH
  have hblk := hf3.block h.blk (by rw [h.cx]; simp)
  have hρ : paint col w1.heap.size (o, 3) x = (o, 0) := (hf3.colB h.blk).trans h.cx
  have f4 : FrC (netS o) col (paint col w1.heap.size (o, 3)) w1 (w3.setCell ⟨x, 42, none⟩ (.slice (some ⟨g, 0, none⟩) (K.ns.length + 1) cap)) := (hf3.mono fun κ e => .inl e).trans (frC_setCell (S := netS o) 42 _ (.inr hρ))
  have f5 : FrC (fun κ => κ = (o, 0)) (paint col w1.heap.size (o, 3)) (paint col w1.heap.size (o, 3)) w3 (w3.setCell ⟨x, 42, none⟩ (.slice (some ⟨g, 0, none⟩) (K.ns.length + 1) cap)) := frC_setCell (S := fun κ => κ = (o, 0)) 42 _ hρ
  have hc := blk_cell hblk 42
  rw [List.getElem?_toArray, show K.block[42]? = some K.vF by
    have hl : (linkB K.near).length = 36 := by simp [linkB]
    simp [PrK.block, hl]] at hc
  refine ⟨⟨hc, blk_thaw hblk 42⟩, ?_, f4⟩
  exact h.setNet (ns := K.ns ++ [m]) (v := .slice (some ⟨g, 0, none⟩) (K.ns.length + 1) cap) f4 (by
    rw [heap_setCell_at hblk, List.setIfInBounds_toArray, K.setN_block _ (K.ns ++ [m])]) (by
    rw [List.length_append, List.flatMap_append]
    simpa using hr3.kept f5 (by simp)) (fun f hm => by
    rcases List.mem_append.1 hm with hm | hm
    · exact (h.netd f hm).kept f4 (netS_ne (by omega) (by omega))
    · obtain rfl := List.mem_singleton.1 hm
      exact hd.kept f4 (netS_ne (by omega) (by omega)))
theorem infoFrmN : (Tryz.prog.info? 110).map (fun i => (i.zero, i.size, i.bytes)) = some (some (.agg #[.int .i64 0, .int .i64 0, .int .i64 0, .int .i64 0, .slice none 0 0]), 5, 56) := by kernel_rfl

set_option maxRecDepth 100000 in
set_option maxHeartbeats 2000000 in
theorem prgLaunch {w : World} {col : Col} {o x : Nat} {ex : Option Nat} {K : PrK} {f : Frm} {v : Value} (h : PrB w col o x ex K) (hl : K.ns.length ≤ 200) (hd : Held w col (o, 1) v f.d) :
    Calls Tryz.prog 79 #[.pointer (some ⟨x, 0, none⟩), .agg #[.int .i64 f.kind, .int .i64 f.src, .int .i64 f.dst, .int .i64 f.upto, v]] w fun e w' => e = .returned (.tuple #[]) ∧ ∃ v' ns' col', Hid (PrB w' col' o x ex (K.setN v' ns')) ∧ Hid (ns'.map Fm.f = putN (K.ns.map Fm.f) f) ∧ Hid (FrC (netS o) col col' w w') := by
  obtain ⟨adN, cpN, hvN, hcN⟩ := h.net.form
  have c6 := h.cl.2.2.2.2.2.1
  have f6 := h.cl.2.2.2.2.2.2 42
  have hx := blk_lt h.blk
  rw [hvN] at c6
  obtain ⟨adv, cpv, hv, _⟩ := id hd
  subst hv
  obtain ⟨i0, hi0, hz0, hz1, hz2⟩ := info_parts infoFrmN
  have H := Hid.mk h
  have HD := Hid.mk hd
  obtain ⟨f0, f1, f2, f3, f4⟩ := f
  simp only at *
  by_cases hlt : K.ns.length < 200
  · have HP : Hid (∀ m : Fm, m.f = ⟨f0, f1, f2, f3, f4⟩ → (K.ns ++ [m]).map Fm.f = putN (K.ns.map Fm.f) ⟨f0, f1, f2, f3, f4⟩) := fun m hm => by
      unfold putN
      rw [List.length_map, if_pos hlt, List.map_append, ← hm]
      rfl
    have q1 : (K.ns.length : Int) < 200 := by omega
    have q2 : K.ns.length < 200 := by omega
    go_enter Tryz.func79, Tryz.ntmps79
    go_wp2
    have hfb := heap_alloc_new w (.cells #[.int .i64 f0, .int .i64 f1, .int .i64 f2, .int .i64 f3, .slice adv f4.length cpv] 110)
    have hb0 := below_alloc (Below.refl _ w) (.cells #[.int .i64 f0, .int .i64 f1, .int .i64 f2, .int .i64 f3, .slice adv f4.length cpv] 110)
    generalize w.alloc (.cells #[.int .i64 f0, .int .i64 f1, .int .i64 f2, .int .i64 f3, .slice adv f4.length cpv] 110) = w0 at *
    obtain ⟨e0, e1, e2, e3, e4⟩ := five_cells' hfb
    have h0 := h.below hb0 (o, 1)
    have hd0 := hd.kept (S := fun _ => False) (frC_below hb0 (o, 1)) id
    have HF0 : Hid (FrC (netS o) col (paint col w.heap.size (o, 1)) w w0) := frC_below hb0 (o, 1)
    have c60 := h0.cl.2.2.2.2.2.1
    rw [hvN] at c60
    have f60 := h0.cl.2.2.2.2.2.2 42
    have hx0 := blk_lt h0.blk
    have hfl := blk_lt hfb
    have HOW : Hid (w0.ownsRow 0 110 5 (.slice adN K.ns.length cpN) K.ns.length (K.ns.flatMap Fm.cells)) := by rw [← hvN]; exact h0.net.own
    have HPN : Hid (∀ g cap w3, w3.ownsRow 0 110 5 (.slice (some ⟨g, 0, none⟩) (K.ns.length + 1) cap) (K.ns.length + 1) (K.ns.flatMap Fm.cells ++ [.int .i64 f0, .int .i64 f1, .int .i64 f2, .int .i64 f3, .slice adv f4.length cpv]) → ∀ w2, Below w0.heap.size w0 w2 → w2.grownBy w3 (Value.slice adN K.ns.length cpN).ownBlock → (Value.slice adN K.ns.length cpN).ownBlock = some g ∨ g = w0.heap.size + 1 → _) := fun g cap w3 k1 w2 k2 k3 k4 => PrB.pushNet (m := ⟨⟨f0, f1, f2, f3, f4⟩, .slice adv f4.length cpv⟩) h0 k2 k1 (by rw [hvN]; exact k3) (by rw [hvN]; exact k4) (Nat.le_succ _) hd0
    rw [hvN] at HPN
    clear h0 hd0 h hd hfb hb0 H HD c6 f6 hvN hcN
    go_region_law (refine step_append_lies _ rfl _ _ 106 rfl 0 110 i0 _ 5 56 Tryz.underlying106 hi0 hz0 hz1 hz2 rfl (by decide) _ K.ns.length _ rfl (HOW.out.alloc _) ⟨w0.heap.size, 0, none⟩ 1 1 [.int .i64 f0, .int .i64 f1, .int .i64 f2, .int .i64 f3, .slice adv f4.length cpv] rfl rfl (World.news_of_block (heap_alloc_new w0 _)) (five_int rfl) (by decide) (by unfold maxLen; omega) (by omega) (by simp) (w0.heap.size + 1) (by simp) ?_; intro g3 capn w3 hown3 hgrow3 hat3 hlt3; obtain ⟨⟨k6, l6⟩, hrep3, hfr3⟩ := HPN.out g3 capn w3 hown3 (w0.alloc (.cells #[.int .i64 f0, .int .i64 f1, .int .i64 f2, .int .i64 f3, .slice adv f4.length cpv] 110)) (below_alloc (Below.refl _ _) _) (grown_dry hgrow3) hat3)
    all_goals go_wp2
    all_goals go_end0
    all_goals exact ⟨rfl, _, _, _, hrep3, HP.out _ rfl, HF0.out.trans hfr3⟩
  · have HP : Hid (K.ns.map Fm.f = putN (K.ns.map Fm.f) ⟨f0, f1, f2, f3, f4⟩) := by unfold Hid putN; rw [List.length_map, if_neg hlt]
    have q1 : (200 : Int) ≤ (K.ns.length : Int) := by omega
    go_enter Tryz.func79, Tryz.ntmps79
    go_wp2
    go_end0
    exact ⟨rfl, K.vF, K.ns, col, H.out.same (below_alloc (Below.refl _ _) _), HP, frC_same (below_alloc (Below.refl _ _) _)⟩

theorem frm_cells_one {ns : List Fm} {w : World} {col : Col} {κ : Nat × Nat} (h : ∀ f ∈ ns, Held w col κ f.v f.f.d) : ∀ u ∈ ns.flatMap Fm.cells, u.oneCell' = true := by
  intro u hu
  obtain ⟨f, hf, hu⟩ := List.mem_flatMap.1 hu
  obtain ⟨ad, cp, hv, -⟩ := h f hf
  simp only [Fm.cells, List.mem_cons, List.not_mem_nil, or_false] at hu
  rcases hu with rfl | rfl | rfl | rfl | rfl
  · rfl
  · rfl
  · rfl
  · rfl
  · rw [hv]; rfl
theorem flat_erase {ns : List Fm} {k : Nat} (hk : k < ns.length) : (ns.flatMap Fm.cells).take (k * 5) ++ (ns.flatMap Fm.cells).drop ((k + 1) * 5) = (ns.eraseIdx k).flatMap Fm.cells := by
  induction ns generalizing k with
  | nil => simp at hk
  | cons a l ih =>
    cases k with
    | zero => simp [Fm.cells]
    | succ k =>
      have := ih (k := k) (by simpa using hk)
      rw [List.eraseIdx_cons_succ, List.flatMap_cons, List.flatMap_cons, ← this]
      have e1 : (k + 1) * 5 = a.cells.length + k * 5 := by show _ = 5 + _; omega
      have e2 : (k + 1 + 1) * 5 = a.cells.length + (k + 1) * 5 := by show _ = 5 + _; omega
      rw [e2, List.drop_length_add_append, e1, List.take_length_add_append, List.append_assoc]

/-- Behind the deletion of a frame, and its storing. -/
theorem PrB.delNet {w : World} {col : Col} {o x g cap n k : Nat} {ex : Option Nat} {K : PrK} (h : PrB w col o x ex K) (hn : K.ns.length = n + 1) (hk : k < n + 1) (hv : K.vF = .slice (some ⟨g, 0, none⟩) (n + 1) cap) :
    Calls Tryz.prog 100 #[.slice (some ⟨g, 0, none⟩) (n + 1) cap, .int .i64 k, .int .i64 ((k : Int) + 1)] w fun e w' => e = .returned (.slice (some ⟨g, 0, none⟩) n cap) ∧ w'.cell? ⟨x, 42, none⟩ = some (.slice (some ⟨g, 0, none⟩) (n + 1) cap) ∧ w'.frozen? ⟨x, 42, none⟩ = false ∧
      Hid (PrB (w'.setCell ⟨x, 42, none⟩ (.slice (some ⟨g, 0, none⟩) n cap)) col o x ex (K.setN (.slice (some ⟨g, 0, none⟩) n cap) (K.ns.eraseIdx k))) ∧ Hid (FrC (netS o) col col w (w'.setCell ⟨x, 42, none⟩ (.slice (some ⟨g, 0, none⟩) n cap))) := by
  have hrow := h.net
  rw [hv, hn] at hrow
  have hd := delFrm g cap (n + 1) k (k + 1) _ w hrow.own (frm_cells_one h.netd) rfl hk
  refine Calls.mono (show Calls Tryz.prog 100 #[.slice (some ⟨g, 0, none⟩) (n + 1) cap, .int .i64 k, .int .i64 ((k : Int) + 1)] w _ from hd) ?_
  rintro e w' ⟨rfl, rfl⟩
  obtain ⟨r1, r2⟩ := hrow.del (i := k) (zl := zeroF) hk rfl
  rw [flat_erase (by omega), show n + 1 - 1 = n by omega] at r1
  rw [show n + 1 - 1 = n by omega] at r2
  have hl : n = (K.ns.eraseIdx k).length := by rw [List.length_eraseIdx]; split <;> omega
  rw [show n + 1 - 1 = n by omega]
  generalize (w.drew.setCells g (k * 5) (List.drop ((k + 1) * 5) (K.ns.flatMap Fm.cells))).setCells g (n * 5) zeroF = W at *
  have hblk := r2.block h.blk (by rw [h.cx]; simp)
  have f4 : FrC (netS o) col col w (W.setCell ⟨x, 42, none⟩ (.slice (some ⟨g, 0, none⟩) n cap)) := (r2.mono fun κ e => .inl e).trans (frC_setCell (S := netS o) 42 _ (.inr h.cx))
  have f5 : FrC (fun κ => κ = (o, 0)) col col W (W.setCell ⟨x, 42, none⟩ (.slice (some ⟨g, 0, none⟩) n cap)) := frC_setCell (S := fun κ => κ = (o, 0)) 42 _ h.cx
  have hc := blk_cell hblk 42
  rw [List.getElem?_toArray, show K.block[42]? = some K.vF by
    have hl : (linkB K.near).length = 36 := by simp [linkB]
    simp [PrK.block, hl], hv] at hc
  refine ⟨rfl, hc, blk_thaw hblk 42, ?_, f4⟩
  exact h.setNet (ns := K.ns.eraseIdx k) f4 (by
    rw [heap_setCell_at hblk, List.setIfInBounds_toArray, K.setN_block _ (K.ns.eraseIdx k)]) (by rw [← hl]; exact r1.kept f5 (by simp)) (fun f hm => (h.netd f (List.mem_of_mem_eraseIdx hm)).kept f4 (netS_ne (by omega) (by omega)))

set_option maxRecDepth 100000 in
set_option maxHeartbeats 2000000 in
/-- The k-th frame is taken out of flight. -/
theorem prgLose {w : World} {col : Col} {o x : Nat} {ex : Option Nat} {K : PrK} {k : Nat} (h : PrB w col o x ex K) (hk : k < K.ns.length) (hl : K.ns.length ≤ 200) :
    Calls Tryz.prog 47 #[.pointer (some ⟨x, 0, none⟩), .int .i64 k] w fun e w' => e = .returned (.tuple #[]) ∧ ∃ v', Hid (PrB w' col o x ex (K.setN v' (K.ns.eraseIdx k))) ∧ Hid (FrC (netS o) col col w w') := by
  obtain ⟨n, hn⟩ : ∃ n, K.ns.length = n + 1 := ⟨K.ns.length - 1, by omega⟩
  obtain ⟨g, cap, hv, hcap, -⟩ := h.net.at (by omega)
  rw [hn] at hv
  have HD := Hid.mk (fun W (hb : Below w.heap.size w W) => (h.same hb).delNet hn (k := k) (by omega) hv)
  have c42 := h.cl.2.2.2.2.2.1
  rw [hv] at c42
  have hx := blk_lt h.blk
  have q1 : (k : Int) + 1 ≤ 200 := by omega
  have q0 : (0 : Int) ≤ k := by omega
  clear h hn hv
  go_enter Tryz.func47, Tryz.ntmps47
  go_wp2_with fail
  refine (HD.out _ (Below.refl _ _)).mono ?_
  rintro e w2 ⟨rfl, y0, y1, y2, y3⟩
  go_wp2
  go_end0
  exact ⟨rfl, _, y2, y3⟩

set_option maxRecDepth 100000 in
/-- The k-th frame. -/
theorem frame_yes {w : World} {col : Col} {o x : Nat} {ex : Option Nat} {K : PrK} {k : Nat} (h : PrB w col o x ex K) (hk : k < K.ns.length) :
    Calls Tryz.prog 46 #[.pointer (some ⟨x, 0, none⟩), .int .i64 k] w fun e w' => e = .returned (.tuple #[.agg (K.ns[k]).cells.toArray, .int .i64 0]) ∧ Below w.heap.size w w' := by
  obtain ⟨ad, cap, hv, hcap, H⟩ := h.net.elem (f := Fm.cells) (s := 5) (fun _ => rfl)
  obtain ⟨g, rfl, hg, -, -, hrow⟩ := H (by omega)
  have c42 := h.cl.2.2.2.2.2.1
  rw [hv] at c42
  obtain ⟨adv, cpv, hvv, -⟩ := h.netd _ (List.getElem_mem hk)
  have r0 := hrow k hk 0 _ rfl
  have r1 := hrow k hk 1 _ rfl
  have r2 := hrow k hk 2 _ rfl
  have r3 := hrow k hk 3 _ rfl
  have r4 := hrow k hk 4 _ rfl
  have hx := blk_lt h.blk
  rw [Nat.add_zero] at r0
  generalize K.ns[k] = m at *
  obtain ⟨⟨f0, f1, f2, f3, fd⟩, v⟩ := m
  simp only at *
  subst hvv
  unfold Fm.cells
  simp only
  clear H hrow
  generalize hL : K.ns.length = L at *
  have q1 : (k : Int) < (L : Int) := by omega
  have q0 : (0 : Int) ≤ (k : Int) := by omega
  have q2 : ¬ (k : Int) < 0 := by omega
  have q3 : ¬ (L : Int) ≤ (k : Int) := by omega
  clear h hv
  go_enter Tryz.func46, Tryz.ntmps46
  go_wp2
  have hb := heap_alloc_new w (.cells #[.int .i64 f0, .int .i64 f1, .int .i64 f2, .int .i64 f3, .slice adv fd.length cpv] 110)
  refine bodyPost_ret (v := .tuple #[.agg #[.int .i64 f0, .int .i64 f1, .int .i64 f2, .int .i64 f3, .slice adv fd.length cpv], .int .i64 0]) ?_ rfl ⟨rfl, below_alloc (Below.refl _ _) _⟩
  exact results_row Tryz.results46 _ rfl rfl (run_loadVar_row _ _ _ _ _ _ _ hb Tryz.underlying110 rfl infoFrmS)
end Go.Proofs.YtahdlejgjcjeoabGreatDoor
