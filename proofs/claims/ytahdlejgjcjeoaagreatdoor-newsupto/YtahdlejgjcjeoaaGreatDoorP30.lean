/- The program's cluster: Log, Buffer, Read of a new replica; Replica, Frame. -/
import Derived.Test.YtahdlejgjcjeoaaGreatDoorP29
import Derived.Test.YtahdlejgjcjeoaaGreatDoorP18
import Derived.Test.YtahdlejgjcjeoaaGreatDoorP17
import Derived.Test.YtahdlejgjcjeoaaGreatDoorP21
import Derived.Test.YtahdlejgjcjeoaaGreatDoorP28
namespace Go.Proofs.YtahdlejgjcjeoaaGreatDoor
open Go.RowKit

set_option maxRecDepth 100000 in
set_option maxHeartbeats 1000000 in
theorem refRead_any (v : Value) (l : List At) (kind : Int) (key : ByteArray) (w : World) (h1 : SliceOf w v l) (hs1 : ∀ a ∈ l, short a) (hlen : l.length ≤ 549755813888) (htb : ∀ T, IsTold l T → T.length ≤ 4194304) (hk : key.size ≤ 1099511627776) :
    Calls Tryz.prog 176 #[v, .int .i64 kind, .string key] w fun e w' => ∃ n v' es, e = .returned (.tuple #[.agg #[.int .i64 n, v'], .int .i64 (readCode l kind)]) ∧ w'.ownsRow w.heap.size 9 1 v' es.length (es.map Value.string) ∧ Hid (ReadSpec l kind key n es) ∧ Below w.heap.size w w' := by
  have HC1 : Hid (∀ W, Below w.heap.size w W → Calls Tryz.prog 210 #[v] W fun e w' => e = .returned (.bool (l.all mayB)) ∧ Below W.heap.size W w') := fun W hW => mays_any v l W (h1.below hW) hs1 (by omega)
  have HC2 : Hid (l.all mayB = true → 1 ≤ kind ∧ kind ≤ 5 → ∀ W, Below w.heap.size w W → Calls Tryz.prog 211 #[v, .int .i64 kind, .string key] W fun e w' => ∃ T v', e = .returned (.agg #[.int .i64 (valN kind key T), v']) ∧ Hid (IsTold l T) ∧ Hid (w'.ownsRow W.heap.size 9 1 v' (valE T kind key T).length ((valE T kind key T).map Value.string)) ∧ Below W.heap.size W w') := fun hl hki W hW => value_any v l kind key W (h1.below hW) (List.all_eq_true.1 hl) hlen htb hk hki
  clear h1 hs1 htb
  go_enter Tryz.func176, Tryz.ntmps176
  go_wp2_with fail
  have hb0 := below_alloc (Below.refl _ w) (.cells #[.int .i64 0, .slice none 0 0] 98)
  have hz0 : (w.alloc (.cells #[.int .i64 0, .slice none 0 0] 98)).heap.size = w.heap.size + 1 := by simp
  have hr0 : ResAt (w.alloc (.cells #[.int .i64 0, .slice none 0 0] 98)) w.heap.size := heap_alloc_new w _
  generalize w.alloc (.cells #[.int .i64 0, .slice none 0 0] 98) = w0 at *
  refine (HC1.out w0 hb0).mono ?_
  rintro e w1 ⟨rfl, hb1⟩
  have hbw1 : Below w.heap.size w w1 := hb0.trans (hb1.mono hb0.size)
  have hr1 : ResAt w1 w.heap.size := hr0.below hb1 (by omega)
  have hsz1 := hb1.size
  clear HC1 hr0 hb1
  cases hl : l.all mayB
  · have HCD : Hid (readCode l kind = 1) := by rw [Hid]; unfold readCode; rw [hl]; rfl
    obtain ⟨c0, c1, f0, f1⟩ := hr1.cells
    clear HC2 hl
    go_wp2
    refine bodyPost_ret (v := .tuple #[.agg #[.int .i64 0, .slice none 0 0], .int .i64 1]) ?_ rfl ⟨0, _, [], by rw [HCD.out], ⟨rfl, .inl ⟨rfl, rfl⟩⟩, .inr ⟨by rw [HCD.out]; omega, rfl, rfl⟩, ?_⟩
    · simp [results, Tryz.results176, go_sem, c0, c1]
    · exact (hbw1.setCell (Nat.le_refl _) _).setCell (Nat.le_refl _) _
  · by_cases hki : 1 ≤ kind ∧ kind ≤ 5
    · have hc : readCode l kind = 0 := by unfold readCode; rw [hl, if_pos rfl, if_pos hki]
      have HML : Hid (∀ a ∈ l, mayB a = true) := List.all_eq_true.1 hl
      have HCD : Hid (readCode l kind = 0) := hc
      have hcv := HC2.out hl hki w1 hbw1
      have HR1 : Hid (ResAt w1 w.heap.size) := hr1
      clear HC2 hl hr1 hc
      go_wp2_with fail
      refine hcv.mono ?_
      rintro e w2 ⟨T, v', rfl, hT, ho, hb2⟩
      obtain ⟨c0, c1, f0, f1⟩ := (HR1.out.below hb2 (by omega)).cells
      have hbw2 : Below w.heap.size w w2 := hbw1.trans (hb2.mono hbw1.size)
      obtain ⟨ad, cp, hv⟩ := own_form ho.out
      subst hv
      clear hcv HR1
      go_wp2
      refine bodyPost_ret (v := .tuple #[.agg #[.int .i64 (valN kind key T), .slice ad (valE T kind key T).length cp], .int .i64 0]) ?_ rfl ⟨_, _, _, by rw [HCD.out], owns_mono (owns_set (owns_set ho.out (by omega)) (by omega)) (by omega), .inl ⟨HCD.out, HML.out, T, hT.out, rfl, rfl⟩, (hbw2.setCell (Nat.le_refl _) _).setCell (Nat.le_refl _) _⟩
      simp [results, Tryz.results176, go_sem, c0, c1]
    · have hc : readCode l kind = 6 := by unfold readCode; rw [hl, if_pos rfl, if_neg hki]
      obtain ⟨c0, c1, f0, f1⟩ := hr1.cells
      have HCD : Hid (readCode l kind = 6) := hc
      clear HC2 hl hc
      by_cases h1 : kind < 1
      · go_wp2
        refine bodyPost_ret (v := .tuple #[.agg #[.int .i64 0, .slice none 0 0], .int .i64 6]) ?_ rfl ⟨0, _, [], by rw [HCD.out], ⟨rfl, .inl ⟨rfl, rfl⟩⟩, .inr ⟨by rw [HCD.out]; omega, rfl, rfl⟩, ?_⟩
        · simp [results, Tryz.results176, go_sem, c0, c1]
        · exact (hbw1.setCell (Nat.le_refl _) _).setCell (Nat.le_refl _) _
      · have h5 : 5 < kind := by omega
        have h1' : 1 ≤ kind := by omega
        go_wp2
        refine bodyPost_ret (v := .tuple #[.agg #[.int .i64 0, .slice none 0 0], .int .i64 6]) ?_ rfl ⟨0, _, [], by rw [HCD.out], ⟨rfl, .inl ⟨rfl, rfl⟩⟩, .inr ⟨by rw [HCD.out]; omega, rfl, rfl⟩, ?_⟩
        · simp [results, Tryz.results176, go_sem, c0, c1]
        · exact (hbw1.setCell (Nat.le_refl _) _).setCell (Nat.le_refl _) _
end Go.Proofs.YtahdlejgjcjeoaaGreatDoor

namespace Go.Proofs.YtahdlejgjcjeoaaGreatDoor
open Go.RowKit

def Clu.readErr (c : Clu) (r kind : Int) : Int := if c.works r = 0 then readCode (c.rep r.toNat).atoms kind else c.works r
/-- What Read of a replica gives. -/
def Clu.readIs (c : Clu) (r kind : Int) (key : ByteArray) (n : Int) (es : List ByteArray) : Prop := (c.works r = 0 ∧ ReadSpec (c.rep r.toNat).atoms kind key n es) ∨ (c.works r ≠ 0 ∧ n = 0 ∧ es = [])
theorem told_lim {U : List At} {N : Nat} {l T : List At} (hL : Lim U N) (hs : ∀ a ∈ l, a ∈ U) (h : IsTold l T) : T.length ≤ 4194304 := by
  have := length_le_of_sub (sorted_ne h.sorted) fun x hx => hs x (h.great x hx).1
  have := hL.2
  omega
theorem short_may {a : At} (h : mayB a = true) : short a := by
  have := fits_of_may h
  unfold fits at this
  unfold short
  omega

set_option maxRecDepth 100000 in
set_option maxHeartbeats 2000000 in
theorem refReadC {w : World} {col : Col} {o x N : Nat} {U : List At} {K : RefC} {c : Clu} (h : RefAt w col o x K c) (hok : c.ok U N) (hL : Lim U N) (r kind : Int) (key : ByteArray) (hk : key.size ≤ 1099511627776) :
    Calls Tryz.prog 126 #[.pointer (some ⟨x, 0, none⟩), .int .i64 r, .int .i64 kind, .string key] w fun e w' => ∃ n v es, e = .returned (.tuple #[.agg #[.int .i64 n, v], .int .i64 (c.readErr r kind)]) ∧ w'.ownsRow w.heap.size 9 1 v es.length (es.map Value.string) ∧ Hid (c.readIs r kind key n es) ∧ Below w.heap.size w w' := by
  have HW : Hid (∀ W, Below w.heap.size w W → Calls Tryz.prog 68 #[.pointer (some ⟨x, 0, none⟩), .int .i64 r] W fun e w' => e = .returned (.int .i64 (c.works r)) ∧ w' = W) := fun W hW => refWorks (h.same hW) hok.n6 r
  unfold Clu.readErr Clu.readIs
  by_cases hw : c.works r = 0
  · obtain ⟨⟨h0, hr⟩, hd⟩ := works_zero hw
    obtain ⟨n, rfl⟩ : ∃ n : Nat, r = n := ⟨r.toNat, by omega⟩
    simp only [Int.toNat_natCast] at hr hd ⊢
    obtain ⟨g, cap, D, hv, hc, hD, hp, hR⟩ := h.ptr hr
    have c5 := h.cells.2.2.2.2.2.1
    rw [hv] at c5
    have d1 := hR.cells.2.1
    have hrep := hok.rep hr
    have hmA := hrep.may hok.may
    obtain ⟨ad, cp, hva, _⟩ := id hR.atoms
    have HT : Hid (∀ W, Below w.heap.size w W → Calls Tryz.prog 176 #[.slice ad (c.rep n).atoms.length cp, .int .i64 kind, .string key] W fun e w' => ∃ n' v' es, e = .returned (.tuple #[.agg #[.int .i64 n', v'], .int .i64 (readCode (c.rep n).atoms kind)]) ∧ w'.ownsRow W.heap.size 9 1 v' es.length (es.map Value.string) ∧ Hid (ReadSpec (c.rep n).atoms kind key n' es) ∧ Below W.heap.size W w') := fun W hW => refRead_any _ _ kind key W (by rw [← hva]; exact hR.atoms.slice.below hW) (fun a ha => short_may (hmA a ha)) (by have := hrep.alen; have := hL.prod; omega) (fun T hT => told_lim hL hrep.sub hT) hk
    have hx := blk_lt h.blk
    have hg : g < w.heap.size := World.block_lt_of_cell? w ⟨g, n, none⟩ hp
    have hρ := blk_lt hR.blk
    rw [hva] at d1
    rw [hw] at HW ⊢
    rw [if_pos rfl]
    clear h hR hok hrep hw hD hva hv hmA
    generalize hLL : c.reps.length = L at *
    clear hLL
    generalize (c.rep n).atoms = A at *
    generalize D.ρ = ρ at *
    have q1 : (n : Int) < (L : Int) := by omega
    generalize hcd : readCode A kind = cd at *
    clear hcd
    go_enter Tryz.func126, Tryz.ntmps126
    go_wp2_with fail
    refine (HW.out _ (below_alloc (Below.refl _ _) _)).mono ?_
    rintro e w' ⟨rfl, rfl⟩
    go_wp2_with fail
    refine (HT.out _ (below_alloc (Below.refl _ _) _)).mono ?_
    rintro e w2 ⟨n2, v2, es, rfl, hown2, hsp, hb2⟩
    obtain ⟨ad2, cp2, hv2⟩ := own_form hown2
    subst hv2
    have hrb := (hb2.block w.heap.size (by simp)).trans (heap_alloc_new w (.cells #[.int .i64 0, .slice none 0 0] 98))
    have r0 : w2.cell? ⟨w.heap.size, 0, none⟩ = some (.int .i64 0) := blk_cell hrb 0
    have r1 : w2.cell? ⟨w.heap.size, 1, none⟩ = some (.slice none 0 0) := blk_cell hrb 1
    have rf0 : w2.frozen? ⟨w.heap.size, 0, none⟩ = false := blk_thaw hrb 0
    have rf1 : w2.frozen? ⟨w.heap.size, 1, none⟩ = false := blk_thaw hrb 1
    have hbw := (below_alloc (Below.refl _ w) (.cells #[.int .i64 0, .slice none 0 0] 98)).trans (hb2.mono (by simp))
    have HO : Hid (w2.ownsRow (w.heap.size + 1) 9 1 (.slice ad2 es.length cp2) es.length (es.map Value.string)) := by rw [Hid]; simpa using hown2
    clear HT HW hown2 hb2 hrb
    go_wp2
    refine bodyPost_ret (v := .tuple #[.agg #[.int .i64 n2, .slice ad2 es.length cp2], .int .i64 cd]) ?_ rfl ⟨n2, _, es, rfl, owns_mono (owns_put (owns_put HO.out (by omega)) (by omega)) (by omega), .inl ⟨by trivial, hsp.out⟩, (hbw.setCell (Nat.le_refl _) _).setCell (Nat.le_refl _) _⟩
    simp [results, Tryz.results126, go_sem, r0, r1]
  · rw [if_neg hw]
    generalize c.works r = cd at *
    go_enter Tryz.func126, Tryz.ntmps126
    go_wp2_with fail
    refine (HW.out _ (below_alloc (Below.refl _ _) _)).mono ?_
    rintro e w' ⟨rfl, rfl⟩
    clear HW
    go_wp2
    refine bodyPost_ret (v := .tuple #[.agg #[.int .i64 0, .slice none 0 0], .int .i64 cd]) ?_ rfl ⟨0, .slice none 0 0, [], rfl, by simp [World.ownsRow], .inr ⟨hw, rfl, rfl⟩, below_alloc (Below.refl _ _) _⟩
    simp [results, Tryz.results126, go_sem]

end Go.Proofs.YtahdlejgjcjeoaaGreatDoor

namespace Go.Proofs.YtahdlejgjcjeoaaGreatDoor
open Go.RowKit Go.MuLone

theorem StMap.fr {w w' : World} {X : Nat → Prop} {b n : Nat} {M : Sl → Option Gr} (h : StMap w b n M) (hf : Fr X w w') (hx : ¬ X b) : StMap w' b n M := by
  have hlt := h.lt
  obtain ⟨D, ⟨es, clock, hb, F, hs, hD⟩, h2⟩ := h
  exact ⟨D, ⟨es, clock, (hf.block b hlt hx).trans hb, F, hs, hD⟩, h2⟩
theorem PF.fr {w w' : World} {X : Nat → Prop} {x R n : Nat} (h : PF w x R n) (hf : Fr X w w') (hx : ¬ X x) (hR : ¬ X R) (hm : ∀ i, i < n → ∀ m, w.cell? ⟨R, i * 14 + 3, none⟩ = some (.map (some m)) → ¬ X m) : PF w' x R n := by
  have hxl := h.cl.lt
  have hRl : R < w.heap.size := by
    obtain ⟨m, h1, _⟩ := h.row 0 (by have := h.n1; omega)
    obtain ⟨cs, e, fz, hh, _⟩ := Go.Sort.cells_of_cell? (h1 0 _ rfl)
    exact (Array.getElem?_eq_some_iff.1 hh).1
  have bx := hf.block x hxl hx
  have bR := hf.block R hRl hR
  refine ⟨h.n1, h.n6, ⟨(World.cell?_of_block (a := ⟨x, 0, none⟩) bx).trans h.cl.c0, (World.frozen?_of_block (a := ⟨x, 0, none⟩) bx).trans h.cl.f0, (World.cell?_of_block (a := ⟨x, 41, none⟩) bx).trans h.cl.c41, h.cl.xR, h.cl.cap⟩, (World.cell?_of_block (a := ⟨x, 42, none⟩) bx).trans h.c42, fun i hi => ?_⟩
  obtain ⟨m, h1, h2, h3⟩ := h.row i hi
  refine ⟨m, fun j v hv => (World.cell?_of_block (a := ⟨R, i * 14 + j, none⟩) bR).trans (h1 j v hv), ?_, h3⟩
  exact h2.fr hf (hm i hi m (h1 3 _ rfl))
theorem PF.below {w w' : World} {x R n : Nat} (h : PF w x R n) (hb : Below w.heap.size w w') : PF w' x R n :=
  h.fr (X := fun _ => False) ((Fr.refl _ w).below hb) id id fun _ _ _ _ => id
theorem PF.cell {w : World} {x R n i : Nat} (h : PF w x R n) (hi : i < n) : ∃ m, StMap w m 0 noMap ∧ m ≠ x ∧ w.cell? ⟨R, i * 14, none⟩ = some (.bool true) ∧ w.cell? ⟨R, i * 14 + 1, none⟩ = some (.int .i64 0) ∧ w.cell? ⟨R, i * 14 + 2, none⟩ = some (.int .i64 0) ∧ w.cell? ⟨R, i * 14 + 3, none⟩ = some (.map (some m)) ∧ w.cell? ⟨R, i * 14 + 4, none⟩ = some (.slice none 0 0) ∧ w.cell? ⟨R, i * 14 + 11, none⟩ = some (.slice none 0 0) ∧ w.cell? ⟨R, i * 14 + 12, none⟩ = some (.int .i64 0) ∧ w.cell? ⟨R, i * 14 + 13, none⟩ = some (.int .i64 0) := by
  obtain ⟨m, h1, h2, h3⟩ := h.row i hi
  exact ⟨m, h2, h3, h1 0 _ rfl, h1 1 _ rfl, h1 2 _ rfl, h1 3 _ rfl, h1 4 _ rfl, h1 11 _ rfl, h1 12 _ rfl, h1 13 _ rfl⟩

theorem tellOf_none {out : List At} (h : TellOf noMap out) : out = [] := by
  cases out with
  | nil => rfl
  | cons a l =>
    have := ((h.mem a).1 (by simp)).2
    cases this

set_option maxRecDepth 100000 in
theorem prgLog_new (x R n i : Nat) (w : World) (h : ClAt w x R n n) (hi : i < n) (hlog : w.cell? ⟨R, i * 14 + 11, none⟩ = some (.slice none 0 0)) :
    Calls Tryz.prog 131 #[.pointer (some ⟨x, 0, none⟩), .int .i64 i] w fun e w' => e = .returned (.tuple #[.string ⟨#[]⟩, .int .i64 0]) ∧ Below w.heap.size w w' := by
  have k41 := h.l41
  have klog := h.lR hlog
  go_enter_defers Tryz.func131, Tryz.ntmps131
  go_wp2_with (go_at_call 50; refine (lock_free muLib ⟨x, 0, none⟩ _ h.c0 h.f0).mono ?_; rintro e w' ⟨rfl, rfl⟩)
  refine (one_yes x R i n n _ k41 hi).mono ?_
  rintro e w1 ⟨rfl, rfl⟩
  have hcv := fun W => run_convert_bytes_nil (P := Tryz.prog) W 124 5 Tryz.underlying124 Tryz.underlying5 0 0 9 Tryz.underlying9
  go_wp2
  refine leaves_cons (f := 51) (args := #[.pointer (some ⟨x, 0, none⟩)]) (by simp) (by simp [go_sem]) ?_
  obtain ⟨u0, u1, u2⟩ := h.unlock (w2 := _) (Below.refl _ _)
  refine (unlock_deferred muLib ⟨x, 0, none⟩ .returning _ u0 u1).mono ?_
  rintro e u' w'' ⟨rfl, rfl, rfl⟩
  exact ⟨_, results_tmp2 rfl _ _ _, rfl, u2⟩

set_option maxRecDepth 100000 in
theorem entries_new (R i : Nat) (w : World) (hb : w.cell? ⟨R, i * 14 + 4, none⟩ = some (.slice none 0 0)) :
    Calls Tryz.prog 177 #[.pointer (some ⟨R, i * 14, none⟩)] w fun e w' => e = .returned (.slice none 0 0) ∧ w' = w := by
  go_enter Tryz.func177, Tryz.ntmps177
  go_wp2
  go_loopw [3, 11] (fun s3 s wr => s3 = .slice none 0 0 ∧ s = .int .i64 0 ∧ wr = w) (fun _ _ _ => 0)
  case atStart => exact ⟨rfl, rfl, rfl⟩
  case round =>
    obtain ⟨rfl, rfl, rfl⟩ := hrel
    go_wp2
    go_ret
    exact ⟨rfl, rfl⟩

set_option maxRecDepth 100000 in
theorem prgBuffer_new (x R n i : Nat) (w : World) (h : ClAt w x R n n) (hi : i < n) (hup : w.cell? ⟨R, i * 14, none⟩ = some (.bool true)) (hbuf : w.cell? ⟨R, i * 14 + 4, none⟩ = some (.slice none 0 0)) :
    Calls Tryz.prog 128 #[.pointer (some ⟨x, 0, none⟩), .int .i64 i] w fun e w' => e = .returned (.tuple #[.slice none 0 0, .int .i64 0]) ∧ Below w.heap.size w w' := by
  have k41 := h.l41
  have kup := h.lR hup
  have kbuf := h.lR hbuf
  go_enter_defers Tryz.func128, Tryz.ntmps128
  go_wp2_with (go_at_call 50; refine (lock_free muLib ⟨x, 0, none⟩ _ h.c0 h.f0).mono ?_; rintro e w' ⟨rfl, rfl⟩)
  refine (upOne_yes x R i n n true _ k41 hi kup).mono ?_
  rintro e w1 ⟨rfl, rfl⟩
  go_wp2_with fail
  refine (entries_new R i _ kbuf).mono ?_
  rintro e w1 ⟨rfl, rfl⟩
  go_wp2
  refine leaves_cons (f := 51) (args := #[.pointer (some ⟨x, 0, none⟩)]) (by simp) (by simp [go_sem]) ?_
  obtain ⟨u0, u1, u2⟩ := h.unlock (w2 := _) (Below.refl _ _)
  refine (unlock_deferred muLib ⟨x, 0, none⟩ .returning _ u0 u1).mono ?_
  rintro e u' w'' ⟨rfl, rfl, rfl⟩
  exact ⟨_, results_tmp2 rfl _ _ _, rfl, u2⟩

/-- Of a new replica: State. -/
theorem prgState_new {w : World} {x R n i : Nat} (h : PF w x R n) (hi : i < n) (hr : RulesAt w) (hx : 0 < x) :
    Calls Tryz.prog 20 #[.pointer (some ⟨x, 0, none⟩), .int .i64 i] w fun e w' => ∃ v, e = .returned (.tuple #[v, .int .i64 0]) ∧ w'.ownsRow w.heap.size 77 6 v 0 [] ∧ Below w.heap.size w w' := by
  obtain ⟨m, hm, hmx, c0, -, -, c3, -⟩ := h.cell hi
  refine (prgState_yes x R n n i m 0 noMap w h.cl hi c0 c3 hr hx hmx hm (fun s g hs => by cases hs) (by omega)).mono ?_
  rintro e w' ⟨v, out, rfl, ho, ht, hb⟩
  obtain rfl := tellOf_none ht.out
  exact ⟨v, rfl, ho, hb⟩

set_option maxRecDepth 100000 in
theorem prgRead_no (x R n cap : Nat) (r kind : Int) (key : ByteArray) (w : World) (h : ClAt w x R n cap) (hr : ¬ (0 ≤ r ∧ r < n)) :
    Calls Tryz.prog 45 #[.pointer (some ⟨x, 0, none⟩), .int .i64 r, .int .i64 kind, .string key] w fun e w' => e = .returned (.tuple #[.agg #[.int .i64 0, .slice none 0 0], .int .i64 5]) ∧ Below w.heap.size w w' := by
  go_enter Tryz.func45, Tryz.ntmps45
  go_wp2_with fail
  have h1 : ClAt (w.alloc (.cells #[.int .i64 0, .slice none 0 0] 98)) x R n cap := h.below ((Below.refl _ w).alloc (Nat.le_refl _) _) h.lt
  refine (prgState_no x R n cap r _ h1 hr).mono ?_
  rintro e w2 ⟨rfl, hb2⟩
  have hrb := (hb2.block w.heap.size (by simp)).trans (heap_alloc_new w (.cells #[.int .i64 0, .slice none 0 0] 98))
  have r0 : w2.cell? ⟨w.heap.size, 0, none⟩ = some (.int .i64 0) := blk_cell hrb 0
  have r1 : w2.cell? ⟨w.heap.size, 1, none⟩ = some (.slice none 0 0) := blk_cell hrb 1
  have rf0 : w2.frozen? ⟨w.heap.size, 0, none⟩ = false := blk_thaw hrb 0
  have rf1 : w2.frozen? ⟨w.heap.size, 1, none⟩ = false := blk_thaw hrb 1
  have hbw := (below_alloc (Below.refl _ w) (.cells #[.int .i64 0, .slice none 0 0] 98)).trans (hb2.mono (by simp))
  clear hb2 hrb h1
  go_wp2
  refine bodyPost_ret (v := .tuple #[.agg #[.int .i64 0, .slice none 0 0], .int .i64 5]) ?_ rfl ⟨rfl, (hbw.setCell (Nat.le_refl _) _).setCell (Nat.le_refl _) _⟩
  simp [results, Tryz.results45, go_sem, r0, r1]

set_option maxRecDepth 100000 in
set_option maxHeartbeats 1000000 in
theorem prgRead_new {w : World} {x R n i : Nat} (h : PF w x R n) (hi : i < n) (hr : RulesAt w) (hx : 0 < x) (kind : Int) (key : ByteArray) (hk : key.size ≤ 1099511627776) :
    Calls Tryz.prog 45 #[.pointer (some ⟨x, 0, none⟩), .int .i64 i, .int .i64 kind, .string key] w fun e w' => ∃ n v es, e = .returned (.tuple #[.agg #[.int .i64 n, v], .int .i64 (readCode [] kind)]) ∧ w'.ownsRow w.heap.size 9 1 v es.length (es.map Value.string) ∧ Hid (ReadSpec [] kind key n es) ∧ Below w.heap.size w w' := by
  have HP : Hid (PF w x R n) := h
  have HR : Hid (RulesAt w) := hr
  clear h hr
  generalize hcd : readCode [] kind = cd
  have HCD : Hid (readCode [] kind = cd) := hcd
  clear hcd
  go_enter Tryz.func45, Tryz.ntmps45
  go_wp2_with fail
  refine (prgState_new (HP.out.below ((Below.refl _ w).alloc (Nat.le_refl _) _)) hi (HR.out.below ((Below.refl _ w).alloc (Nat.le_refl _) _) HR.out.1) hx).mono ?_
  rintro e w1 ⟨v1, rfl, hown1, hb1⟩
  have hs1 := sliceOf_owns (l := []) rfl hown1
  obtain ⟨ad1, cp1, hv1⟩ := own_form hown1
  subst hv1
  have hbw1 := (below_alloc (Below.refl _ w) (.cells #[.int .i64 0, .slice none 0 0] 98)).trans (hb1.mono (by simp))
  have HC : Hid (∀ W, W = w1 → Calls Tryz.prog 96 #[.slice ad1 0 cp1, .int .i64 kind, .string key] W fun e w' => ∃ n v' es, e = .returned (.tuple #[.agg #[.int .i64 n, v'], .int .i64 cd]) ∧ w'.ownsRow w1.heap.size 9 1 v' es.length (es.map Value.string) ∧ Hid (ReadSpec [] kind key n es) ∧ Below w1.heap.size w1 w') := by
    rintro W rfl
    rw [← HCD.out]
    refine (latRead_any _ [] kind key W (HR.out.below hbw1 HR.out.1) hs1 (fun a ha => by cases ha) (by simp) hk).mono ?_
    rintro e w' ⟨n2, v2, es, rfl, ho, hsp, hb⟩
    exact ⟨n2, v2, es, rfl, ho, hsp.out.1, hb⟩
  clear hown1 hs1
  go_wp2_with fail
  refine (HC.out _ rfl).mono ?_
  rintro e w2 ⟨n2, v2, es, rfl, hown2, hsp, hb2⟩
  obtain ⟨ad2, cp2, hv2⟩ := own_form hown2
  subst hv2
  have hs1' := hb1.size
  have hlt1 : w.heap.size < w1.heap.size := by simp at hs1'; omega
  have hrb := (hb2.block w.heap.size hlt1).trans ((hb1.block w.heap.size (by simp)).trans (heap_alloc_new w (.cells #[.int .i64 0, .slice none 0 0] 98)))
  have r0 : w2.cell? ⟨w.heap.size, 0, none⟩ = some (.int .i64 0) := blk_cell hrb 0
  have r1 : w2.cell? ⟨w.heap.size, 1, none⟩ = some (.slice none 0 0) := blk_cell hrb 1
  have rf0 : w2.frozen? ⟨w.heap.size, 0, none⟩ = false := blk_thaw hrb 0
  have rf1 : w2.frozen? ⟨w.heap.size, 1, none⟩ = false := blk_thaw hrb 1
  have hbw : Below w.heap.size w w2 := hbw1.trans (hb2.mono hbw1.size)
  have HO : Hid (w2.ownsRow (w.heap.size + 1) 9 1 (.slice ad2 es.length cp2) es.length (es.map Value.string)) := owns_mono hown2 (by omega)
  clear HC hown2 hb2 hrb hb1 hs1'
  go_wp2
  refine bodyPost_ret (v := .tuple #[.agg #[.int .i64 n2, .slice ad2 es.length cp2], .int .i64 cd]) ?_ rfl ⟨n2, _, es, rfl, owns_mono (owns_put (owns_put HO.out (by omega)) (by omega)) (by omega), hsp, (hbw.setCell (Nat.le_refl _) _).setCell (Nat.le_refl _) _⟩
  simp [results, Tryz.results45, go_sem, r0, r1]
end Go.Proofs.YtahdlejgjcjeoaaGreatDoor
