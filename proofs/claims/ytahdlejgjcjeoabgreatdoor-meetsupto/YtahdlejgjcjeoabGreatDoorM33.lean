/- Walk of the Player's meets: a round. -/
import Derived.Test.YtahdlejgjcjeoabGreatDoorM12
import Derived.Test.YtahdlejgjcjeoabGreatDoorM32
import Derived.Test.YtahdlejgjcjeoabGreatDoorM06
namespace Go.Proofs.YtahdlejgjcjeoabGreatDoor
open Go.RowKit
theorem newOk_nums {n : Nat} {rm : Int} {es : List (Int × Int)} (h : newOk n rm es = true) : 1 ≤ n ∧ n ≤ 6 ∧ 1 ≤ rm ∧ rm ≤ 8 := by
  unfold newOk at h
  simp only [Bool.and_eq_true, decide_eq_true_eq] at h
  omega
theorem linkAll_beyond {n : Nat} : ∀ (l : List (Int × Int)) (f F : Nat → Nat → Bool), (∀ i j, n ≤ j → f i j = false) → linkAll n f l = some F → ∀ i j, n ≤ j → F i j = false
  | [], f, F, hf, h => by
    rw [linkAll] at h
    cases h
    exact hf
  | p :: l, f, F, hf, h => by
    rw [linkAll] at h
    split at h
    · rename_i he
      refine linkAll_beyond l _ F (fun i j hj => ?_) h
      unfold edgeOk at he
      simp only [Bool.and_eq_true, decide_eq_true_eq] at he
      unfold addE
      rw [hf i j hj]
      have h1 : ¬ j = p.2.toNat := by omega
      have h2 : ¬ j = p.1.toNat := by omega
      simp [h1, h2]
    · cases h
theorem clu0_rep {room n : Nat} (bp rr : Bool) (f : Nat → Nat → Bool) {r : Nat} (hr : r < n) : (clu0 room bp rr n f).rep r = rep0 n := by
  unfold Clu.rep clu0
  rw [List.getD_eq_getElem?_getD, List.getElem?_replicate, if_pos hr]
  rfl
theorem owns_block {w : World} {g n : Nat} {e : TypeId} {l : List Value} (h : w.heap[g]? = some (.cells l.toArray e (0, 0))) (hl : l.length = n) (hn : n ≤ maxLen) : w.ownsRow 0 e 1 (.slice (some ⟨g, 0, none⟩) n n) n l :=
  ⟨by omega, .inr ⟨g, n, l.toArray, rfl, Nat.zero_le _, h, Nat.le_refl _, hn, by simp [hl], by simp [← hl]⟩⟩
def plCol (c5 : Col) (s d h : Nat) : Col := fun q => if q < s then c5 q else if q = d then (4, 1) else if q = h then (4, 2) else (4, 0)
/-- The Player, made. -/
theorem pst_new {w w0 w1 w2 : World} {x R n d h P : Nat} {bp rr : Bool} {room : Int} {F : Nat → Nat → Bool} {ev : Value} {es : List (Int × Int)} (hr : RulesAt w) (hs : StepsAt w) (hb0 : Below w.heap.size w w0) (hQ : FillQ w0 w1 x R n n bp rr room F) (hroom : 1 ≤ room ∧ room ≤ 8) (hn : 1 ≤ n ∧ n ≤ 6) (hb2 : Below w1.heap.size w1 w2)
    (hd : w2.heap[d]? = some (.cells (Array.replicate n (Value.bool false)) 4 (0, 0))) (hh : w2.heap[h]? = some (.cells (Array.replicate n (Value.slice none 0 0)) 53 (0, 0)))
    (hP : w2.heap[P]? = some (.cells #[.pointer (some ⟨x, 0, none⟩), .int .i64 n, ev, .bool bp, .bool rr, .int .i64 room, .slice (some ⟨d, 0, none⟩) n n, .slice (some ⟨h, 0, none⟩) n n] 47 (0, 0)))
    (gd : w1.heap.size ≤ d) (gh : w1.heap.size ≤ h) (gP : w1.heap.size ≤ P) (dh : d ≠ h) (dP : P ≠ d) (hP' : P ≠ h) (hF : linkAll n noE es = some F) (hev : EdgesOf w ev es) (hel : es.length ≤ 1048576) :
    Pg (Snap.all w) w2 P x ⟨n, ev, room, bp, rr⟩ es [] 0 (clu0 room.toNat bp rr n F) := by
  obtain ⟨KP, c5, hp5, hf5⟩ := hQ.prgAt (by omega : 0 ≤ room) (fun _ => (0, 0)) 2
  have hb1 : Below w.heap.size w w1 := hb0.trans (hQ.bel.mono hb0.size)
  have hbw : Below w.heap.size w w2 := hb1.trans (hb2.mono hb1.size)
  have s1 := hb1.size
  have f12 : FrC (fun _ => False) c5 (plCol c5 w1.heap.size d h) w1 w2 := ⟨(Fr.refl _ w1).below hb2, fun q hq => if_pos hq⟩
  have cO : ∀ q, q < w.heap.size → plCol c5 w1.heap.size d h q = (0, 0) := fun q hq => by
    have h0 := hb0.size
    rw [f12.col q (by omega), (hf5 (fun _ => False)).col q (by omega)]
  have cd : plCol c5 w1.heap.size d h d = (4, 1) := by
    unfold plCol
    rw [if_neg (by omega), if_pos rfl]
  have ch : plCol c5 w1.heap.size d h h = (4, 2) := by
    unfold plCol
    rw [if_neg (by omega), if_neg (fun e => dh e.symm), if_pos rfl]
  have cP : plCol c5 w1.heap.size d h P = (4, 0) := by
    unfold plCol
    rw [if_neg (by omega), if_neg dP, if_neg hP']
  have hl : (clu0 room.toNat bp rr n F).reps.length = n := by simp [clu0]
  have hml : n ≤ maxLen := by unfold maxLen; omega
  have hst : PSt (Snap.all w) w2 (plCol c5 w1.heap.size d h) P x ⟨n, ev, room, bp, rr⟩ KP (clu0 room.toNat bp rr n F) (.slice (some ⟨d, 0, none⟩) n n) (.slice (some ⟨h, 0, none⟩) n n) (List.replicate n false) (List.replicate n (Value.slice none 0 0, [])) := {
    old := old_all hbw (fun q hq => by rw [cO q hq])
    tab := ⟨hr.block (hbw.block 1 hr.1) hbw.size, hs.block (hbw.block 0 hs.1) hbw.size, cO 1 hr.1, cO 0 hs.1⟩
    prg := hp5.kept f12 (fun _ => id)
    len := hl
    lD := by simp
    lH := by simp
    blk := hP
    cP := cP
    dn := by
      rw [List.map_replicate]
      exact ⟨owns_block (by rw [List.toArray_replicate]; exact hd) (by simp) hml, fun q hq => by cases hq; exact cd⟩
    hd := by
      rw [List.map_replicate]
      exact ⟨owns_block (by rw [List.toArray_replicate]; exact hh) (by simp) hml, fun q hq => by cases hq; exact ch⟩
    ls := fun e he => by
      rw [List.eq_of_mem_replicate he]
      exact ⟨⟨(4, 3), .inl rfl, held_nil _ _ _⟩, by simp⟩
    lo := fun i hi => by
      rw [List.getElem_replicate]
      exact Lo.nil _ }
  refine ⟨⟨_, ⟨_, _, KP, _, _, _, hst, rfl⟩, fun r hr => ?_⟩, clu0_ok bp rr F hn.1 hn.2 (by omega) (by omega), ⟨_, inv_new _ _ _ _ _⟩, fun i j hj => linkAll_beyond es noE F (fun _ _ _ => rfl) hF i j (by rw [hl] at hj; exact hj), fun i j => ?_, fun W c' D' L' hp => hev.below hp.bel, hel⟩
  · rw [hl] at hr
    rw [clu0_rep bp rr F hr, List.getD_eq_getElem?_getD, List.getElem?_replicate, if_pos hr]
    rfl
  · show F i j = _
    rw [linkAll_near es noE F hF i j]
    rfl
/-- The first Count: of 5. -/
def op5 : OpV := ⟨1, ⟨#[97]⟩, 0, ⟨#[]⟩, 5⟩
theorem fine5 : fineOp op5 = true := by decide
theorem count5 {room n : Nat} {bp rr : Bool} {F : Nat → Nat → Bool} (hn : 1 ≤ n) (_hrm : 1 ≤ room) :
    ((clu0 room bp rr n F).update (0 : Nat) op5).works 0 = 0 ∧ readErr ((clu0 room bp rr n F).update (0 : Nat) op5) 0 1 = 0 ∧ ∀ (m : Int) (es : List ByteArray), ReadSpec (tell (((clu0 room bp rr n F).update (0 : Nat) op5).rep 0).atoms) 1 ⟨#[97]⟩ m es → m = 5 := by
  have hl : (clu0 room bp rr n F).reps.length = n := by simp [clu0]
  have h0 := clu0_rep (room := room) bp rr F (by omega : 0 < n)
  have hat : opAtom ((clu0 room bp rr n F).rep 0).atoms 0 op5 = ⟨1, ⟨#[97]⟩, 0, 0, ⟨#[]⟩, 5⟩ := by rw [h0]; rfl
  have he : (clu0 room bp rr n F).opErr (0 : Nat) op5 = 0 := by
    rw [opErr_of (by omega) fine5, h0, show (rep0 n).atoms = [] from rfl]
    rfl
  have hu := update_rep (c := clu0 room bp rr n F) (r := 0) (o := op5) (by omega) he 0
  rw [if_pos rfl, hat] at hu
  have hlu : ((clu0 room bp rr n F).update (0 : Nat) op5).reps.length = n := by
    unfold Clu.update
    rw [if_pos he, setRep_len, hl]
  have hA : (((clu0 room bp rr n F).update (0 : Nat) op5).rep 0).atoms = [⟨1, ⟨#[97]⟩, 0, 0, ⟨#[]⟩, 5⟩] := by
    rw [hu, take_atoms, h0]
    rfl
  have hd : (((clu0 room bp rr n F).update (0 : Nat) op5).rep 0).down = false := by
    rw [update_down _ _ _ (by omega), h0]
    rfl
  have hw : ((clu0 room bp rr n F).update (0 : Nat) op5).works 0 = 0 := by
    have := works_rep (c := (clu0 room bp rr n F).update (0 : Nat) op5) (r := 0) (by omega)
    rw [hd] at this
    exact this
  have hm : ∀ a ∈ [(⟨1, ⟨#[97]⟩, 0, 0, ⟨#[]⟩, 5⟩ : At)], mayB a = true := fun a ha => by
    rw [List.mem_singleton.1 ha]
    decide
  refine ⟨hw, ?_, fun m es hsp => ?_⟩
  · unfold readErr
    rw [hw]
    have hmt : ∀ a ∈ tell (((clu0 room bp rr n F).update (0 : Nat) op5).rep 0).atoms, mayB a = true := fun a ha => by
      have := ((tell_told _).great a ha).1
      rw [hA] at this
      exact hm a this
    exact readCode_ok hmt (by decide) (by decide)
  · rw [hA] at hsp
    have h1 := (read_is hm (by decide) (by decide) hsp).1
    have h2 := val_sum (A := []) (T := []) (T' := tell [⟨1, ⟨#[97]⟩, 0, 0, ⟨#[]⟩, 5⟩]) (a := ⟨1, ⟨#[97]⟩, 0, 0, ⟨#[]⟩, 5⟩) ⟨List.Pairwise.nil, (fun x hx => by cases hx), (fun x hx => by cases hx)⟩ (tell_told _) hm (.inl rfl) (by decide)
    rw [h1]
    exact h2.trans (by decide)
section
variable {Z : Snap} {w w' : World} {P x N : Nat} {g : Cf} {c : Clu} {U : List At} {es : List (Int × Int)}
theorem Pg.lFirst (h : Pg Z w P x g es [] 0 c) :
    Calls Tryz.prog 55 #[.pointer (some ⟨P, 0, none⟩), .int .i64 0, .agg #[.int .i64 1, .string ⟨#[97]⟩, .int .i64 0, .string ⟨#[]⟩, .int .i64 5]] w fun e w' => e = .returned (.bool true) ∧ Hid (∃ U', Pg Z w' P x g es U' 20 (c.update (0 : Nat) op5) ∧ U'.length ≤ 1) := by
  obtain ⟨D, ⟨L, hp⟩, ht⟩ := h.pm
  have hg1 : 0 < g.n := by rw [← h.len]; exact h.ok.n1
  have hrc : 0 < c.reps.length := by rw [h.len]; exact hg1
  refine (hp.lUpdate h.ok ⟨by omega, by decide⟩ h.inv ht hg1 op5 fine5).mono fun e w' ⟨h1, L', h2⟩ => ?_
  obtain ⟨U', hU, -, hok⟩ := h.ok.update (0 : Nat) op5
  exact ⟨h1, U', ⟨⟨D, ⟨L', h2⟩, ht.same (len_update _ _ _) (update_down c 0 op5 hrc)⟩, hok.later (by omega), (h.inv.update h.ok (0 : Nat) op5).1, far_of h.far (near_update _ _ _) (len_update _ _ _), fun i j => by rw [near_update]; exact h.nr i j, h.ed⟩, hU⟩
theorem Pg.pRead5 {room n : Nat} {bp rr : Bool} {F : Nat → Nat → Bool} (hn : 1 ≤ n) (hrm : 1 ≤ room) (h : Pg Z w P x g es U 20 ((clu0 room bp rr n F).update (0 : Nat) op5)) (hU : U.length ≤ 1) :
    Calls Tryz.prog 56 #[.pointer (some ⟨x, 0, none⟩), .int .i64 0, .int .i64 1, .string ⟨#[97]⟩] w fun e w' => ∃ (ad : Option Addr) (m cp : Nat), e = .returned (.tuple #[.agg #[.int .i64 5, .slice ad m cp], .int .i64 0]) ∧ Below w.heap.size w w' := by
  obtain ⟨D, ⟨L, hp⟩, ht⟩ := h.pm
  obtain ⟨h1, h2, h3⟩ := count5 (room := room) (n := n) (bp := bp) (rr := rr) (F := F) hn hrm
  refine (hp.pRead h.ok ⟨by omega, by omega⟩ 0 1 ⟨#[97]⟩ (by decide)).mono fun e w' ⟨m, ad, cp, es', k1, k2, k3, k4⟩ => ?_
  have k3 := k3.out
  rw [if_pos h1] at k3
  have hm := h3 m es' k3
  subst hm
  rw [h2] at k1
  exact ⟨ad, _, cp, k1, k4⟩
end
theorem three_new (w : World) (o1 o2 o3 : Obj) : Below w.heap.size w (((w.alloc o1).alloc o2).alloc o3).drew ∧ (((w.alloc o1).alloc o2).alloc o3).drew.heap[w.heap.size]? = some o1 ∧ (((w.alloc o1).alloc o2).alloc o3).drew.heap[w.heap.size + 1]? = some o2 ∧ (((w.alloc o1).alloc o2).alloc o3).drew.heap[w.heap.size + 1 + 1]? = some o3 := by
  have h1 := two_blocks w o1 o2
  have h2 := two_blocks (w.alloc o1) o2 o3
  rw [show (w.alloc o1).heap.size = w.heap.size + 1 by simp] at h2
  exact ⟨(below_alloc (below_alloc (below_alloc (Below.refl _ w) _) _) _).drew, (Below.heap_alloc _ _ _ (by simp; omega)).trans h1.2, h2.2, h2.1⟩
end Go.Proofs.YtahdlejgjcjeoabGreatDoor

namespace Go.Proofs.YtahdlejgjcjeoabGreatDoor
open Go.RowKit
theorem cell_kept3 {w : World} {a : Addr} {v : Value} {o1 o2 o3 : Obj} (h : w.cell? a = some v) : (((w.alloc o1).alloc o2).alloc o3).drew.cell? a = some v := cell_kept h (below_alloc (below_alloc (below_alloc (Below.refl _ _) _) _) _).drew
theorem infoBoolP : (Tryz.prog.info? 4).map (fun i => (i.zero, i.size, i.bytes)) = some (some (.bool false), 1, 1) := by kernel_rfl
theorem infoListP : (Tryz.prog.info? 53).map (fun i => (i.zero, i.size, i.bytes)) = some (some (.slice none 0 0), 1, 24) := by kernel_rfl
theorem made_one (v : Value) (n : Nat) (hv : v.cells = #[v]) : madeCells (Value.cells v) (n * 1) = (List.replicate n v).toArray := by
  apply Array.ext_getElem?
  intro t
  rw [hv, Nat.mul_one]
  by_cases ht : t < n
  · simp [madeCells, ht, Nat.mod_one]
  · simp [madeCells, ht]
theorem make_boolsP (n : Nat) (h : n ≤ 6) (W : World) : (Instr.makeSlice 44 (.int .i64 (n : Int)) (.int .i64 (n : Int))).run Tryz.prog W = .ok (.slice (some ⟨W.heap.size, 0, none⟩) n n) (W.alloc (.cells (List.replicate n (Value.bool false)).toArray 4)) := by
  obtain ⟨i, hi, hz0, hz1, hz2⟩ := info_parts infoBoolP
  have hr := run_make (P := Tryz.prog) W 44 4 i _ Tryz.underlying44 hi hz0 .i64 .i64 n n (by omega) (Int.le_refl _) (by rw [hz2]; omega) (by omega)
  simp only [Int.toNat_natCast] at hr
  rw [hr, hz1, made_one _ _ rfl]
theorem make_lists (n : Nat) (h : n ≤ 6) (W : World) : (Instr.makeSlice 45 (.int .i64 (n : Int)) (.int .i64 (n : Int))).run Tryz.prog W = .ok (.slice (some ⟨W.heap.size, 0, none⟩) n n) (W.alloc (.cells (List.replicate n (Value.slice none 0 0)).toArray 53)) := by
  obtain ⟨i, hi, hz0, hz1, hz2⟩ := info_parts infoListP
  have hr := run_make (P := Tryz.prog) W 45 53 i _ Tryz.underlying45 hi hz0 .i64 .i64 n n (by omega) (Int.le_refl _) (by rw [hz2]; omega) (by omega)
  simp only [Int.toNat_natCast] at hr
  rw [hr, hz1, made_one _ _ rfl]
/-- What player gives. -/
def PlayerQ (w : World) (g : Cf) (es : List (Int × Int)) (e : Ending) (w' : World) : Prop := ∃ P x U c, e = .returned (.pointer (some ⟨P, 0, none⟩)) ∧ Pg (Snap.all w) w' P x g es U 20 c ∧ U.length ≤ 1
set_option maxRecDepth 100000 in
set_option maxHeartbeats 4000000 in
theorem player_any (v : Value) (es : List (Int × Int)) (n : Nat) (rm : Int) (bp rr : Bool) (w : World) (hr : RulesAt w) (hst : StepsAt w) (hv : EdgesOf w v es) (hlen : es.length ≤ 1048576) (hnew : newOk n rm es = true) :
    Calls Tryz.prog 19 #[.agg #[.int .i64 n, v, .bool bp, .bool rr, .int .i64 rm]] w (PlayerQ w ⟨n, v, rm, bp, rr⟩ es) := by
  have hnums := newOk_nums hnew
  have HN := Hid.mk hnums
  have HE := Hid.mk hv
  have HR := Hid.mk hr
  have HS := Hid.mk hst
  have hnn : ((n : Int)).toNat = n := Int.toNat_natCast n
  obtain ⟨ad, cap, rfl, -⟩ := hv
  have HNW : Hid (∀ W, Below w.heap.size w W → Calls Tryz.prog 18 #[.agg #[.int .i64 n, .slice ad es.length cap, .bool bp, .bool rr, .int .i64 rm]] W fun e w' => Below W.heap.size W w' ∧ ∃ x R F, e = .returned (.tuple #[.pointer (some ⟨x, 0, none⟩), .int .i64 0]) ∧ Hid (linkAll n noE es = some F ∧ FillQ W w' x R n n bp rr rm F)) := fun W hW => by
    refine (prgNew2 _ es n rm bp rr W (HE.out.below hW) hlen).mono fun e w' ⟨h1, h2⟩ => ⟨h1, ?_⟩
    rcases h2 with ⟨h2, -⟩ | ⟨-, x, R, h3, F, h4, h5⟩
    · rw [hnew] at h2; cases h2
    · rw [hnn] at h4 h5
      exact ⟨x, R, F, h3, h4, h5⟩
  have hn6 : n ≤ 6 := hnums.2.1
  have hmb := make_boolsP n hn6
  have hml := make_lists n hn6
  clear hr hst hnums hnew
  have hq0 := heap_alloc_new w (.cells #[.int .i64 n, .slice ad es.length cap, .bool bp, .bool rr, .int .i64 rm] 24)
  go_enter Tryz.func19, Tryz.ntmps19
  go_wp2_with fail
  refine (HNW.out _ (below_alloc (Below.refl _ _) _)).mono ?_
  rintro e w1 ⟨hb1, x, R, F, rfl, hQ⟩
  have hq1 := (hb1.block _ (blk_lt hq0)).trans hq0
  obtain ⟨c0, c1, c2, c3, c4⟩ : w1.cell? ⟨w.heap.size, 0, none⟩ = some (.int .i64 n) ∧ w1.cell? ⟨w.heap.size, 1, none⟩ = some (.slice ad es.length cap) ∧ w1.cell? ⟨w.heap.size, 2, none⟩ = some (.bool bp) ∧ w1.cell? ⟨w.heap.size, 3, none⟩ = some (.bool rr) ∧ w1.cell? ⟨w.heap.size, 4, none⟩ = some (.int .i64 rm) := ⟨blk_cell hq1 0, blk_cell hq1 1, blk_cell hq1 2, blk_cell hq1 3, blk_cell hq1 4⟩
  have hlt : w.heap.size < w1.heap.size := blk_lt hq1
  have n0 := World.new_ne _ _ c0
  have n1 := World.new_ne _ _ c1
  have n2 := World.new_ne _ _ c2
  have n3 := World.new_ne _ _ c3
  have n4 := World.new_ne _ _ c4
  have HB1 : Hid (Below w.heap.size w (w.alloc (.cells #[.int .i64 n, .slice ad es.length cap, .bool bp, .bool rr, .int .i64 rm] 24))) := below_alloc (Below.refl _ _) _
  go_wp2_with fail
  go_cut [5] from 9 (fun s5 wc => ∃ P : Nat, s5 = .pointer (some ⟨P, 0, none⟩) ∧ Hid (Pg (Snap.all w) wc P x ⟨n, .slice ad es.length cap, rm, bp, rr⟩ es [] 0 (clu0 rm.toNat bp rr n F)))
  case first =>
    go_region_held3 (fun w' => w'.cell? ⟨w.heap.size, 0, none⟩ = some (.int .i64 n) ∧ w'.cell? ⟨w.heap.size, 1, none⟩ = some (.slice ad es.length cap) ∧ w'.cell? ⟨w.heap.size, 2, none⟩ = some (.bool bp) ∧ w'.cell? ⟨w.heap.size, 3, none⟩ = some (.bool rr) ∧ w'.cell? ⟨w.heap.size, 4, none⟩ = some (.int .i64 rm)) (first | assumption | exact ⟨cell_kept3 c0, cell_kept3 c1, cell_kept3 c2, cell_kept3 c3, cell_kept3 c4⟩ | (simp [*, World.cell?_alloc_some]; done)) (fail)
    all_goals clear hmb hml HNW n0 n1 n2 n3 n4 c0 c1 c2 c3 c4
    all_goals go_wp2_with fail
    all_goals go_meet
    all_goals case rel =>
      obtain ⟨t1, t2, t3, t4⟩ := three_new w1 _ _ _
      first
        | exact ⟨_, rfl, pst_new HR.out HS.out HB1.out hQ.out.2 ⟨HN.out.2.2.1, HN.out.2.2.2⟩ ⟨HN.out.1, HN.out.2.1⟩ t1 t2 t3 t4 (by omega) (by omega) (by omega) (by omega) (by omega) (by omega) hQ.out.1 HE.out hlen⟩
        | exact ⟨_, rfl, pst_new HR.out HS.out HB1.out hQ.out.2 ⟨HN.out.2.2.1, HN.out.2.2.2⟩ ⟨HN.out.1, HN.out.2.1⟩ t1 t3 t2 t4 (by omega) (by omega) (by omega) (by omega) (by omega) (by omega) hQ.out.1 HE.out hlen⟩
  case rest =>
    obtain ⟨P, rfl, hg⟩ := hcut
    have HUP := Hid.mk hg.out.lFirst
    have HRD : Hid (∀ W U, Pg (Snap.all w) W P x ⟨n, .slice ad es.length cap, rm, bp, rr⟩ es U 20 ((clu0 rm.toNat bp rr n F).update (0 : Nat) op5) → U.length ≤ 1 → Calls Tryz.prog 56 #[.pointer (some ⟨x, 0, none⟩), .int .i64 0, .int .i64 1, .string ⟨#[97]⟩] W fun e w' => ∃ (ad : Option Addr) (m cp : Nat), e = .returned (.tuple #[.agg #[.int .i64 5, .slice ad m cp], .int .i64 0]) ∧ Below W.heap.size W w') := fun W U hW hU => Pg.pRead5 HN.out.1 (by have := HN.out; omega) hW hU
    clear hq0 hq1 c0 c1 c2 c3 c4 n0 n1 n2 n3 n4 hlt hmb hml HNW
    go_wp2_with fail
    refine HUP.out.mono ?_
    rintro e w3 ⟨rfl, hg3⟩
    obtain ⟨U, hU, hU1⟩ := hg3.out
    have HU := Hid.mk hU
    clear hg3 hU
    go_wp2_with fail
    refine (HRD.out _ _ HU.out hU1).mono ?_
    rintro e w4 ⟨ad', m', cp', rfl, hb4⟩
    have HF := Hid.mk ((HU.out.same hb4).same (below_alloc (Below.refl _ _) (.cells #[.int .i64 5, .slice ad' m' cp'] 129)))
    clear HRD HUP HU hg hQ
    go_wp2
    go_ret
    exact ⟨P, x, U, _, rfl, HF.out, hU1⟩
end Go.Proofs.YtahdlejgjcjeoabGreatDoor

namespace Go.Proofs.YtahdlejgjcjeoabGreatDoor
open Go.RowKit
/-- Where a play stands after i acts. -/
def PlayK (Z w : World) (P x : Nat) (g : Cf) (es : List (Int × Int)) (i : Nat) : Prop := ∃ U c, Pg (Snap.all Z) w P x g es U (20 * i + 20) c ∧ U.length ≤ i + 1
theorem PlayK.bel {Z w : World} {P x : Nat} {g : Cf} {es : List (Int × Int)} {i : Nat} (h : PlayK Z w P x g es i) : Below Z.heap.size Z w := by
  obtain ⟨U, c, h1, h2⟩ := h
  obtain ⟨D, ⟨L, hp⟩, -⟩ := h1.pm
  exact hp.bel
/-- What played gives. -/
def PlayedQ (w : World) (g : Cf) (es : List (Int × Int)) (n : Nat) (e : Ending) (w' : World) : Prop := ∃ P x, e = .returned (.pointer (some ⟨P, 0, none⟩)) ∧ PlayK w w' P x g es n
set_option maxRecDepth 100000 in
set_option maxHeartbeats 4000000 in
theorem played_any (v vs : Value) (es : List (Int × Int)) (l : List ActV) (n : Nat) (rm : Int) (bp rr : Bool) (w : World) (hr : RulesAt w) (hst : StepsAt w) (hv : EdgesOf w v es) (hlen : es.length ≤ 1048576) (hnew : newOk n rm es = true) (hs : ActsOf w vs l) (hll : l.length ≤ 87381) (hfit : ∀ a ∈ l, a.fit) :
    Calls Tryz.prog 10 #[.agg #[.int .i64 n, v, .bool bp, .bool rr, .int .i64 rm], vs] w fun e w' => ∃ Z : World, Below w.heap.size w Z ∧ PlayedQ Z ⟨n, v, rm, bp, rr⟩ es l.length e w' := by
  have HR := Hid.mk hr
  have HST := Hid.mk hst
  have HV := Hid.mk hv
  have HS := Hid.mk hs
  have HF := Hid.mk hfit
  have HNW := Hid.mk hnew
  obtain ⟨ad, cap, rfl, -⟩ := hv
  obtain ⟨adS, capS, rfl, -⟩ := hs
  obtain ⟨m, HLN⟩ : ∃ m, Hid (l.length = m) := ⟨_, rfl⟩
  rw [HLN.out] at hll HS ⊢
  clear hr hst hfit hnew
  have HB0 := Hid.mk (below_alloc (Below.refl _ w) (.cells #[.int .i64 n, .slice ad es.length cap, .bool bp, .bool rr, .int .i64 rm] 24))
  go_enter Tryz.func10, Tryz.ntmps10
  go_wp2_with fail
  refine (player_any _ es n rm bp rr _ (HR.out.below HB0.out HR.out.1) (HST.out.block (HB0.out.block 0 HST.out.1) HB0.out.size) (HV.out.below HB0.out) hlen HNW.out).mono ?_
  generalize w.alloc (.cells #[.int .i64 n, .slice ad es.length cap, .bool bp, .bool rr, .int .i64 rm] 24) = Z at *
  have HSZ := Hid.mk (HS.out.below HB0.out)
  rintro e w1 ⟨P, x, U, c, rfl, hg, hU⟩
  have HP : Hid (PlayK Z w1 P x ⟨n, .slice ad es.length cap, rm, bp, rr⟩ es 0) := ⟨U, c, hg, hU⟩
  clear hg hU HS HV HR HST HNW
  go_wp2
  go_loopw [6] (fun s wr => ∃ i : Nat, i ≤ m ∧ s = .int .i64 i ∧ Hid (PlayK Z wr P x ⟨n, .slice ad es.length cap, rm, bp, rr⟩ es i)) (fun s _ => m - (intOf s).toNat)
  case atStart => exact ⟨0, Nat.zero_le _, rfl, HP⟩
  case round =>
    clear HP
    obtain ⟨i, hi, rfl, hp⟩ := hrel
    by_cases hlt : i < m
    · have q1 : (i : Int) < (m : Int) := by omega
      have q2 : (0 : Int) ≤ (i : Int) := by omega
      have hil : i < l.length := by rw [HLN.out]; exact hlt
      obtain ⟨b, off, cp, hv0, hbl, e0, e1, e2, e3, e4, e5, e6, e7, e8, e9⟩ := (HSZ.out.below hp.out.bel).nth i hil
      cases hv0
      have ha := HF.out _ (List.getElem_mem hil)
      obtain ⟨U', c', hg, hU⟩ := hp.out
      generalize l[i] = a at *
      obtain ⟨ak, ar, aq, an, ⟨ty, ky, sd, el, on⟩, key⟩ := a
      have HA := Hid.mk (hg.lAct ⟨by omega, by omega⟩ ak ar aq an ty ky sd el on key ha)
      simp only at e0 e1 e2 e3 e4 e5 e6 e7 e8 e9
      clear ha hp hg
      go_wp2_with fail
      refine HA.out.mono ?_
      rintro e w2 ⟨rfl, c2, U2, h2, hU2⟩
      have HP2 : Hid (PlayK Z w2 P x ⟨n, .slice ad es.length cap, rm, bp, rr⟩ es (i + 1)) := ⟨U2, c2, h2.later (by omega), by omega⟩
      clear h2 HA e0 e1 e2 e3 e4 e5 e6 e7 e8 e9
      go_wp2
      exact ⟨⟨i + 1, by omega, by go_num, HP2⟩, by simp [intOf]; omega⟩
    · have q1 : ¬ (i : Int) < (m : Int) := by omega
      have him : i = m := by omega
      subst him
      go_wp2
      go_ret
      exact ⟨Z, HB0.out, P, x, rfl, hp.out⟩
end Go.Proofs.YtahdlejgjcjeoabGreatDoor

namespace Go.Proofs.YtahdlejgjcjeoabGreatDoor
open Go.RowKit
section
variable {Z : Snap} {w w' : World} {P x N : Nat} {g : Cf} {c : Clu} {U : List At} {es : List (Int × Int)}
theorem Pg.down (h : Pg Z w P x g es U N c) {r : Nat} (hr : r < g.n) : ∃ d cap, w.cell? ⟨P, 6, none⟩ = some (.slice (some ⟨d, 0, none⟩) g.n cap) ∧ w.cell? ⟨d, r, none⟩ = some (.bool (c.rep r).down) := by
  obtain ⟨D, ⟨L, hp⟩, ht⟩ := h.pm
  obtain ⟨d, cap, h1, h2, -⟩ := hp.downC hr
  rw [ht r (by rw [h.len]; exact hr)] at h2
  exact ⟨d, cap, h1, h2⟩
end
/-- Where the end of a play stands. -/
def EndK (Z w : World) (P x : Nat) (g : Cf) (es : List (Int × Int)) (k : Nat) : Prop := ∃ U c, Pg (Snap.all Z) w P x g es U (1747640 + 20 * k) c ∧ U.length ≤ 87382 + k
theorem PlayK.end {Z w : World} {P x i : Nat} {g : Cf} {es : List (Int × Int)} (h : PlayK Z w P x g es i) (hi : i ≤ 87381) : EndK Z w P x g es 0 := by
  obtain ⟨U, c, h1, h2⟩ := h
  exact ⟨U, c, h1.later (by omega), by omega⟩
section
variable {Z w : World} {P x k : Nat} {g : Cf} {es : List (Int × Int)}
end
end Go.Proofs.YtahdlejgjcjeoabGreatDoor

namespace Go.Proofs.YtahdlejgjcjeoabGreatDoor
open Go.RowKit
def Clu.dl (c : Clu) : Nat → Clu
  | 0 => c
  | k + 1 => (c.dl k).deliver 0
section
variable {Z : Snap} {w w' : World} {P x N : Nat} {g : Cf} {c : Clu} {U : List At} {es : List (Int × Int)}
theorem Pg.pSend (h : Pg Z w P x g es U N c) (hL : Lim U N) {r q : Nat} (hr : r < g.n) :
    Calls Tryz.prog 32 #[.pointer (some ⟨x, 0, none⟩), .int .i64 r, .int .i64 q] w fun e w' => e = .returned (.int .i64 (c.sendErr r q)) ∧ Pg Z w' P x g es U (N + 1) (c.send r q) := by
  obtain ⟨D, ⟨L, hp⟩, ht⟩ := h.pm
  have hrc : r < c.reps.length := by rw [h.len]; exact hr
  exact (hp.pSend h.ok hL h.inv r q).mono fun e w' ⟨h1, h2⟩ => ⟨h1, ⟨D, ⟨L, h2⟩, ht.same (len_send _ _ _) (send_down c r q hrc)⟩, (h.ok.send r q).later (by omega), (h.inv.send h.ok r q).1, far_send h.far r q, fun i j => by rw [near_send]; exact h.nr i j, h.ed⟩
theorem Pg.lNear (h : Pg Z w P x g es U N c) (a b : Nat) :
    Calls Tryz.prog 48 #[.pointer (some ⟨P, 0, none⟩), .int .i64 a, .int .i64 b] w fun e w' => e = .returned (.bool (c.near a b)) ∧ Pg Z w' P x g es U N c := by
  obtain ⟨D, ⟨L, hp⟩, ht⟩ := h.pm
  rw [h.nr]
  exact (hp.lNear (h.ed.1 _ _ _ _ hp) h.ed.2 a b).mono fun e w' ⟨h1, h2⟩ => ⟨h1, h.same h2⟩
/-- Where a round stands: all up to (r, q) have sent. -/
structure RM (Z : Snap) (P x : Nat) (g : Cf) (es : List (Int × Int)) (U : List At) (N : Nat) (c : Clu) (r q : Nat) (w : World) (c' : Clu) : Prop where
  pg : Pg Z w P x g es U (N + 3 * (6 * r + q)) c'
  sp : ∃ D, Spread c c' D ∧ ∀ a b, a < c.reps.length → b < c.reps.length → c.near a b = true → (a < r ∨ (a = r ∧ b < q)) → D a b
theorem RM.skip {r q : Nat} {c' : Clu} (h : RM Z P x g es U N c r q w c') (hn : c'.near r q = false) : RM Z P x g es U N c r (q + 1) w c' := by
  obtain ⟨D, hs, hD⟩ := h.sp
  refine ⟨h.pg.later (by omega), D, hs, fun a b ha hb hab hlt => ?_⟩
  by_cases e : a = r ∧ b = q
  · obtain ⟨rfl, rfl⟩ := e
    rw [hs.near, hab] at hn
    cases hn
  · exact hD a b ha hb hab (by omega)
theorem RM.row {r : Nat} {c' : Clu} (h : RM Z P x g es U N c r g.n w c') (h6 : g.n ≤ 6) (hl : c.reps.length = g.n) : RM Z P x g es U N c (r + 1) 0 w c' := by
  obtain ⟨D, hs, hD⟩ := h.sp
  exact ⟨h.pg.later (by omega), D, hs, fun a b ha hb hab hlt => hD a b ha hb hab (by omega)⟩
theorem RM.step {r q : Nat} {c' : Clu} (h : RM Z P x g es U N c r q w c') (hr : r < c.reps.length) (hq : q < c.reps.length) (hn : c'.near r q = true) (ho : Over c' r q) {w2 : World} (h2 : Pg Z w2 P x g es U (N + 3 * (6 * r + q) + 3) (c'.over r q)) : RM Z P x g es U N c r (q + 1) w2 (c'.over r q) := by
  obtain ⟨D, hs, hD⟩ := h.sp
  refine ⟨h2.later (by omega), _, hs.step hr hq (by rw [← hs.near]; exact hn) ho, fun a b ha hb hab hlt => ?_⟩
  by_cases e : a = r ∧ b = q
  · exact .inr e
  · exact .inl (hD a b ha hb hab (by omega))
theorem RM.same {r q : Nat} {c' : Clu} (h : RM Z P x g es U N c r q w c') {w2 : World} (h2 : Pg Z w2 P x g es U (N + 3 * (6 * r + q)) c') : RM Z P x g es U N c r q w2 c' := ⟨h2, h.sp⟩
theorem rm_start (h : Pg Z w P x g es U N c) (hq : Quiet c) : RM Z P x g es U N c 0 0 w c := ⟨h.later (by omega), _, Spread.refl hq h.inv, fun a b _ _ _ hlt => by omega⟩
theorem netErr0 {c : Clu} (h : 0 < c.net.length) : c.netErr 0 = 0 := by
  have hh : c.has 0 = true := by unfold Clu.has; exact decide_eq_true ⟨by omega, by omega⟩
  unfold Clu.netErr
  rw [hh]
  rfl
set_option maxRecDepth 100000 in
set_option maxHeartbeats 4000000 in
theorem Pg.lMeets (h : Pg Z w P x g es U N c) (hq : Quiet c) (hL : N + 120 ≤ 2097152 ∧ U.length + 1 ≤ 131072) :
    Calls Tryz.prog 15 #[.pointer (some ⟨P, 0, none⟩)] w fun e w' => e = .returned (.bool true) ∧ ∃ c' D, Pg Z w' P x g es U (N + 108) c' ∧ Spread c c' D ∧ ∀ a b, a < c.reps.length → b < c.reps.length → c.near a b = true → D a b := by
  have hn6 : g.n ≤ 6 := by rw [← h.len]; exact h.ok.n6
  have HLN : Hid (c.reps.length = g.n) := h.len
  have HM := Hid.mk (rm_start h hq)
  have HLM := Hid.mk hL
  clear h hq hL
  go_enter Tryz.func15, Tryz.ntmps15
  go_wp2
  go_loopw [3] (fun s wr => ∃ (r : Nat) (c' : Clu), r ≤ g.n ∧ s = .int .i64 r ∧ Hid (RM Z P x g es U N c r 0 wr c')) (fun s _ => g.n - (intOf s).toNat)
  case atStart => exact ⟨0, c, Nat.zero_le _, rfl, HM⟩
  case round =>
    clear HM
    obtain ⟨r, c', hr, rfl, hm⟩ := hrel
    have c1 := hm.out.pg.cells.2
    by_cases hrl : r < g.n
    · have q1 : (r : Int) < (g.n : Int) := by omega
      go_wp2
      go_loopw [4] (fun s wr => ∃ (q : Nat) (c' : Clu), q ≤ g.n ∧ s = .int .i64 q ∧ Hid (RM Z P x g es U N c r q wr c')) (fun s _ => g.n - (intOf s).toNat)
      case atStart => exact ⟨0, c', Nat.zero_le _, rfl, hm⟩
      case round =>
        clear hm c1
        obtain ⟨q, c', hq, rfl, hm⟩ := hrel
        have c1 := hm.out.pg.cells.2
        by_cases hql : q < g.n
        · have q2 : (q : Int) < (g.n : Int) := by omega
          have HNR := Hid.mk (hm.out.pg.lNear r q)
          have HLK : Hid (Lim U (N + 3 * (6 * r + q) + 3)) := ⟨by have := HLM.out.1; omega, by have := HLM.out.2; omega⟩
          have HL0 : Hid (Lim U (N + 3 * (6 * r + q))) := ⟨by have := HLM.out.1; omega, by have := HLM.out.2; omega⟩
          cases hnb : c'.near r q with
          | false =>
            rw [hnb] at HNR
            go_wp2_with fail
            refine HNR.out.mono ?_
            rintro e w2 ⟨rfl, h2⟩
            have HM2 := Hid.mk ((hm.out.same h2).skip hnb)
            clear hm h2 HNR c1
            go_wp2
            exact ⟨⟨q + 1, _, by omega, by go_num, HM2⟩, by simp [intOf]; omega⟩
          | true =>
            rw [hnb] at HNR
            have hrc : r < c.reps.length := by rw [HLN.out]; exact hrl
            have hqc : q < c.reps.length := by rw [HLN.out]; exact hql
            have HOV : Hid (Over c' r q) := by
              obtain ⟨D, hs, -⟩ := hm.out.sp
              exact over_is hm.out.pg.inv hm.out.pg.ok hs.quiet (by rw [hs.len]; exact hrc) (by rw [hs.len]; exact hqc) hnb
            go_wp2_with fail
            refine HNR.out.mono ?_
            rintro e w2 ⟨rfl, h2⟩
            have HSD := Hid.mk (h2.pSend HL0.out (q := q) hrl)
            rw [HOV.out.err] at HSD
            have c0 := h2.cells.1
            clear h2 HNR c1
            go_wp2_with fail
            refine HSD.out.mono ?_
            rintro e w3 ⟨rfl, h3⟩
            have HP3 : Hid (Pg Z w3 P x g es U (N + 3 * (6 * r + q) + 1 + 0) ((c'.send r q).dl 0)) := h3
            have HNL : Hid (∀ k, k ≤ 2 → ((c'.send r q).dl k).net.length = if k < 2 then 1 else 0) := fun k hk => by
              rcases (by omega : k = 0 ∨ k = 1 ∨ k = 2) with rfl | rfl | rfl
              · exact HOV.out.n1
              · exact HOV.out.n2
              · have := HOV.out.quiet.net
                show ((c'.over r q).net).length = 0
                rw [this]
                rfl
            clear h3 HSD c0
            have HCS : Hid ((c'.send r q).dl 2 = c'.over r q) := rfl
            generalize (c'.send r q) = cs at *
            go_wp2
            go_loopw [6, 7] (fun s6 s7 wr => ∃ k : Nat, k ≤ 2 ∧ s6 = .int .i64 0 ∧ s7 = .int .i64 k ∧ Hid (Pg Z wr P x g es U (N + 3 * (6 * r + q) + 1 + k) (cs.dl k))) (fun _ s7 _ => 2 - (intOf s7).toNat)
            case atStart => exact ⟨0, by omega, rfl, rfl, HP3⟩
            case round =>
              clear HP3
              obtain ⟨k, hk, rfl, rfl, hp⟩ := hrel
              have c0 := hp.out.cells.1
              have HF := Hid.mk hp.out.pFlight
              have q3 : (k : Int) < 10 := by omega
              rw [HNL.out k hk] at HF
              by_cases hk2 : k < 2
              · rw [if_pos hk2] at HF
                go_wp2_with fail
                refine HF.out.mono ?_
                rintro e w4 ⟨rfl, h4⟩
                have HD := Hid.mk (h4.pDeliver ⟨by have := HLK.out.1; omega, HLK.out.2⟩ 0)
                rw [netErr0 (by rw [HNL.out k hk, if_pos hk2]; omega)] at HD
                have c0' := h4.cells.1
                clear HF h4 hp c0
                go_wp2_with fail
                refine HD.out.mono ?_
                rintro e w5 ⟨rfl, h5⟩
                have H5 : Hid (Pg Z w5 P x g es U (N + 3 * (6 * r + q) + 1 + (k + 1)) (cs.dl (k + 1))) := h5
                clear HD h5 c0'
                go_wp2
                exact ⟨⟨k + 1, by omega, rfl, by go_num, H5⟩, by simp [intOf]; omega⟩
              · have hke : k = 2 := by omega
                subst hke
                rw [if_neg hk2] at HF
                go_wp2_with fail
                refine HF.out.mono ?_
                rintro e w4 ⟨rfl, h4⟩
                have c0' := h4.cells.1
                have HF2 := Hid.mk h4.pFlight
                rw [HNL.out 2 hk, if_neg hk2] at HF2
                clear HF h4 hp c0
                go_wp2_with fail
                refine HF2.out.mono ?_
                rintro e w5 ⟨rfl, h5⟩
                have HM3 := Hid.mk (hm.out.step hrc hqc hnb HOV.out (by rw [HCS.out] at h5; exact h5))
                clear HF2 h5 c0' hm
                go_wp2
                exact ⟨⟨q + 1, _, by omega, by go_num, HM3⟩, by simp [intOf]; omega⟩
        · have hqn : q = g.n := by omega
          subst hqn
          have q2 : ¬ (g.n : Int) < (g.n : Int) := by omega
          have HM2 := Hid.mk (hm.out.row hn6 HLN.out)
          clear hm
          go_wp2
          exact ⟨⟨r + 1, _, by omega, by go_num, HM2⟩, by simp [intOf]; omega⟩
    · have hrn : r = g.n := by omega
      subst hrn
      have q1 : ¬ (g.n : Int) < (g.n : Int) := by omega
      obtain ⟨D, hs, hD⟩ := hm.out.sp
      have HE := Hid.mk (hm.out.pg.later (show N + 3 * (6 * g.n + 0) ≤ N + 108 by omega))
      have HS := Hid.mk (And.intro hs (fun a b ha hb hab => hD a b ha hb hab (.inl (by rw [← HLN.out]; exact ha))))
      clear hm hs hD
      go_wp2
      go_ret
      exact ⟨rfl, c', HE.out, D, HS.out.1, HS.out.2⟩
end
end Go.Proofs.YtahdlejgjcjeoabGreatDoor
