/- The plain side of P16: BP and RR change nothing but what is sent. -/
import Derived.Test.YtahdlejgjcjeoabGreatDoorS30
import Derived.Test.YtahdlejgjcjeoabGreatDoorS06
import Derived.Test.YtahdlejgjcjeoabGreatDoorS27
namespace Go.Proofs.YtahdlejgjcjeoabGreatDoor
open Go.RowKit
theorem cell_kept3 {w : World} {a : Addr} {v : Value} {o1 o2 o3 : Obj} (h : w.cell? a = some v) : (((w.alloc o1).alloc o2).alloc o3).drew.cell? a = some v := cell_kept h (below_alloc (below_alloc (below_alloc (Below.refl _ _) _) _) _).drew
theorem infoBoolP : (Tryz.prog.info? 4).map (fun i => (i.zero, i.size, i.bytes)) = some (some (.bool false), 1, 1) := by kernel_rfl
theorem infoListP : (Tryz.prog.info? 53).map (fun i => (i.zero, i.size, i.bytes)) = some (some (.slice none 0 0), 1, 24) := by kernel_rfl
theorem made_one (v : Value) (n : Nat) (hv : v.cells = #[v]) : madeCells (Value.cells v) (n * 1) = (List.replicate n v).toArray := by
  apply Array.ext_getElem?
  intro t
  rw [hv, Nat.mul_one]
  by_cases ht : t < n
  · simp [madeCells, ht, Nat.mod_one]
  · simp [madeCells, ht]
theorem make_boolsP (n : Nat) (h : n ≤ 6) (W : World) : (Instr.makeSlice 44 (.int .i64 (n : Int)) (.int .i64 (n : Int))).run Tryz.prog W = .ok (.slice (some ⟨W.heap.size, 0, none⟩) n n) (W.alloc (.cells (List.replicate n (Value.bool false)).toArray 4)) := by
  obtain ⟨i, hi, hz0, hz1, hz2⟩ := info_parts infoBoolP
  have hr := run_make (P := Tryz.prog) W 44 4 i _ Tryz.underlying44 hi hz0 .i64 .i64 n n (by omega) (Int.le_refl _) (by rw [hz2]; omega) (by omega)
  simp only [Int.toNat_natCast] at hr
  rw [hr, hz1, made_one _ _ rfl]
theorem make_lists (n : Nat) (h : n ≤ 6) (W : World) : (Instr.makeSlice 45 (.int .i64 (n : Int)) (.int .i64 (n : Int))).run Tryz.prog W = .ok (.slice (some ⟨W.heap.size, 0, none⟩) n n) (W.alloc (.cells (List.replicate n (Value.slice none 0 0)).toArray 53)) := by
  obtain ⟨i, hi, hz0, hz1, hz2⟩ := info_parts infoListP
  have hr := run_make (P := Tryz.prog) W 45 53 i _ Tryz.underlying45 hi hz0 .i64 .i64 n n (by omega) (Int.le_refl _) (by rw [hz2]; omega) (by omega)
  simp only [Int.toNat_natCast] at hr
  rw [hr, hz1, made_one _ _ rfl]
/-- What player gives. -/
def PlayerQ (w : World) (g : Cf) (es : List (Int × Int)) (e : Ending) (w' : World) : Prop := ∃ P x U c, e = .returned (.pointer (some ⟨P, 0, none⟩)) ∧ Pg (Snap.all w) w' P x g es U 20 c ∧ U.length ≤ 1
set_option maxRecDepth 100000 in
set_option maxHeartbeats 4000000 in
theorem player_any (v : Value) (es : List (Int × Int)) (n : Nat) (rm : Int) (bp rr : Bool) (w : World) (hr : RulesAt w) (hst : StepsAt w) (hv : EdgesOf w v es) (hlen : es.length ≤ 1048576) (hnew : newOk n rm es = true) :
    Calls Tryz.prog 19 #[.agg #[.int .i64 n, v, .bool bp, .bool rr, .int .i64 rm]] w (PlayerQ w ⟨n, v, rm, bp, rr⟩ es) := by
  have hnums := newOk_nums hnew
  have HN := Hid.mk hnums
  have HE := Hid.mk hv
  have HR := Hid.mk hr
  have HS := Hid.mk hst
  have hnn : ((n : Int)).toNat = n := Int.toNat_natCast n
  obtain ⟨ad, cap, rfl, -⟩ := hv
  have HNW : Hid (∀ W, Below w.heap.size w W → Calls Tryz.prog 18 #[.agg #[.int .i64 n, .slice ad es.length cap, .bool bp, .bool rr, .int .i64 rm]] W fun e w' => Below W.heap.size W w' ∧ ∃ x R F, e = .returned (.tuple #[.pointer (some ⟨x, 0, none⟩), .int .i64 0]) ∧ Hid (linkAll n noE es = some F ∧ FillQ W w' x R n n bp rr rm F)) := fun W hW => by
    refine (prgNew2 _ es n rm bp rr W (HE.out.below hW) hlen).mono fun e w' ⟨h1, h2⟩ => ⟨h1, ?_⟩
    rcases h2 with ⟨h2, -⟩ | ⟨-, x, R, h3, F, h4, h5⟩
    · rw [hnew] at h2; cases h2
    · rw [hnn] at h4 h5
      exact ⟨x, R, F, h3, h4, h5⟩
  have hn6 : n ≤ 6 := hnums.2.1
  have hmb := make_boolsP n hn6
  have hml := make_lists n hn6
  clear hr hst hnums hnew
  have hq0 := heap_alloc_new w (.cells #[.int .i64 n, .slice ad es.length cap, .bool bp, .bool rr, .int .i64 rm] 24)
  go_enter Tryz.func19, Tryz.ntmps19
  go_wp2_with fail
  refine (HNW.out _ (below_alloc (Below.refl _ _) _)).mono ?_
  rintro e w1 ⟨hb1, x, R, F, rfl, hQ⟩
  have hq1 := (hb1.block _ (blk_lt hq0)).trans hq0
  obtain ⟨c0, c1, c2, c3, c4⟩ : w1.cell? ⟨w.heap.size, 0, none⟩ = some (.int .i64 n) ∧ w1.cell? ⟨w.heap.size, 1, none⟩ = some (.slice ad es.length cap) ∧ w1.cell? ⟨w.heap.size, 2, none⟩ = some (.bool bp) ∧ w1.cell? ⟨w.heap.size, 3, none⟩ = some (.bool rr) ∧ w1.cell? ⟨w.heap.size, 4, none⟩ = some (.int .i64 rm) := ⟨blk_cell hq1 0, blk_cell hq1 1, blk_cell hq1 2, blk_cell hq1 3, blk_cell hq1 4⟩
  have hlt : w.heap.size < w1.heap.size := blk_lt hq1
  have n0 := World.new_ne _ _ c0
  have n1 := World.new_ne _ _ c1
  have n2 := World.new_ne _ _ c2
  have n3 := World.new_ne _ _ c3
  have n4 := World.new_ne _ _ c4
  have HB1 : Hid (Below w.heap.size w (w.alloc (.cells #[.int .i64 n, .slice ad es.length cap, .bool bp, .bool rr, .int .i64 rm] 24))) := below_alloc (Below.refl _ _) _
  go_wp2_with fail
  go_cut [5] from 9 (fun s5 wc => ∃ P : Nat, s5 = .pointer (some ⟨P, 0, none⟩) ∧ Hid (Pg (Snap.all w) wc P x ⟨n, .slice ad es.length cap, rm, bp, rr⟩ es [] 0 (clu0 rm.toNat bp rr n F)))
  case first =>
    go_region_held3 (fun w' => w'.cell? ⟨w.heap.size, 0, none⟩ = some (.int .i64 n) ∧ w'.cell? ⟨w.heap.size, 1, none⟩ = some (.slice ad es.length cap) ∧ w'.cell? ⟨w.heap.size, 2, none⟩ = some (.bool bp) ∧ w'.cell? ⟨w.heap.size, 3, none⟩ = some (.bool rr) ∧ w'.cell? ⟨w.heap.size, 4, none⟩ = some (.int .i64 rm)) (first | assumption | exact ⟨cell_kept3 c0, cell_kept3 c1, cell_kept3 c2, cell_kept3 c3, cell_kept3 c4⟩ | (simp [*, World.cell?_alloc_some]; done)) (fail)
    all_goals clear hmb hml HNW n0 n1 n2 n3 n4 c0 c1 c2 c3 c4
    all_goals go_wp2_with fail
    all_goals go_meet
    all_goals case rel =>
      obtain ⟨t1, t2, t3, t4⟩ := three_new w1 _ _ _
      first
        | exact ⟨_, rfl, pst_new HR.out HS.out HB1.out hQ.out.2 ⟨HN.out.2.2.1, HN.out.2.2.2⟩ ⟨HN.out.1, HN.out.2.1⟩ t1 t2 t3 t4 (by omega) (by omega) (by omega) (by omega) (by omega) (by omega) hQ.out.1 HE.out hlen⟩
        | exact ⟨_, rfl, pst_new HR.out HS.out HB1.out hQ.out.2 ⟨HN.out.2.2.1, HN.out.2.2.2⟩ ⟨HN.out.1, HN.out.2.1⟩ t1 t3 t2 t4 (by omega) (by omega) (by omega) (by omega) (by omega) (by omega) hQ.out.1 HE.out hlen⟩
  case rest =>
    obtain ⟨P, rfl, hg⟩ := hcut
    have HUP := Hid.mk hg.out.lFirst
    have HRD : Hid (∀ W U, Pg (Snap.all w) W P x ⟨n, .slice ad es.length cap, rm, bp, rr⟩ es U 20 ((clu0 rm.toNat bp rr n F).update (0 : Nat) op5) → U.length ≤ 1 → Calls Tryz.prog 56 #[.pointer (some ⟨x, 0, none⟩), .int .i64 0, .int .i64 1, .string ⟨#[97]⟩] W fun e w' => ∃ (ad : Option Addr) (m cp : Nat), e = .returned (.tuple #[.agg #[.int .i64 5, .slice ad m cp], .int .i64 0]) ∧ Below W.heap.size W w') := fun W U hW hU => Pg.pRead5 HN.out.1 (by have := HN.out; omega) hW hU
    clear hq0 hq1 c0 c1 c2 c3 c4 n0 n1 n2 n3 n4 hlt hmb hml HNW
    go_wp2_with fail
    refine HUP.out.mono ?_
    rintro e w3 ⟨rfl, hg3⟩
    obtain ⟨U, hU, hU1⟩ := hg3.out
    have HU := Hid.mk hU
    clear hg3 hU
    go_wp2_with fail
    refine (HRD.out _ _ HU.out hU1).mono ?_
    rintro e w4 ⟨ad', m', cp', rfl, hb4⟩
    have HF := Hid.mk ((HU.out.same hb4).same (below_alloc (Below.refl _ _) (.cells #[.int .i64 5, .slice ad' m' cp'] 129)))
    clear HRD HUP HU hg hQ
    go_wp2
    go_ret
    exact ⟨P, x, U, _, rfl, HF.out, hU1⟩
end Go.Proofs.YtahdlejgjcjeoabGreatDoor

namespace Go.Proofs.YtahdlejgjcjeoabGreatDoor
open Go.RowKit
end Go.Proofs.YtahdlejgjcjeoabGreatDoor

namespace Go.Proofs.YtahdlejgjcjeoabGreatDoor
open Go.RowKit
section
variable {Z : Snap} {w w' : World} {P x N : Nat} {g : Cf} {c : Clu} {U : List At} {es : List (Int × Int)}
end
section
variable {Z w : World} {P x k : Nat} {g : Cf} {es : List (Int × Int)}
end
end Go.Proofs.YtahdlejgjcjeoabGreatDoor

namespace Go.Proofs.YtahdlejgjcjeoabGreatDoor
open Go.RowKit
section
variable {Z : Snap} {w w' : World} {P x N : Nat} {g : Cf} {c : Clu} {U : List At} {es : List (Int × Int)}
end
end Go.Proofs.YtahdlejgjcjeoabGreatDoor

namespace Go.Proofs.YtahdlejgjcjeoabGreatDoor
open Go.RowKit
section
variable {Z : Snap} {w w' : World} {P x N r : Nat} {g : Cf} {c : Clu} {U : List At} {es : List (Int × Int)}
end
end Go.Proofs.YtahdlejgjcjeoabGreatDoor

namespace Go.Proofs.YtahdlejgjcjeoabGreatDoor

/-- A list beside another one, one by one. -/
def Pairs {α β : Type} (R : α → β → Prop) : List α → List β → Prop
  | [], [] => True
  | a :: l, b :: m => R a b ∧ Pairs R l m
  | [], _ :: _ => False
  | _ :: _, [] => False
theorem Pairs.nil {α β : Type} {R : α → β → Prop} : Pairs R [] [] := trivial
theorem Pairs.cons {α β : Type} {R : α → β → Prop} {a : α} {b : β} {l : List α} {m : List β} (h : R a b) (k : Pairs R l m) : Pairs R (a :: l) (b :: m) := ⟨h, k⟩
theorem Pairs.len {α β : Type} {R : α → β → Prop} : ∀ {l : List α} {m : List β}, Pairs R l m → l.length = m.length
  | [], [], _ => rfl
  | _ :: _, _ :: _, h => congrArg (· + 1) (Pairs.len h.2)
  | [], _ :: _, h => h.elim
  | _ :: _, [], h => h.elim
theorem Pairs.app {α β : Type} {R : α → β → Prop} {l' : List α} {m' : List β} (k : Pairs R l' m') : ∀ {l : List α} {m : List β}, Pairs R l m → Pairs R (l ++ l') (m ++ m')
  | [], [], _ => k
  | _ :: _, _ :: _, h => ⟨h.1, Pairs.app k h.2⟩
  | [], _ :: _, h => h.elim
  | _ :: _, [], h => h.elim
theorem Pairs.get {α β : Type} {R : α → β → Prop} : ∀ {l : List α} {m : List β}, Pairs R l m → ∀ (k : Nat) (a : α) (b : β), k < l.length → R (l.getD k a) (m.getD k b)
  | [], [], _, k, _, _, hk => absurd hk (Nat.not_lt_zero k)
  | _ :: _, _ :: _, h, 0, _, _, _ => h.1
  | _ :: _, _ :: _, h, k + 1, a, b, hk => by simpa using Pairs.get h.2 k a b (by simpa using hk)
  | [], _ :: _, h, _, _, _, _ => h.elim
  | _ :: _, [], h, _, _, _, _ => h.elim
theorem Pairs.erase {α β : Type} {R : α → β → Prop} : ∀ {l : List α} {m : List β}, Pairs R l m → ∀ k, Pairs R (l.eraseIdx k) (m.eraseIdx k)
  | [], [], _, _ => trivial
  | _ :: _, _ :: _, h, 0 => h.2
  | _ :: _, _ :: _, h, k + 1 => ⟨h.1, Pairs.erase h.2 k⟩
  | [], _ :: _, h, _ => h.elim
  | _ :: _, [], h, _ => h.elim
theorem Pairs.filter {α β : Type} {R : α → β → Prop} {p : α → Bool} {q : β → Bool} (hpq : ∀ a b, R a b → q b = p a) : ∀ {l : List α} {m : List β}, Pairs R l m → Pairs R (l.filter p) (m.filter q)
  | [], [], _ => trivial
  | a :: l, b :: m, h => by
    rw [List.filter_cons, List.filter_cons, hpq a b h.1]
    cases p a
    · exact Pairs.filter hpq h.2
    · exact ⟨h.1, Pairs.filter hpq h.2⟩
  | [], _ :: _, h => h.elim
  | _ :: _, [], h => h.elim
theorem Pairs.mem {α β : Type} {R : α → β → Prop} {b : β} : ∀ {l : List α} {m : List β}, Pairs R l m → b ∈ m → ∃ a ∈ l, R a b
  | [], [], _, hb => by cases hb
  | a :: l, b' :: m, h, hb => by
    rcases List.mem_cons.1 hb with rfl | hb
    · exact ⟨a, by simp, h.1⟩
    · obtain ⟨a', ha, hr⟩ := Pairs.mem h.2 hb
      exact ⟨a', by simp [ha], hr⟩
  | [], _ :: _, h, _ => h.elim
  | _ :: _, [], h, _ => h.elim

def EntS (e0 e : Ent) : Prop := e.num = e0.num ∧ e.org = e0.org ∧ Lo e.d e0.d
def FrmS (f0 f : Frm) : Prop := f.kind = f0.kind ∧ f.src = f0.src ∧ f.dst = f0.dst ∧ f.upto = f0.upto ∧ Lo f.d f0.d
/-- A replica with the savings, and the same one without them. -/
structure RepS (p0 p : Rep) : Prop where
  down : p.down = p0.down
  num : p.num = p0.num
  base : p.base = p0.base
  acked : p.acked = p0.acked
  frames : p.frames = p0.frames
  weight : p.weight ≤ p0.weight
  last : lastNum p.log = lastNum p0.log
  buf : Pairs EntS p0.buf p.buf
structure Sim (S : Hst) (c0 c : Clu) : Prop where
  i0 : Inv S c0
  i1 : Inv S c
  room : c.room = c0.room
  near : c.near = c0.near
  bp : c0.bp = false
  rr : c0.rr = false
  len : c.reps.length = c0.reps.length
  reps : ∀ r, r < c0.reps.length → RepS (c0.rep r) (c.rep r)
  net : Pairs FrmS c0.net c.net

section
variable {S : Hst} {c0 c : Clu} {U U' : List At} {N N' : Nat}
theorem Sim.top (h : Sim S c0 c) {r : Nat} (hr : r < c0.reps.length) : c.top S r = c0.top S r := by
  unfold Clu.top Clu.last
  rw [(h.reps r hr).last]
theorem Sim.atoms (h : Sim S c0 c) {r : Nat} (hr : r < c0.reps.length) (hu : (c0.rep r).down = false) : Lo (c0.rep r).atoms (c.rep r).atoms ∧ Lo (c.rep r).atoms (c0.rep r).atoms := by
  have h0 := (h.i0.reps r hr).up hu
  have h1 := (h.i1.reps r (by rw [h.len]; exact hr)).up (by rw [(h.reps r hr).down]; exact hu)
  rw [h.top hr] at h1
  exact ⟨h0.1.trans h1.2, h1.1.trans h0.2⟩
theorem Sim.there (h : Sim S c0 c) (r : Int) : c.there r = c0.there r := by unfold Clu.there; rw [h.len]
theorem there_of {c : Clu} {r : Int} (h : ¬ c.there r = false) : r.toNat < c.reps.length := (there_lt (by simpa using h)).2
theorem Sim.works (h : Sim S c0 c) (r : Int) : c.works r = c0.works r := by
  unfold Clu.works
  rw [h.there]
  split
  · rfl
  · rename_i ht
    rw [(h.reps _ (there_of ht)).down]
theorem Sim.opAtom (h : Sim S c0 c) {r : Int} (hw : c0.works r = 0) (o : OpV) : opAtom (c.rep r.toNat).atoms r.toNat o = opAtom (c0.rep r.toNat).atoms r.toNat o := by
  obtain ⟨⟨_, hr⟩, hd⟩ := works_zero hw
  exact opAtom_eq (h.atoms hr hd).2 (h.atoms hr hd).1 _ _
theorem Sim.opErr (h : Sim S c0 c) (r : Int) (o : OpV) : c.opErr r o = c0.opErr r o := by
  unfold Clu.opErr
  rw [h.works]
  split
  · rfl
  · rename_i hw
    rw [h.opAtom (by simpa using hw)]
theorem Sim.startErr (h : Sim S c0 c) (r : Int) : c.startErr r = c0.startErr r := by
  unfold Clu.startErr
  rw [h.there]
  split
  · rfl
  · rename_i ht
    rw [(h.reps _ (there_of ht)).down]
theorem Sim.sendErr (h : Sim S c0 c) (r q : Int) : c.sendErr r q = c0.sendErr r q := by
  unfold Clu.sendErr
  rw [h.there, h.there, h.near]
  split
  · rfl
  · rename_i ht
    rw [(h.reps _ (there_of (fun e => ht (.inl e)))).down]
theorem Sim.netErr (h : Sim S c0 c) (k : Int) : c.netErr k = c0.netErr k := by
  unfold Clu.netErr Clu.has
  rw [← h.net.len]
theorem Sim.has (h : Sim S c0 c) (k : Int) : c.has k = c0.has k := by
  unfold Clu.has
  rw [← h.net.len]
/-- States are told alike. -/
theorem Sim.tell (h : Sim S c0 c) (ok0 : c0.ok U N) (ok1 : c.ok U' N') {r : Nat} (hr : r < c0.reps.length) (hu : (c0.rep r).down = false) : tell (c.rep r).atoms = tell (c0.rep r).atoms :=
  tell_same (fun a ha => ok1.may a ((ok1.rep (by rw [h.len]; exact hr)).sub a ha)) (fun a ha => ok0.may a ((ok0.rep hr).sub a ha)) (h.atoms hr hu).2 (h.atoms hr hu).1

/-- One replica turns on both sides. -/
theorem Sim.setRep {S' : Hst} (h : Sim S c0 c) {r : Nat} {p0 p : Rep} (hr : r < c0.reps.length) (i0 : Inv S' (c0.setRep r p0)) (i1 : Inv S' (c.setRep r p)) (hp : RepS p0 p) : Sim S' (c0.setRep r p0) (c.setRep r p) where
  i0 := i0
  i1 := i1
  room := h.room
  near := h.near
  bp := h.bp
  rr := h.rr
  len := by rw [len_setRep, len_setRep]; exact h.len
  reps q hq := by
    rw [len_setRep] at hq
    rw [rep_setRep c0 r q p0 hr, rep_setRep c r q p (by rw [h.len]; exact hr)]
    split
    · exact hp
    · exact h.reps q hq
  net := h.net
theorem Sim.put {f0 f : Frm} (h : Sim S c0 c) (i0 : Inv S (c0.put f0)) (i1 : Inv S (c.put f)) (hf : FrmS f0 f) : Sim S (c0.put f0) (c.put f) := by
  have hl := h.net.len
  unfold Clu.put at i0 i1 ⊢
  by_cases hc : c0.net.length < 200
  · rw [if_pos hc] at i0 ⊢
    rw [if_pos (by omega)] at i1 ⊢
    exact ⟨i0, i1, h.room, h.near, h.bp, h.rr, h.len, h.reps, Pairs.app (Pairs.cons hf Pairs.nil) h.net⟩
  · rw [if_neg hc] at i0 ⊢
    rw [if_neg (by omega)] at i1 ⊢
    exact h
theorem Sim.out (h : Sim S c0 c) (k : Nat) : Sim S (c0.out k) (c.out k) := ⟨h.i0.out k, h.i1.out k, h.room, h.near, h.bp, h.rr, h.len, h.reps, h.net.erase k⟩
theorem RepS.drop {p0 p : Rep} (h : RepS p0 p) (n : Nat) : RepS (p0.drop n) (p.drop n) :=
  { h with base := (by show max p.base n = max p0.base n; rw [h.base]), buf := Pairs.filter (fun a b hab => by rw [hab.1]) h.buf }
theorem RepS.take1 {p0 p : Rep} (h : RepS p0 p) {d0 d : List At} (hd : Lo d d0) (org : Nat) : RepS (p0.take1 d0 org) (p.take1 d org) where
  down := h.down
  num := (by show p.num + 1 = p0.num + 1; rw [h.num])
  base := h.base
  acked := h.acked
  frames := h.frames
  weight := h.weight
  last := (by show lastNum (p.log ++ [_]) = lastNum (p0.log ++ [_]); rw [lastNum_app, lastNum_app, h.num])
  buf := Pairs.app (Pairs.cons ⟨by show p.num + 1 = p0.num + 1; rw [h.num], rfl, hd⟩ Pairs.nil) h.buf
theorem RepS.head {p0 p : Rep} (h : RepS p0 p) (z : Nat) : (p.buf.head?.map (·.num)).getD z = (p0.buf.head?.map (·.num)).getD z := by
  have := h.buf
  generalize p0.buf = l at *
  generalize p.buf = m at *
  cases l with
  | nil =>
    cases m with
    | nil => rfl
    | cons _ _ => exact this.elim
  | cons _ _ =>
    cases m with
    | nil => exact this.elim
    | cons _ _ => exact this.1.1
theorem RepS.take {p0 p : Rep} (h : RepS p0 p) (room : Nat) {d0 d : List At} (hd : Lo d d0) (org : Nat) : RepS (p0.take room d0 org) (p.take room d org) := by
  unfold Rep.take
  rw [h.head, h.num, ← h.buf.len]
  split
  · exact (h.take1 hd org).drop _
  · exact h.take1 hd org
theorem RepS.fall {p0 p : Rep} (h : RepS p0 p) : RepS p0.fall p.fall where
  down := rfl
  num := rfl
  base := rfl
  acked := (by show List.replicate p.acked.length 0 = List.replicate p0.acked.length 0; rw [h.acked])
  frames := h.frames
  weight := h.weight
  last := h.last
  buf := Pairs.nil

theorem Sim.update (h : Sim S c0 c) (ok0 : c0.ok U N) (ok1 : c.ok U' N') (r : Int) (o : OpV) : ∃ S', Sim S' (c0.update r o) (c.update r o) := by
  by_cases he : c0.opErr r o = 0
  · have he1 : c.opErr r o = 0 := by rw [h.opErr]; exact he
    obtain ⟨hw, hf, hn⟩ := opErr_zero he
    obtain ⟨⟨_, hr⟩, hd⟩ := works_zero hw
    have ha := h.opAtom hw o
    have i0 := (h.i0.update0 ok0 r o he rfl).1
    have i1 := (h.i1.update0 ok1 r o he1 rfl).1
    have hl : c.last r.toNat = c0.last r.toNat := (h.reps _ hr).last
    rw [h.top hr, ha, hl] at i1
    refine ⟨S.add r.toNat (c0.last r.toNat + 1) (c0.top S r.toNat ++ [_root_.Go.Proofs.YtahdlejgjcjeoabGreatDoor.opAtom (c0.rep r.toNat).atoms r.toNat o]), ?_⟩
    · have hR := (h.reps _ hr).take c0.room (Lo.refl [_root_.Go.Proofs.YtahdlejgjcjeoabGreatDoor.opAtom (c0.rep r.toNat).atoms r.toNat o]) r.toNat
      unfold Clu.update at i0 i1 ⊢
      rw [if_pos he] at i0 ⊢
      rw [if_pos he1] at i1 ⊢
      rw [ha, h.room] at i1 ⊢
      exact h.setRep hr i0 i1 hR
  · have he1 : ¬ c.opErr r o = 0 := by rw [h.opErr]; exact he
    refine ⟨S, ?_⟩
    unfold Clu.update
    rw [if_neg he, if_neg he1]
    exact h
theorem Sim.tornOp (h : Sim S c0 c) (ok0 : c0.ok U N) (ok1 : c.ok U' N') (r : Int) (o : OpV) (keep : Int) : ∃ S', Sim S' (c0.tornOp r o keep) (c.tornOp r o keep) := by
  unfold Clu.tornOp
  rw [h.opErr]
  split
  · rename_i he
    obtain ⟨hw, hf, hn⟩ := opErr_zero he
    obtain ⟨⟨_, hr⟩, hd⟩ := works_zero hw
    have hr1 : r.toNat < c.reps.length := by rw [h.len]; exact hr
    have ha := h.opAtom hw o
    have hR := h.reps _ hr
    have hd1 : (c.rep r.toNat).down = false := by rw [hR.down]; exact hd
    have hl : c.last r.toNat = c0.last r.toNat := hR.last
    rw [ha]
    unfold Rep.tear
    rw [hR.num]
    split
    · have t0 := h.i0.turn ok0 (p := Rep.fall { c0.rep r.toNat with torn := (recBytes ⟨1, (c0.rep r.toNat).num + 1, [_root_.Go.Proofs.YtahdlejgjcjeoabGreatDoor.opAtom (c0.rep r.toNat).atoms r.toNat o]⟩).take keep.toNat }) hr rfl (RInv.fall h.i0.zero (h.i0.reps _ hr).mono (h.i0.reps _ hr).log)
      have t1 := h.i1.turn ok1 (p := Rep.fall { c.rep r.toNat with torn := (recBytes ⟨1, (c0.rep r.toNat).num + 1, [_root_.Go.Proofs.YtahdlejgjcjeoabGreatDoor.opAtom (c0.rep r.toNat).atoms r.toNat o]⟩).take keep.toNat }) hr1 rfl (RInv.fall h.i1.zero (h.i1.reps _ hr1).mono (h.i1.reps _ hr1).log)
      refine ⟨S, h.setRep hr t0.1 t1.1 ⟨rfl, rfl, rfl, ?_, hR.frames, hR.weight, hR.last, Pairs.nil⟩⟩
      show List.replicate (c.rep r.toNat).acked.length 0 = List.replicate (c0.rep r.toNat).acked.length 0
      rw [hR.acked]
    · have t0 := h.i0.fallen ok0 hr hd (d := [_root_.Go.Proofs.YtahdlejgjcjeoabGreatDoor.opAtom (c0.rep r.toNat).atoms r.toNat o]) (lo_left _ _) (lo_right _ _) (Lo.refl _) rfl
      have t1 := h.i1.fallen ok1 hr1 hd1 (d := [_root_.Go.Proofs.YtahdlejgjcjeoabGreatDoor.opAtom (c0.rep r.toNat).atoms r.toNat o]) (lo_left _ _) (lo_right _ _) (Lo.refl _) rfl
      rw [h.top hr, hl, hR.num] at t1
      refine ⟨_, h.setRep hr t0.1 t1.1 ⟨rfl, rfl, rfl, ?_, hR.frames, hR.weight, ?_, Pairs.nil⟩⟩
      · show List.replicate (c.rep r.toNat).acked.length 0 = List.replicate (c0.rep r.toNat).acked.length 0
        rw [hR.acked]
      · show lastNum ((c.rep r.toNat).log ++ [_]) = lastNum ((c0.rep r.toNat).log ++ [_])
        rw [lastNum_app, lastNum_app]
  · exact ⟨S, h⟩
theorem Sim.crash (h : Sim S c0 c) (ok0 : c0.ok U N) (ok1 : c.ok U' N') (r : Int) : Sim S (c0.crash r) (c.crash r) := by
  have i0 := (h.i0.crash ok0 r).1
  have i1 := (h.i1.crash ok1 r).1
  unfold Clu.crash at *
  rw [h.works] at i1 ⊢
  split
  · rename_i hw
    obtain ⟨⟨_, hr⟩, hd⟩ := works_zero hw
    rw [if_pos hw] at i0 i1
    exact h.setRep hr i0 i1 (h.reps _ hr).fall
  · exact h
theorem Sim.start (h : Sim S c0 c) (ok0 : c0.ok U N) (ok1 : c.ok U' N') (r : Int) : Sim S (c0.start r) (c.start r) := by
  have i0 := (h.i0.start ok0 r).1
  have i1 := (h.i1.start ok1 r).1
  unfold Clu.start at *
  rw [h.startErr] at i1 ⊢
  split
  · rename_i hw
    obtain ⟨⟨_, hr⟩, hd⟩ := startErr_zero hw
    rw [if_pos hw] at i0 i1
    have hR := h.reps _ hr
    exact h.setRep hr i0 i1 ⟨rfl, hR.last, hR.last, hR.acked, hR.frames, hR.weight, hR.last, hR.buf⟩
  · exact h
theorem Sim.compact (h : Sim S c0 c) (ok0 : c0.ok U N) (ok1 : c.ok U' N') (r : Int) : Sim S (c0.compact r) (c.compact r) := by
  have i0 := (h.i0.compact ok0 r).1
  have i1 := (h.i1.compact ok1 r).1
  unfold Clu.compact at *
  rw [h.works] at i1 ⊢
  split
  · rename_i hw
    obtain ⟨⟨_, hr⟩, hd⟩ := works_zero hw
    rw [if_pos hw] at i0 i1
    have hR := h.reps _ hr
    exact h.setRep hr i0 i1 ⟨hR.down, hR.num, hR.base, hR.acked, hR.frames, hR.weight, hR.num, hR.buf⟩
  · exact h
theorem lo_len {l m : List At} (hl : l.Pairwise (fun x y => plc x y < 0)) (_hm : m.Pairwise (fun x y => plc x y < 0)) (h : Lo l m) : l.length ≤ m.length := by
  have key : ∀ (l m : List At), l.Pairwise (fun x y => plc x y < 0) → (∀ x ∈ l, ∃ y ∈ m, plc x y = 0) → l.length ≤ m.length := by
    intro l
    induction l with
    | nil => intro m _ _; exact Nat.zero_le _
    | cons x l ih =>
      intro m hs hm
      rw [List.pairwise_cons] at hs
      obtain ⟨y, hy, hxy⟩ := hm x (by simp)
      obtain ⟨s, t, rfl⟩ := List.append_of_mem hy
      have := ih (s ++ t) hs.2 (fun z hz => by
        obtain ⟨u, hu, hzu⟩ := hm z (by simp [hz])
        refine ⟨u, ?_, hzu⟩
        rcases List.mem_append.1 hu with hu | hu
        · exact List.mem_append_left _ hu
        · rcases List.mem_cons.1 hu with rfl | hu
          · have h1 := hs.1 z hz
            have := plc_zero_trans hxy (plc_symm hzu)
            omega
          · exact List.mem_append_right _ hu)
      simp at this ⊢
      omega
  exact key l m hl fun x hx => by
    obtain ⟨y, hy, hp, _⟩ := h x hx
    exact ⟨y, hy, hp⟩
theorem Sim.frame (h : Sim S c0 c) {r : Nat} (hr : r < c0.reps.length) (hd : (c0.rep r).down = false) (q : Nat) : FrmS ((c0.rep r).frame c0.bp r q) ((c.rep r).frame c.bp r q) := by
  have hR := h.reps _ hr
  unfold Rep.frame
  rw [hR.acked, hR.base, hR.num]
  split
  · exact ⟨rfl, rfl, rfl, rfl, (tell_lo _).trans ((h.atoms hr hd).2.trans (lo_tell _))⟩
  · refine ⟨rfl, rfl, rfl, rfl, (tell_lo _).trans (Lo.trans (Lo.flat fun e he => ?_) (lo_tell _))⟩
    obtain ⟨he, hc⟩ := List.mem_filter.1 he
    obtain ⟨e0, he0, hn, ho, hlo⟩ := hR.buf.mem he
    refine hlo.trans (lo_flat (f := (·.d)) (List.mem_filter.2 ⟨he0, ?_⟩))
    rw [h.bp]
    simp only [Bool.and_eq_true, decide_eq_true_eq] at hc
    rw [hR.acked, hn] at hc
    simpa using hc.1
theorem frame_sorted (p : Rep) (bp : Bool) (r q : Nat) : (p.frame bp r q).d.Pairwise (fun x y => plc x y < 0) := by
  unfold Rep.frame
  split <;> exact (tell_told _).sorted
theorem Sim.send (h : Sim S c0 c) (ok0 : c0.ok U N) (ok1 : c.ok U' N') (r q : Int) : Sim S (c0.send r q) (c.send r q) := by
  have i0 := (h.i0.send ok0 r q).1
  have i1 := (h.i1.send ok1 r q).1
  unfold Clu.send at *
  rw [h.sendErr] at i1 ⊢
  split
  · rename_i he
    obtain ⟨⟨_, hr⟩, ⟨_, hq⟩, hn, hd⟩ := sendErr_zero he
    rw [if_pos he] at i0 i1
    have hR := h.reps _ hr
    have hF := h.frame hr hd q.toNat
    unfold Clu.sent at *
    have hr1 : r.toNat < c.reps.length := by rw [h.len]; exact hr
    have H0 := h.i0.reps _ hr
    have H1 := h.i1.reps _ hr1
    have t0 := h.i0.turn ok0 (p := { c0.rep r.toNat with frames := (c0.rep r.toNat).frames + 1, weight := (c0.rep r.toNat).weight + ((c0.rep r.toNat).frame c0.bp r.toNat q.toNat).d.length }) hr rfl ⟨H0.mono, H0.log, H0.up, H0.buf, H0.step, H0.ack⟩
    have t1 := h.i1.turn ok1 (p := { c.rep r.toNat with frames := (c.rep r.toNat).frames + 1, weight := (c.rep r.toNat).weight + ((c.rep r.toNat).frame c.bp r.toNat q.toNat).d.length }) hr1 rfl ⟨H1.mono, H1.log, H1.up, H1.buf, H1.step, H1.ack⟩
    refine Sim.put (h.setRep hr t0.1 t1.1 ⟨hR.down, hR.num, hR.base, hR.acked, ?_, ?_, hR.last, hR.buf⟩) i0 i1 hF
    · show (c.rep r.toNat).frames + 1 = (c0.rep r.toNat).frames + 1
      rw [hR.frames]
    · have := lo_len (frame_sorted _ _ _ _) (frame_sorted _ _ _ _) hF.2.2.2.2
      have := hR.weight
      show (c.rep r.toNat).weight + _ ≤ (c0.rep r.toNat).weight + _
      omega
  · exact h
theorem Sim.dropF (h : Sim S c0 c) (k : Int) : Sim S (c0.dropF k) (c.dropF k) := by
  unfold Clu.dropF
  rw [h.has]
  split
  · exact h.out _
  · exact h
theorem Sim.frm (h : Sim S c0 c) {k : Nat} (hk : k < c0.net.length) : FrmS (c0.frm k) (c.frm k) := h.net.get k _ _ hk
theorem Sim.copyF (h : Sim S c0 c) (k : Int) : Sim S (c0.copyF k) (c.copyF k) := by
  have i0 := h.i0.copyF k
  have i1 := h.i1.copyF k
  unfold Clu.copyF at *
  rw [h.has] at i1 ⊢
  split
  · rename_i hk
    rw [if_pos hk] at i0 i1
    exact h.put i0 i1 (h.frm (has_lt hk).2)
  · exact h
theorem RepS.ack {p0 p : Rep} (h : RepS p0 p) (near : Nat → Bool) (q u : Nat) : RepS (p0.ack near q u) (p.ack near q u) := by
  unfold Rep.ack
  simp only [h.acked]
  exact RepS.drop (p0 := { p0 with acked := p0.acked.set q (max (p0.acked.getD q 0) u) }) (p := { p with acked := p0.acked.set q (max (p0.acked.getD q 0) u) }) ⟨h.down, h.num, h.base, rfl, h.frames, h.weight, h.last, h.buf⟩ _
theorem Sim.deliver (h : Sim S c0 c) (ok0 : c0.ok U N) (ok1 : c.ok U' N') (k : Int) : ∃ S', Sim S' (c0.deliver k) (c.deliver k) := by
  unfold Clu.deliver
  rw [h.has]
  split
  · rename_i hk
    obtain ⟨_, hlt⟩ := has_lt hk
    have hlt1 : k.toNat < c.net.length := by rw [← h.net.len]; exact hlt
    have hF := h.frm hlt
    have hf0 := ok0.net _ (frm_mem hlt)
    have hI0 := h.i0.net _ (frm_mem hlt)
    have hT0 := ok0.netT _ (frm_mem hlt)
    have hI1 := h.i1.net _ (frm_mem hlt1)
    have hT1 := ok1.netT _ (frm_mem hlt1)
    generalize c0.frm k.toNat = f0 at *
    generalize c.frm k.toNat = f at *
    have h' := h.out k.toNat
    have ok0' := ok0.out k.toNat
    have ok1' := ok1.out k.toNat
    have hl0 : (c0.out k.toNat).reps.length = c0.reps.length := rfl
    rw [← hl0] at hf0
    have hI0' : FInv S ((c0.out k.toNat).top S) f0 := hI0
    have hI1' : FInv S ((c.out k.toNat).top S) f := hI1
    have hT0' : f0.upto ≤ (c0.out k.toNat).last f0.whose := hT0
    have hT1' : f.upto ≤ (c.out k.toNat).last f.whose := hT1
    clear h ok0 ok1 hl0 hI0 hI1 hT0 hT1 hlt hlt1 hk
    generalize c0.out k.toNat = c0' at *
    generalize c.out k.toNat = c' at *
    obtain ⟨k0, src0, dst0, up0, d0⟩ := f0
    obtain ⟨k1, src1, dst1, up1, d1⟩ := f
    obtain ⟨e1, e2, e3, e4, hlo⟩ := hF
    simp only at e1 e2 e3 e4 hlo
    subst e1 e2 e3 e4
    have hr := hf0.dst
    have hs := hf0.src
    simp only at hr hs
    have hr1 : dst1 < c'.reps.length := by rw [h'.len]; exact hr
    have hs1 : src1 < c'.reps.length := by rw [h'.len]; exact hs
    have hR := h'.reps _ hr
    unfold Clu.arrived
    simp only
    rw [hR.down]
    cases hd : (c0'.rep dst1).down
    · have hd1 : (c'.rep dst1).down = false := by rw [hR.down]; exact hd
      simp only [Bool.false_eq_true, if_false]
      split
      · rename_i h3
        have hw0 : Frm.whose ⟨k1, src1, dst1, up1, d0⟩ = dst1 := by unfold Frm.whose; rw [if_pos h3]
        have hw1 : Frm.whose ⟨k1, src1, dst1, up1, d1⟩ = dst1 := by unfold Frm.whose; rw [if_pos h3]
        rw [hw0] at hT0'
        rw [hw1] at hT1'
        have t0 := h'.i0.acks ok0' hr hd hT0' (hI0'.2 h3) (c0'.near dst1)
        have t1 := h'.i1.acks ok1' hr1 hd1 hT1' (hI1'.2 h3) (c'.near dst1)
        refine ⟨S, h'.setRep hr t0.1 t1.1 ?_⟩
        rw [h'.near]
        exact hR.ack _ _ _
      · rename_i h3
        have hw0 : Frm.whose ⟨k1, src1, dst1, up1, d0⟩ = src1 := by unfold Frm.whose; rw [if_neg h3]
        have hw1 : Frm.whose ⟨k1, src1, dst1, up1, d1⟩ = src1 := by unfold Frm.whose; rw [if_neg h3]
        rw [hw0] at hT0'
        rw [hw1] at hT1'
        have ht := h'.top hr
        have g0 : Lo d0 (S src1 up1) := (hI0'.1 h3).1
        have g1 : Lo (S src1 up1) (d1 ++ c'.top S dst1) := (hI1'.1 h3).2
        have hat := h'.atoms hr hd
        have hu1 := (h'.i1.reps _ hr1).up hd1
        obtain ⟨S0, a1, a2, a3⟩ := h'.i0.arrive ok0' hI0' h3 hT0' hr hs hd (T := c0'.top S dst1 ++ d0) (lo_left _ _) (lo_right _ _) (Lo.refl _)
        obtain ⟨S1, b1, b2, b3⟩ := h'.i1.arrive ok1' hI1' h3 hT1' hr1 hs1 hd1 (T := c0'.top S dst1 ++ d0) (by simp only; rw [ht]; exact lo_left _ _) (hlo.right _) (by simp only; rw [ht] at g1 ⊢; exact (lo_left _ _).app (g0.trans (g1.trans ((lo_right _ _).app (lo_left _ _)))))
        simp only at a1 a2 b1 b2
        have hiff : fresh d1 (c'.rep dst1).atoms = [] ↔ fresh d0 (c0'.rep dst1).atoms = [] := by
          rw [fresh_nil, fresh_nil]
          constructor
          · intro hx
            exact (g0.trans (g1.trans (hx.app hu1.2))).trans hat.2
          · intro hx
            exact (hlo.trans hx).trans hat.1
        have hl : c'.last dst1 = c0'.last dst1 := hR.last
        have hSS : S1 = S0 := by
          rw [a2, b2, hl]
          by_cases hx : fresh d0 (c0'.rep dst1).atoms = []
          · rw [if_pos hx, if_pos (hiff.2 hx)]
          · rw [if_neg hx, if_neg (fun e => hx (hiff.1 e))]
        subst hSS
        refine ⟨S1, ?_⟩
        have hS : Sim S1 (c0'.setRep dst1 ((c0'.rep dst1).arrive c0'.room c0'.rr d0 src1)) (c'.setRep dst1 ((c'.rep dst1).arrive c'.room c'.rr d1 src1)) := by
          have ii0 : Inv S1 (c0'.setRep dst1 ((c0'.rep dst1).arrive c0'.room c0'.rr d0 src1)) := by
            refine ⟨a1.zero, fun q hq => ?_, fun g hg => ?_⟩
            · have := a1.reps q (by rw [len_put]; exact hq)
              rw [put_top, len_put] at this
              have e : ∀ f, ((c0'.setRep dst1 ((c0'.rep dst1).arrive c0'.room c0'.rr d0 src1)).put f).rep q = (c0'.setRep dst1 ((c0'.rep dst1).arrive c0'.room c0'.rr d0 src1)).rep q := fun f => by unfold Clu.put; split <;> rfl
              rw [e] at this
              exact this
            · have := a1.net g (by unfold Clu.put; split; exact List.mem_append_left _ hg; exact hg)
              rw [put_top] at this
              exact this
          have ii1 : Inv S1 (c'.setRep dst1 ((c'.rep dst1).arrive c'.room c'.rr d1 src1)) := by
            refine ⟨b1.zero, fun q hq => ?_, fun g hg => ?_⟩
            · have := b1.reps q (by rw [len_put]; exact hq)
              rw [put_top, len_put] at this
              have e : ∀ f, ((c'.setRep dst1 ((c'.rep dst1).arrive c'.room c'.rr d1 src1)).put f).rep q = (c'.setRep dst1 ((c'.rep dst1).arrive c'.room c'.rr d1 src1)).rep q := fun f => by unfold Clu.put; split <;> rfl
              rw [e] at this
              exact this
            · have := b1.net g (by unfold Clu.put; split; exact List.mem_append_left _ hg; exact hg)
              rw [put_top] at this
              exact this
          refine h'.setRep hr ii0 ii1 ?_
          unfold Rep.arrive
          by_cases hx : fresh d0 (c0'.rep dst1).atoms = []
          · rw [if_pos hx, if_pos (hiff.2 hx)]
            exact hR
          · rw [if_neg hx, if_neg (fun e => hx (hiff.1 e)), h'.rr, h'.room]
            refine hR.take _ ?_ _
            split
            · exact (fresh_lo _ _).trans hlo
            · exact hlo
        exact hS.put a1 b1 ⟨rfl, rfl, rfl, rfl, Lo.refl _⟩
    · exact ⟨S, h'⟩
  · exact ⟨S, h⟩
end
theorem sim_new (room : Nat) (bp rr : Bool) (n : Nat) (f : Nat → Nat → Bool) : Sim (fun _ _ => []) (clu0 room false false n f) (clu0 room bp rr n f) where
  i0 := inv_new _ _ _ _ _
  i1 := inv_new _ _ _ _ _
  room := rfl
  near := rfl
  bp := rfl
  rr := rfl
  len := rfl
  reps r hr := by
    have hl : r < n := by simpa [clu0] using hr
    have e : ∀ b1 b2, (clu0 room b1 b2 n f).rep r = rep0 n := fun b1 b2 => by
      unfold Clu.rep clu0
      simp [List.getD_eq_getElem?_getD, hl]
    rw [e, e]
    exact ⟨rfl, rfl, rfl, rfl, rfl, Nat.le_refl _, rfl, Pairs.nil⟩
  net := Pairs.nil
end Go.Proofs.YtahdlejgjcjeoabGreatDoor
