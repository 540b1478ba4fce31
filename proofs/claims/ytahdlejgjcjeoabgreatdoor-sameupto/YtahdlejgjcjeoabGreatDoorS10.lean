/- The plain side of P16: what a replica had at each Number; what is always so of it, whatever is done. -/
import Derived.Test.YtahdlejgjcjeoabGreatDoorS04
namespace Go.Proofs.YtahdlejgjcjeoabGreatDoor

/-- l is below m: of each of its atoms m has the slot, with no lower grade. -/
def Lo (l m : List At) : Prop := ∀ x ∈ l, ∃ y ∈ m, plc x y = 0 ∧ grd x y ≤ 0
theorem plc_zero_trans {a b c : At} (h : plc a b = 0) (k : plc b c = 0) : plc a c = 0 := by
  rw [plc_eq, scmp_zero] at *
  exact h.trans k
theorem grd_same (x : At) : grd x x = 0 := by
  have := grd_anti (a := x) (b := x) rfl
  omega
theorem Lo.sub {l m : List At} (h : ∀ x ∈ l, x ∈ m) : Lo l m := fun x hx => ⟨x, h x hx, plc_tp.refl x, by rw [grd_same]; exact Int.le_refl _⟩
theorem Lo.refl (l : List At) : Lo l l := Lo.sub fun _ h => h
theorem Lo.trans {l m n : List At} (h : Lo l m) (k : Lo m n) : Lo l n := fun x hx => by
  obtain ⟨y, hy, p1, g1⟩ := h x hx
  obtain ⟨z, hz, p2, g2⟩ := k y hy
  exact ⟨z, hz, plc_zero_trans p1 p2, grd_trans (plc_ty p1) (plc_ty p2) g1 g2⟩
theorem Lo.nil (m : List At) : Lo [] m := fun x hx => by cases hx
theorem Lo.app {l m n : List At} (h : Lo l n) (k : Lo m n) : Lo (l ++ m) n := fun x hx => by
  rcases List.mem_append.1 hx with hx | hx
  · exact h x hx
  · exact k x hx
theorem Lo.left {l m : List At} (h : Lo l m) (n : List At) : Lo l (m ++ n) := h.trans (Lo.sub fun _ h => List.mem_append_left _ h)
theorem Lo.right {l m : List At} (h : Lo l m) (n : List At) : Lo l (n ++ m) := h.trans (Lo.sub fun _ h => List.mem_append_right _ h)
theorem lo_left (l m : List At) : Lo l (l ++ m) := (Lo.refl l).left m
theorem lo_right (l m : List At) : Lo l (m ++ l) := (Lo.refl l).right m
theorem Lo.both {l m l' m' : List At} (h : Lo l l') (k : Lo m m') : Lo (l ++ m) (l' ++ m') := (h.left _).app (k.right _)
theorem Lo.flat {α : Type} {l : List α} {f : α → List At} {m : List At} (h : ∀ e ∈ l, Lo (f e) m) : Lo (l.map f).flatten m := fun x hx => by
  obtain ⟨d, hd, hx⟩ := List.mem_flatten.1 hx
  obtain ⟨e, he, rfl⟩ := List.mem_map.1 hd
  exact h e he x hx
theorem lo_flat {α : Type} {l : List α} {f : α → List At} {e : α} (he : e ∈ l) : Lo (f e) (l.map f).flatten :=
  Lo.sub fun _ hx => List.mem_flatten.2 ⟨f e, List.mem_map.2 ⟨e, he, rfl⟩, hx⟩
theorem lo_tell (l : List At) : Lo l (tell l) := fun x hx => by
  obtain ⟨y, hy, hp⟩ := (tell_told l).all x hx
  exact ⟨y, hy, hp, ((tell_told l).great y hy).2 x hx hp⟩
theorem tell_lo (l : List At) : Lo (tell l) l := Lo.sub fun x hx => ((tell_told l).great x hx).1
theorem fresh_lo (d m : List At) : Lo (fresh d m) d := Lo.sub fun x hx => ((tell_told d).great x (List.mem_filter.1 hx).1).1
theorem lo_fresh (d m : List At) : Lo d (fresh d m ++ m) := fun x hx => by
  obtain ⟨y, hy, hp, hg⟩ := lo_tell d x hx
  by_cases hf : frTo y m m.length = true
  · exact ⟨y, List.mem_append_left _ (List.mem_filter.2 ⟨hy, hf⟩), hp, hg⟩
  · rw [frTo_iff] at hf
    simp only [Classical.not_forall] at hf
    obtain ⟨z, hz, p2, g2⟩ := hf
    exact ⟨z, List.mem_append_right _ hz, plc_zero_trans hp p2, grd_trans (plc_ty hp) (plc_ty p2) hg (by omega)⟩
theorem fresh_nil (d m : List At) : fresh d m = [] ↔ Lo d m := by
  constructor
  · intro h
    have := lo_fresh d m
    rwa [h, List.nil_append] at this
  · intro h
    rw [List.eq_nil_iff_forall_not_mem]
    intro y hy
    have hm := List.mem_filter.1 hy
    obtain ⟨z, hz, p1, g1⟩ := h y ((tell_told d).great y hm.1).1
    have := (frTo_iff y m).1 hm.2 z hz p1
    omega
/-- What is one state is told as one. -/
theorem tell_same {l m : List At} (hl : ∀ a ∈ l, mayB a = true) (hm : ∀ a ∈ m, mayB a = true) (h : Lo l m) (k : Lo m l) : tell l = tell m := by
  refine (tell_told l).unique hl ⟨(tell_told m).sorted, fun x hx => ?_, fun y hy => ?_⟩
  · obtain ⟨hxm, hg⟩ := (tell_told m).great x hx
    obtain ⟨y, hy, p1, g1⟩ := k x hxm
    obtain ⟨z, hz, p2, g2⟩ := h y hy
    have p3 : plc z x = 0 := plc_symm (plc_zero_trans p1 p2)
    have g3 := grd_trans (plc_ty p2) (plc_ty p3) g2 (hg z hz p3)
    have hxy := same_of2 (hm x hxm) (hl y hy) p1 g1 g3
    subst hxy
    refine ⟨hy, fun y' hy' hp => ?_⟩
    obtain ⟨z', hz', p4, g4⟩ := h y' hy'
    have p5 : plc z' x = 0 := plc_zero_trans (plc_symm p4) hp
    exact grd_trans (plc_ty p4) (plc_ty p5) g4 (hg z' hz' p5)
  · obtain ⟨z, hz, p1, g1⟩ := h y hy
    obtain ⟨u, hu, p2⟩ := (tell_told m).all z hz
    exact ⟨u, hu, plc_zero_trans p1 p2⟩

/-- What each replica had at each Number. -/
abbrev Hst := Nat → Nat → List At
def Clu.last (c : Clu) (r : Nat) : Nat := lastNum (c.rep r).log
/-- What a replica has for good: what its log has. -/
def Rep.dur (p : Rep) : List At := (p.log.map (·.d)).flatten
def Clu.top (S : Hst) (c : Clu) (r : Nat) : List At := S r (c.last r)

/-- What is so of one replica. -/
structure RInv (S : Hst) (T : Nat → List At) (n r : Nat) (p : Rep) : Prop where
  mono : ∀ j k, j ≤ k → k ≤ lastNum p.log → Lo (S r j) (S r k)
  log : Lo p.dur (T r) ∧ Lo (T r) p.dur
  up : p.down = false → Lo p.atoms (T r) ∧ Lo (T r) p.atoms
  buf : ∀ e ∈ p.buf, Lo e.d (S r e.num) ∧ Lo e.d (T e.org)
  step : ∀ k, p.base ≤ k → k < p.num → ∃ e ∈ p.buf, e.num = k + 1 ∧ Lo (S r (k + 1)) (S r k ++ e.d)
  ack : ∀ q, q < n → Lo (S r (p.acked.getD q 0)) (T q)
/-- What is so of a frame. -/
def FInv (S : Hst) (T : Nat → List At) (f : Frm) : Prop :=
  (f.kind ≠ 3 → Lo f.d (S f.src f.upto) ∧ Lo (S f.src f.upto) (f.d ++ T f.dst)) ∧ (f.kind = 3 → Lo (S f.dst f.upto) (T f.src))
structure Inv (S : Hst) (c : Clu) : Prop where
  zero : ∀ r, S r 0 = []
  reps : ∀ r, r < c.reps.length → RInv S (c.top S) c.reps.length r (c.rep r)
  net : ∀ f ∈ c.net, FInv S (c.top S) f

theorem getD_leN {l : List Nat} {m : Nat} (h : ∀ k ∈ l, k ≤ m) (q : Nat) : l.getD q 0 ≤ m := by
  rw [List.getD_eq_getElem?_getD]
  cases hq : l[q]? with
  | none => simp
  | some k => exact h k (List.mem_of_getElem? hq)
/-- The same up to Number m. -/
def Upto (S S' : Hst) (c : Clu) : Prop := ∀ q k, k ≤ c.last q → S' q k = S q k
theorem last_setRep (c : Clu) (i j : Nat) (p : Rep) (hi : i < c.reps.length) : (c.setRep i p).last j = if j = i then lastNum p.log else c.last j := by
  unfold Clu.last
  rw [rep_setRep c i j p hi]
  split <;> rfl

/-- One replica turns. -/
theorem Inv.setRep {S S' : Hst} {c : Clu} {U : List At} {N : Nat} (h : Inv S c) (hok : c.ok U N) {r : Nat} {p : Rep} (hr : r < c.reps.length) (hz : ∀ q, S' q 0 = []) (hS : Upto S S' c) (ht : Lo (c.top S r) (S' r (lastNum p.log)))
    (hp : RInv S' ((c.setRep r p).top S') c.reps.length r p) : Inv S' (c.setRep r p) ∧ ∀ q, Lo (c.top S q) ((c.setRep r p).top S' q) := by
  have htop : ∀ q, Lo (c.top S q) ((c.setRep r p).top S' q) := by
    intro q
    unfold Clu.top
    rw [last_setRep c r q p hr]
    split
    · rename_i e; subst e; exact ht
    · rw [hS q _ (Nat.le_refl _)]; exact Lo.refl _
  have hlen : (c.setRep r p).reps.length = c.reps.length := by simp [Clu.setRep]
  refine ⟨⟨hz, fun q hq => ?_, fun f hf => ?_⟩, htop⟩
  · rw [hlen] at hq ⊢
    rw [rep_setRep c r q p hr]
    by_cases e : q = r
    · subst e
      rw [if_pos rfl]
      exact hp
    · rw [if_neg e]
      have H := h.reps q hq
      have hO := hok.rep hq
      have hTq : (c.setRep r p).top S' q = c.top S q := by
        unfold Clu.top
        rw [last_setRep c r q p hr, if_neg e, hS q _ (Nat.le_refl _)]
      have hnl : (c.rep q).num ≤ c.last q := by
        cases hd : (c.rep q).down
        · rw [hO.up hd]; exact Nat.le_refl _
        · rw [(hO.dn hd).2.1]; exact Nat.zero_le _
      refine ⟨fun j k hj hk => ?_, ?_, fun hd => ?_, fun e' he => ?_, fun k h1 h2 => ?_, fun q' hq' => ?_⟩
      · rw [hS q k hk, hS q j (Nat.le_trans hj hk)]
        exact H.mono j k hj hk
      · rw [hTq]; exact H.log
      · rw [hTq]; exact H.up hd
      · have hb := hO.buf e' he
        rw [hS q e'.num (by omega)]
        exact ⟨(H.buf e' he).1, (H.buf e' he).2.trans (htop _)⟩
      · rw [hS q (k + 1) (by omega), hS q k (by omega)]
        exact H.step k h1 h2
      · rw [hS q _ (Nat.le_trans (getD_leN hO.ack q') hnl)]
        exact (H.ack q' hq').trans (htop _)
  · have hf' : f ∈ c.net := hf
    have hT := hok.netT f hf'
    obtain ⟨h1, h2⟩ := h.net f hf'
    refine ⟨fun k3 => ?_, fun k3 => ?_⟩
    · have hw : f.whose = f.src := by unfold Frm.whose; rw [if_neg k3]
      rw [hw] at hT
      rw [hS f.src _ hT]
      exact ⟨(h1 k3).1, (h1 k3).2.trans ((Lo.refl _).both (htop _))⟩
    · have hw : f.whose = f.dst := by unfold Frm.whose; rw [if_pos k3]
      rw [hw] at hT
      rw [hS f.dst _ hT]
      exact (h2 k3).trans (htop _)
theorem Inv.put {S : Hst} {c : Clu} (h : Inv S c) {f : Frm} (hf : FInv S (c.top S) f) : Inv S (c.put f) := by
  unfold Clu.put
  split
  · exact ⟨h.zero, h.reps, fun g hg => by
      rcases List.mem_append.1 hg with hg | hg
      · exact h.net g hg
      · obtain rfl := List.mem_singleton.1 hg
        exact hf⟩
  · exact h
theorem Inv.out {S : Hst} {c : Clu} (h : Inv S c) (k : Nat) : Inv S (c.out k) := ⟨h.zero, h.reps, fun f hf => h.net f (List.mem_of_mem_eraseIdx hf)⟩

/-- What r had at its next Number is T. -/
def Hst.add (S : Hst) (r k : Nat) (T : List At) : Hst := fun q j => if q = r ∧ j = k then T else S q j
theorem add_upto (S : Hst) (c : Clu) (r : Nat) (T : List At) : Upto S (S.add r (c.last r + 1) T) c := fun q k hk => by
  unfold Hst.add
  rw [if_neg]
  rintro ⟨rfl, rfl⟩
  omega
theorem add_zero (S : Hst) (r k : Nat) (T : List At) (h : ∀ q, S q 0 = []) : ∀ q, S.add r (k + 1) T q 0 = [] := fun q => by
  unfold Hst.add
  rw [if_neg (by omega)]
  exact h q
theorem add_at (S : Hst) (r k : Nat) (T : List At) : S.add r k T r k = T := by simp [Hst.add]

theorem take_log (room : Nat) (p : Rep) (d : List At) (org : Nat) : (p.take room d org).log = p.log ++ [⟨1, p.num + 1, d⟩] := by unfold Rep.take; split <;> rfl
theorem take_atoms (room : Nat) (p : Rep) (d : List At) (org : Nat) : (p.take room d org).atoms = p.atoms ++ d := by unfold Rep.take; split <;> rfl
theorem take_num (room : Nat) (p : Rep) (d : List At) (org : Nat) : (p.take room d org).num = p.num + 1 := by unfold Rep.take; split <;> rfl
theorem take_acked (room : Nat) (p : Rep) (d : List At) (org : Nat) : (p.take room d org).acked = p.acked := by unfold Rep.take; split <;> rfl
theorem take_down (room : Nat) (p : Rep) (d : List At) (org : Nat) : (p.take room d org).down = p.down := by unfold Rep.take; split <;> rfl
theorem lastNum_app (l : List Rec) (r : Rec) : lastNum (l ++ [r]) = r.num := by simp [lastNum]
theorem dur_app (l : List Rec) (r : Rec) : ((l ++ [r]).map (·.d)).flatten = (l.map (·.d)).flatten ++ r.d := by simp

/-- A delta is taken in: the state at the new Number is T, which is as much as what was there and the delta. -/
theorem Inv.take {S : Hst} {c : Clu} {U : List At} {N : Nat} (h : Inv S c) (hok : c.ok U N) {r : Nat} (hr : r < c.reps.length) (hu : (c.rep r).down = false) {d T : List At} {org : Nat} (h1 : Lo (c.top S r) T) (h2 : Lo d T) (h3 : Lo T (c.top S r ++ d)) (h4 : org = r ∨ Lo d (c.top S org)) :
    Inv (S.add r (c.last r + 1) T) (c.setRep r ((c.rep r).take c.room d org)) ∧ ∀ q, Lo (c.top S q) ((c.setRep r ((c.rep r).take c.room d org)).top (S.add r (c.last r + 1) T) q) := by
  have H := h.reps r hr
  have hO := hok.rep hr
  have hnl : c.last r = (c.rep r).num := (hO.up hu).symm
  have hl : lastNum ((c.rep r).take c.room d org).log = c.last r + 1 := by rw [take_log, lastNum_app, hnl]
  have hT : (c.setRep r ((c.rep r).take c.room d org)).top (S.add r (c.last r + 1) T) r = T := by
    unfold Clu.top
    rw [last_setRep c r r _ hr, if_pos rfl, hl, add_at]
  have hTo : ∀ q, Lo (c.top S q) ((c.setRep r ((c.rep r).take c.room d org)).top (S.add r (c.last r + 1) T) q) := by
    intro q
    by_cases e : q = r
    · subst e; rw [hT]; exact h1
    · unfold Clu.top
      rw [last_setRep c r q _ hr, if_neg e, add_upto S c r T q _ (Nat.le_refl _)]
      exact Lo.refl _
  have hS := add_upto S c r T
  refine h.setRep hok hr (add_zero S r _ T h.zero) hS (by rw [hl, add_at]; exact h1) ⟨fun j k hj hk => ?_, ?_, fun _ => ?_, fun e he => ?_, fun k hk1 hk2 => ?_, fun q hq => ?_⟩
  · rw [hl] at hk
    by_cases ek : k = c.last r + 1
    · subst ek
      rw [add_at]
      by_cases ej : j = c.last r + 1
      · subst ej; rw [add_at]; exact Lo.refl _
      · rw [hS r j (by omega)]
        exact (H.mono j (c.last r) (by omega) (Nat.le_refl _)).trans h1
    · rw [hS r k (by omega), hS r j (by omega)]
      exact H.mono j k hj (by show k ≤ c.last r; omega)
  · rw [hT]
    unfold Rep.dur
    rw [take_log, dur_app]
    exact ⟨(H.log.1.trans h1).app h2, h3.trans (H.log.2.both (Lo.refl _))⟩
  · rw [hT, take_atoms]
    exact ⟨((H.up hu).1.trans h1).app h2, h3.trans ((H.up hu).2.both (Lo.refl _))⟩
  · have he' : e ∈ (c.rep r).buf ∨ e = ⟨(c.rep r).num + 1, org, d⟩ := by
      unfold Rep.take at he
      split at he
      · have := (List.mem_filter.1 he).1
        simpa using List.mem_append.1 this
      · simpa using List.mem_append.1 he
    rcases he' with he' | rfl
    · have hb := hO.buf e he'
      rw [hS r e.num (by rw [hnl]; omega)]
      exact ⟨(H.buf e he').1, (H.buf e he').2.trans (hTo _)⟩
    · show Lo d (S.add r (c.last r + 1) T r ((c.rep r).num + 1)) ∧ Lo d _
      rw [← hnl, add_at]
      refine ⟨h2, ?_⟩
      rcases h4 with rfl | h4
      · rw [hT]; exact h2
      · exact h4.trans (hTo _)
  · rw [take_num] at hk2
    have key : ∀ e, e ∈ (c.rep r).buf ++ [(⟨(c.rep r).num + 1, org, d⟩ : Ent)] → ((c.rep r).take c.room d org).base < e.num → e ∈ ((c.rep r).take c.room d org).buf := by
      intro e he hb
      unfold Rep.take at hb ⊢
      split
      · rename_i hlt
        rw [if_pos hlt] at hb
        refine List.mem_filter.2 ⟨he, ?_⟩
        have hb' : max (c.rep r).base _ < e.num := hb
        exact decide_eq_true (by omega)
      · exact he
    by_cases ek : k = (c.rep r).num
    · subst ek
      refine ⟨⟨(c.rep r).num + 1, org, d⟩, key _ (by simp) (by show _ < (c.rep r).num + 1; omega), rfl, ?_⟩
      rw [← hnl, add_at, hS r _ (Nat.le_refl _)]
      exact h3
    · have hb : (c.rep r).base ≤ k := by
        refine Nat.le_trans ?_ hk1
        unfold Rep.take
        split
        · show (c.rep r).base ≤ max (c.rep r).base _
          omega
        · exact Nat.le_refl _
      obtain ⟨e, he, hen, hlo⟩ := H.step k hb (by omega)
      refine ⟨e, key e (List.mem_append_left _ he) (by omega), hen, ?_⟩
      rw [hS r (k + 1) (by rw [hnl]; omega), hS r k (by rw [hnl]; omega)]
      exact hlo
  · rw [take_acked]
    rw [hS r _ (by rw [hnl]; exact getD_leN hO.ack q)]
    exact (H.ack q hq).trans (hTo _)

section
variable {S : Hst} {c : Clu} {U : List At} {N : Nat}
theorem setRep_top (c : Clu) (S : Hst) (r : Nat) (p : Rep) (hr : r < c.reps.length) (hl : lastNum p.log = c.last r) : (c.setRep r p).top S = c.top S := by
  funext q
  unfold Clu.top
  rw [last_setRep c r q p hr]
  split
  · rename_i e; subst e; rw [hl]
  · rfl
/-- A replica turns, its Number at the end of the log does not. -/
theorem Inv.turn (h : Inv S c) (hok : c.ok U N) {r : Nat} {p : Rep} (hr : r < c.reps.length) (hl : lastNum p.log = c.last r) (hp : RInv S (c.top S) c.reps.length r p) : Inv S (c.setRep r p) ∧ ∀ q, (c.setRep r p).top S q = c.top S q := by
  have ht := setRep_top c S r p hr hl
  exact ⟨(h.setRep hok hr h.zero (fun _ _ _ => rfl) (by rw [hl]; exact Lo.refl _) (by rw [ht]; exact hp)).1, fun q => by rw [ht]⟩
theorem getD_replN (n q : Nat) : (List.replicate n 0).getD q 0 = 0 := by
  rw [List.getD_eq_getElem?_getD, List.getElem?_replicate]
  split <;> rfl
theorem RInv.fall {T : Nat → List At} {n r : Nat} {p : Rep} (hz : ∀ q, S q 0 = []) (hm : ∀ j k, j ≤ k → k ≤ lastNum p.log → Lo (S r j) (S r k)) (hl : Lo p.dur (T r) ∧ Lo (T r) p.dur) : RInv S T n r p.fall where
  mono := hm
  log := hl
  up e := by cases e
  buf e he := by cases he
  step k h1 h2 := by have : k < 0 := h2; omega
  ack q hq := by
    show Lo (S r ((List.replicate p.acked.length 0).getD q 0)) _
    rw [getD_replN, hz]
    exact Lo.nil _

theorem Inv.crash (h : Inv S c) (hok : c.ok U N) (r : Int) : Inv S (c.crash r) ∧ ∀ q, (c.crash r).top S q = c.top S q := by
  unfold Clu.crash
  split
  · rename_i hw
    obtain ⟨⟨_, hr⟩, hd⟩ := works_zero hw
    exact h.turn hok hr rfl (RInv.fall h.zero (h.reps _ hr).mono (h.reps _ hr).log)
  · exact ⟨h, fun _ => rfl⟩
theorem Inv.start (h : Inv S c) (hok : c.ok U N) (r : Int) : Inv S (c.start r) ∧ ∀ q, (c.start r).top S q = c.top S q := by
  unfold Clu.start
  split
  · rename_i hw
    obtain ⟨⟨_, hr⟩, hd⟩ := startErr_zero hw
    have H := h.reps _ hr
    obtain ⟨d1, d2, d3, d4, d5⟩ := (hok.rep hr).dn hd
    refine h.turn hok hr rfl ⟨H.mono, H.log, fun _ => ?_, fun e he => ?_, fun k h1 h2 => ?_, H.ack⟩
    · show Lo ((c.rep r.toNat).atoms ++ (c.rep r.toNat).dur) _ ∧ Lo _ ((c.rep r.toNat).atoms ++ (c.rep r.toNat).dur)
      rw [d1, List.nil_append]
      exact H.log
    · have he' : e ∈ (c.rep r.toNat).buf := he
      rw [d4] at he'
      cases he'
    · have h1' : lastNum (c.rep r.toNat).log ≤ k := h1
      have h2' : k < lastNum (c.rep r.toNat).log := h2
      omega
  · exact ⟨h, fun _ => rfl⟩
theorem Inv.compact (h : Inv S c) (hok : c.ok U N) (r : Int) : Inv S (c.compact r) ∧ ∀ q, (c.compact r).top S q = c.top S q := by
  unfold Clu.compact
  split
  · rename_i hw
    obtain ⟨⟨_, hr⟩, hd⟩ := works_zero hw
    have H := h.reps _ hr
    have hnl : (c.rep r.toNat).num = c.last r.toNat := (hok.rep hr).up hd
    have hl : lastNum (c.rep r.toNat).compact.log = c.last r.toNat := hnl
    have hu := H.up hd
    refine h.turn hok hr hl ⟨fun j k hj hk => H.mono j k hj (by rw [hl] at hk; exact hk), ?_, H.up, H.buf, H.step, H.ack⟩
    have e : (c.rep r.toNat).compact.dur = tell (c.rep r.toNat).atoms := by simp [Rep.dur, Rep.compact]
    rw [e]
    exact ⟨(tell_lo _).trans hu.1, hu.2.trans (lo_tell _)⟩
  · exact ⟨h, fun _ => rfl⟩
theorem Inv.sent (h : Inv S c) (hok : c.ok U N) {r q : Nat} (hr : r < c.reps.length) (hq : q < c.reps.length) (hd : (c.rep r).down = false) : FInv S (c.top S) ((c.rep r).frame c.bp r q) := by
  have H := h.reps _ hr
  have hO := hok.rep hr
  have hnl : (c.rep r).num = c.last r := hO.up hd
  have hu := H.up hd
  have ht : c.top S r = S r (c.rep r).num := by unfold Clu.top; rw [hnl]
  obtain ⟨f1, f2, f3, f4⟩ := frame_head (c.rep r) c.bp r q
  refine ⟨fun _ => ?_, fun k3 => absurd k3 f4⟩
  rw [f1, f2, f3]
  unfold Rep.frame
  split
  · rw [← ht]
    exact ⟨(tell_lo _).trans hu.1, (hu.2.trans (lo_tell _)).left _⟩
  · rename_i hb
    constructor
    · refine (tell_lo _).trans (Lo.flat fun e he => ?_)
      have he' := (List.mem_filter.1 he).1
      have hbn := hO.buf e he'
      exact (H.buf e he').1.trans (H.mono _ _ hbn.2.2.1 (by rw [hnl]; exact Nat.le_refl _))
    · show Lo (S r (c.rep r).num) (tell ((((c.rep r).toSend c.bp q).map (·.d)).flatten) ++ c.top S q)
      generalize hD : tell ((((c.rep r).toSend c.bp q).map (·.d)).flatten) = D
      have key : ∀ i, (c.rep r).acked.getD q 0 + i ≤ (c.rep r).num → Lo (S r ((c.rep r).acked.getD q 0 + i)) (D ++ c.top S q) := by
        intro i
        induction i with
        | zero => intro _; exact (H.ack q hq).right _
        | succ i ih =>
          intro hi
          obtain ⟨e, he, hen, hlo⟩ := H.step ((c.rep r).acked.getD q 0 + i) (by omega) (by omega)
          refine hlo.trans ((ih (by omega)).app ?_)
          by_cases hs : e ∈ (c.rep r).toSend c.bp q
          · refine Lo.left ?_ _
            rw [← hD]
            exact (lo_flat hs).trans (lo_tell _)
          · refine Lo.right ?_ _
            have hbk : c.bp = true ∧ e.org = q := by
              have hn : ¬ ((decide ((c.rep r).acked.getD q 0 < e.num) && !(c.bp && decide (e.org = q))) = true) := fun hc => hs (List.mem_filter.2 ⟨he, hc⟩)
              have h1 : decide ((c.rep r).acked.getD q 0 < e.num) = true := decide_eq_true (by omega)
              rw [h1, Bool.true_and] at hn
              simpa using hn
            have := (H.buf e he).2
            rwa [hbk.2] at this
      have hak := getD_leN hO.ack q
      have := key ((c.rep r).num - (c.rep r).acked.getD q 0) (by omega)
      rwa [Nat.add_sub_cancel' hak] at this
theorem put_top (c : Clu) (S : Hst) (f : Frm) : (c.put f).top S = c.top S := by unfold Clu.put; split <;> rfl
theorem Inv.send (h : Inv S c) (hok : c.ok U N) (r q : Int) : Inv S (c.send r q) ∧ ∀ j, (c.send r q).top S j = c.top S j := by
  unfold Clu.send
  split
  · rename_i he
    obtain ⟨⟨_, hr⟩, ⟨_, hq⟩, hn, hd⟩ := sendErr_zero he
    have H := h.reps _ hr
    have hf := h.sent hok hr hq hd
    unfold Clu.sent
    have h2 := h.turn hok (p := { c.rep r.toNat with frames := (c.rep r.toNat).frames + 1, weight := (c.rep r.toNat).weight + ((c.rep r.toNat).frame c.bp r.toNat q.toNat).d.length }) hr rfl ⟨H.mono, H.log, H.up, H.buf, H.step, H.ack⟩
    refine ⟨h2.1.put ?_, fun j => by rw [put_top]; exact h2.2 j⟩
    rw [show (c.setRep r.toNat { c.rep r.toNat with frames := (c.rep r.toNat).frames + 1, weight := (c.rep r.toNat).weight + ((c.rep r.toNat).frame c.bp r.toNat q.toNat).d.length }).top S = c.top S from funext h2.2]
    exact hf
  · exact ⟨h, fun _ => rfl⟩
theorem getD_setN (l : List Nat) (i j v : Nat) : (l.set i v).getD j 0 = if i = j ∧ i < l.length then v else l.getD j 0 := by
  simp only [List.getD_eq_getElem?_getD, List.getElem?_set]
  by_cases e : i = j
  · subst e
    by_cases hi : i < l.length
    · simp [hi]
    · simp [hi]
  · simp [e]
theorem Inv.acks (h : Inv S c) (hok : c.ok U N) {r q u : Nat} (hr : r < c.reps.length) (_hd : (c.rep r).down = false) (_hu : u ≤ c.last r) (ha : Lo (S r u) (c.top S q)) (near : Nat → Bool) : Inv S (c.setRep r ((c.rep r).ack near q u)) ∧ ∀ j, (c.setRep r ((c.rep r).ack near q u)).top S j = c.top S j := by
  have H := h.reps _ hr
  have hO := hok.rep hr
  refine h.turn hok hr rfl ⟨H.mono, H.log, H.up, fun e he => ?_, fun k h1 h2 => ?_, fun q' hq' => ?_⟩
  · exact H.buf e (List.mem_filter.1 he).1
  · have h1' : max (c.rep r).base (leastAcked near ((c.rep r).acked.set q (max ((c.rep r).acked.getD q 0) u)) (((c.rep r).acked.set q (max ((c.rep r).acked.getD q 0) u)).getD q 0)) ≤ k := h1
    obtain ⟨e, he, hen, hlo⟩ := H.step k (by omega) h2
    exact ⟨e, List.mem_filter.2 ⟨he, decide_eq_true (by omega)⟩, hen, hlo⟩
  · show Lo (S r (((c.rep r).acked.set q (max ((c.rep r).acked.getD q 0) u)).getD q' 0)) _
    rw [getD_setN]
    split
    · rename_i hc
      obtain ⟨rfl, _⟩ := hc
      rcases Nat.le_total ((c.rep r).acked.getD q 0) u with hle | hle
      · rw [Nat.max_eq_right hle]; exact ha
      · rw [Nat.max_eq_left hle]; exact H.ack q hq'
    · exact H.ack q' hq'
/-- A frame that brings a state arrives. -/
theorem Inv.arrive (h : Inv S c) (hok : c.ok U N) {f : Frm} (hf : FInv S (c.top S) f) (h3 : f.kind ≠ 3) (hus : f.upto ≤ c.last f.src) (hr : f.dst < c.reps.length) (hsr : f.src < c.reps.length) (hd : (c.rep f.dst).down = false) {T : List At} (t1 : Lo (c.top S f.dst) T) (t2 : Lo f.d T) (t3 : Lo T (c.top S f.dst ++ f.d)) :
    ∃ S', Inv S' ((c.setRep f.dst ((c.rep f.dst).arrive c.room c.rr f.d f.src)).put ⟨3, f.dst, f.src, f.upto, []⟩) ∧ (S' = if fresh f.d (c.rep f.dst).atoms = [] then S else S.add f.dst (c.last f.dst + 1) T) ∧ ∀ j, Lo (c.top S j) (((c.setRep f.dst ((c.rep f.dst).arrive c.room c.rr f.d f.src)).put ⟨3, f.dst, f.src, f.upto, []⟩).top S' j) := by
  have H := h.reps _ hr
  have hu := H.up hd
  obtain ⟨g1, g2⟩ := hf.1 h3
  refine ⟨_, ?_, rfl, ?_⟩
  all_goals
    unfold Rep.arrive
    by_cases hn : fresh f.d (c.rep f.dst).atoms = []
    · simp only [if_pos hn]
      have h2 := h.turn hok (p := c.rep f.dst) hr rfl H
      first
      | (refine h2.1.put ⟨fun e => absurd rfl e, fun _ => ?_⟩
         show Lo (S f.src f.upto) ((c.setRep f.dst (c.rep f.dst)).top S f.dst)
         rw [h2.2]
         exact g2.trans (Lo.app (((fresh_nil _ _).1 hn).trans hu.1) (Lo.refl _)))
      | (intro j
         rw [put_top, h2.2]
         exact Lo.refl _)
    · simp only [if_neg hn]
      have hx : ∀ d, Lo d f.d → Lo f.d (d ++ (c.rep f.dst).atoms) → Inv (S.add f.dst (c.last f.dst + 1) T) (c.setRep f.dst ((c.rep f.dst).take c.room d f.src)) ∧ ∀ q, Lo (c.top S q) ((c.setRep f.dst ((c.rep f.dst).take c.room d f.src)).top (S.add f.dst (c.last f.dst + 1) T) q) := by
        intro d k1 k2
        refine h.take hok hr hd t1 (k1.trans t2) (t3.trans (Lo.app (lo_left _ _) (k2.trans (Lo.app (lo_right _ _) (hu.1.left _))))) (.inr ?_)
        refine k1.trans (g1.trans ((h.reps _ hsr).mono _ _ hus (Nat.le_refl _)))
      have hy : Inv (S.add f.dst (c.last f.dst + 1) T) (c.setRep f.dst ((c.rep f.dst).take c.room (if c.rr then fresh f.d (c.rep f.dst).atoms else f.d) f.src)) ∧ ∀ q, Lo (c.top S q) ((c.setRep f.dst ((c.rep f.dst).take c.room (if c.rr then fresh f.d (c.rep f.dst).atoms else f.d) f.src)).top (S.add f.dst (c.last f.dst + 1) T) q) := by
        cases c.rr
        · exact hx _ (Lo.refl _) (lo_left _ _)
        · exact hx _ (fresh_lo _ _) (lo_fresh _ _)
      first
      | (refine hy.1.put ⟨fun e => absurd rfl e, fun _ => ?_⟩
         show Lo (S.add f.dst (c.last f.dst + 1) T f.src f.upto) _
         rw [add_upto S c f.dst T f.src _ hus]
         have hnl : c.last f.dst = (c.rep f.dst).num := ((hok.rep hr).up hd).symm
         have hT : (c.setRep f.dst ((c.rep f.dst).take c.room (if c.rr then fresh f.d (c.rep f.dst).atoms else f.d) f.src)).top (S.add f.dst (c.last f.dst + 1) T) f.dst = T := by
           unfold Clu.top
           rw [last_setRep c f.dst f.dst _ hr, if_pos rfl, take_log, lastNum_app, hnl, add_at]
         show Lo _ ((c.setRep f.dst ((c.rep f.dst).take c.room (if c.rr then fresh f.d (c.rep f.dst).atoms else f.d) f.src)).top (S.add f.dst (c.last f.dst + 1) T) f.dst)
         rw [hT]
         exact g2.trans (Lo.app t2 t1))
      | (intro j
         rw [put_top]
         exact hy.2 j)
end
end Go.Proofs.YtahdlejgjcjeoabGreatDoor
