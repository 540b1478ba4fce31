/- Where a play stands; the calls of it. -/
import Derived.Test.YtahdlejgjcjeoabGreatDoorM28
import Derived.Test.YtahdlejgjcjeoabGreatDoorM30
import Derived.Test.YtahdlejgjcjeoabGreatDoorM27
import Derived.Test.YtahdlejgjcjeoabGreatDoorM06
import Derived.Test.YtahdlejgjcjeoabGreatDoorM09
import Derived.Test.YtahdlejgjcjeoabGreatDoorM29
namespace Go.Proofs.YtahdlejgjcjeoabGreatDoor
open Go.RowKit

/-- Is there an edge between two? -/
def nearE (es : List (Int × Int)) (a b : Int) : Bool := es.any fun e => decide ((e.1 = a ∧ e.2 = b) ∨ (e.1 = b ∧ e.2 = a))
theorem linkAll_near {n : Nat} : ∀ (l : List (Int × Int)) (f F : Nat → Nat → Bool), linkAll n f l = some F → ∀ i j : Nat, F i j = (f i j || nearE l i j)
  | [], f, F, h, i, j => by
    rw [linkAll] at h
    cases h
    simp [nearE]
  | p :: l, f, F, h, i, j => by
    rw [linkAll] at h
    split at h
    · rename_i he
      unfold edgeOk at he
      simp only [Bool.and_eq_true, decide_eq_true_eq] at he
      rw [linkAll_near l _ F h i j]
      unfold addE nearE
      rw [List.any_cons, ← Bool.or_assoc]
      congr 1
      rw [Bool.or_assoc]
      congr 1
      rw [Bool.eq_iff_iff]
      simp only [Bool.or_eq_true, Bool.and_eq_true, decide_eq_true_eq]
      omega
    · cases h
section
variable {Z : Snap} {w w' : World} {P x N : Nat} {g : Cf} {c : Clu} {D : List Bool} {L : List (List At)} {U : List At} {es : List (Int × Int)}

set_option maxRecDepth 100000 in
set_option maxHeartbeats 2000000 in
theorem Pm.lNear (h : Pm Z w P x g c D L) (he : EdgesOf w g.ev es) (hel : es.length ≤ 1048576) (a b : Int) :
    Calls Tryz.prog 48 #[.pointer (some ⟨P, 0, none⟩), .int .i64 a, .int .i64 b] w fun e w' => e = .returned (.bool (nearE es a b)) ∧ Below w.heap.size w w' := by
  obtain ⟨ad, cap, hev, -, HH⟩ := he
  have HC2 : Hid (∀ W, Below w.heap.size w W → W.cell? ⟨P, 2, none⟩ = some (.slice ad es.length cap)) := fun W hW => by rw [← hev]; exact (h.same hW).cell2
  have HR : Hid (0 < es.length → ∃ b off, ad = some ⟨b, off, none⟩ ∧ b < w.heap.size ∧ ∀ i (h : i < es.length), w.cell? ⟨b, off + i * 2, none⟩ = some (.int .i64 es[i].1) ∧ w.cell? ⟨b, off + i * 2 + 1, none⟩ = some (.int .i64 es[i].2)) := HH
  obtain ⟨B, hB⟩ : ∃ B, Hid (nearE es a b = B) := ⟨_, rfl⟩
  rw [hB.out]
  clear h HH hev
  by_cases hab : a = b
  · subst hab
    go_enter Tryz.func48, Tryz.ntmps48
    go_wp2
    go_loopw [7] (fun j wr => ∃ k : Nat, k ≤ es.length ∧ j = .int .i64 k ∧ Hid (nearE (es.take k) a a = false) ∧ Below w.heap.size w wr) (fun j _ => es.length - (intOf j).toNat)
    case atStart => exact ⟨0, Nat.zero_le _, rfl, rfl, by first | exact Below.refl _ _ | exact below_alloc (Below.refl _ _) _⟩
    case round =>
      obtain ⟨k, hk, rfl, hn, hbw⟩ := hrel
      have c2 := HC2.out _ hbw
      by_cases hl : k < es.length
      · obtain ⟨bb, off, rfl, hb, hrow⟩ := HR.out (by omega)
        obtain ⟨e0, e1⟩ := hrow k hl
        have d0 := cell_kept e0 hbw
        have d1 := cell_kept e1 hbw
        have q1 : (0 : Int) ≤ (k : Int) := by omega
        have q2 : (k : Int) < (es.length : Int) := by omega
        have HST : Hid (nearE (es.take (k + 1)) a a = decide ((es[k].1 = a ∧ es[k].2 = a) ∨ (es[k].1 = a ∧ es[k].2 = a))) := by
          show nearE _ _ _ = _
          rw [List.take_succ_eq_append_getElem hl]
          unfold nearE
          rw [List.any_append]
          have := hn.out
          unfold nearE at this
          rw [this]
          simp
        have HIN : Hid (decide ((es[k].1 = a ∧ es[k].2 = a) ∨ (es[k].1 = a ∧ es[k].2 = a)) = true → B = true) := fun h => by
          rw [← hB.out]
          unfold nearE
          rw [List.any_eq_true]
          exact ⟨es[k], List.getElem_mem hl, h⟩
        clear hrow e0 e1 HR hn
        generalize es[k].1 = ea at *
        generalize es[k].2 = eb at *
        go_wp2
        all_goals first
          | (refine ⟨⟨k + 1, by omega, by go_num, ?_, below_alloc hbw _⟩, by simp [intOf]; omega⟩
             exact HST.out.trans (by simp_all))
          | (go_ret
             exact ⟨by rw [HIN.out (by simp_all)]; rfl, below_alloc hbw _⟩)
      · have hBf : B = false := by
          rw [← hB.out]
          have := hn.out
          rwa [List.take_of_length_le (by omega)] at this
        subst hBf
        have q2 : ¬ (k : Int) < (es.length : Int) := by omega
        go_wp2
        go_ret
        exact ⟨rfl, hbw⟩
  · go_enter Tryz.func48, Tryz.ntmps48
    go_wp2
    go_loopw [7] (fun j wr => ∃ k : Nat, k ≤ es.length ∧ j = .int .i64 k ∧ Hid (nearE (es.take k) a b = false) ∧ Below w.heap.size w wr) (fun j _ => es.length - (intOf j).toNat)
    case atStart => exact ⟨0, Nat.zero_le _, rfl, rfl, by first | exact Below.refl _ _ | exact below_alloc (Below.refl _ _) _⟩
    case round =>
      obtain ⟨k, hk, rfl, hn, hbw⟩ := hrel
      have c2 := HC2.out _ hbw
      by_cases hl : k < es.length
      · obtain ⟨bb, off, rfl, hb, hrow⟩ := HR.out (by omega)
        obtain ⟨e0, e1⟩ := hrow k hl
        have d0 := cell_kept e0 hbw
        have d1 := cell_kept e1 hbw
        have q1 : (0 : Int) ≤ (k : Int) := by omega
        have q2 : (k : Int) < (es.length : Int) := by omega
        have HST : Hid (nearE (es.take (k + 1)) a b = decide ((es[k].1 = a ∧ es[k].2 = b) ∨ (es[k].1 = b ∧ es[k].2 = a))) := by
          show nearE _ _ _ = _
          rw [List.take_succ_eq_append_getElem hl]
          unfold nearE
          rw [List.any_append]
          have := hn.out
          unfold nearE at this
          rw [this]
          simp
        have HIN : Hid (decide ((es[k].1 = a ∧ es[k].2 = b) ∨ (es[k].1 = b ∧ es[k].2 = a)) = true → B = true) := fun h => by
          rw [← hB.out]
          unfold nearE
          rw [List.any_eq_true]
          exact ⟨es[k], List.getElem_mem hl, h⟩
        clear hrow e0 e1 HR hn
        generalize es[k].1 = ea at *
        generalize es[k].2 = eb at *
        go_wp2
        all_goals first
          | (refine ⟨⟨k + 1, by omega, by go_num, ?_, below_alloc hbw _⟩, by simp [intOf]; omega⟩
             exact HST.out.trans (by simp_all))
          | (go_ret
             exact ⟨by rw [HIN.out (by simp_all)]; rfl, below_alloc hbw _⟩)
      · have hBf : B = false := by
          rw [← hB.out]
          have := hn.out
          rwa [List.take_of_length_le (by omega)] at this
        subst hBf
        have q2 : ¬ (k : Int) < (es.length : Int) := by omega
        go_wp2
        go_ret
        exact ⟨rfl, hbw⟩

theorem sendErr_of {c : Clu} {r q : Nat} (hr : r < c.reps.length) (hq : q < c.reps.length) : c.sendErr r q = if c.near r q = false then 7 else if (c.rep r).down then 8 else 0 := by
  unfold Clu.sendErr Clu.there
  simp [hr, hq]
theorem send_down (c : Clu) (r q : Int) (hr : r.toNat < c.reps.length) : ∀ j, ((c.send r q).rep j).down = (c.rep j).down := fun j => by
  unfold Clu.send
  split
  · unfold Clu.sent
    rw [show ∀ (c : Clu) (f : Frm), (c.put f).rep j = c.rep j from fun c f => by unfold Clu.put; split <;> rfl, rep_setRep c r.toNat j _ hr]
    split
    · rename_i e; rw [e]
    · rfl
  · rfl

set_option maxRecDepth 100000 in
set_option maxHeartbeats 2000000 in
theorem Pm.lSend (h : Pm Z w P x g c D L) (hok : c.ok U N) (hL : Lim U N) (hi : c.inv) (ht : Tells c D) (he : ∀ W c' D' L', Pm Z W P x g c' D' L' → EdgesOf W g.ev es) (hel : es.length ≤ 1048576) (hne : ∀ i j : Nat, c.near i j = nearE es i j) {r q : Nat} (hr : r < g.n) (hq : q < g.n) :
    Calls Tryz.prog 96 #[.pointer (some ⟨P, 0, none⟩), .int .i64 r, .int .i64 q] w fun e w' => e = .returned (.bool true) ∧ Pm Z w' P x g (c.send r q) D L := by
  have hrc : r < c.reps.length := by rw [h.len]; exact hr
  have hqc : q < c.reps.length := by rw [h.len]; exact hq
  have htr := ht r hrc
  have hse := sendErr_of hrc hqc
  have HP := Hid.mk (h.pSend hok hL hi r q)
  have HNE := Hid.mk (fun W (hW : Pm Z W P x g (c.send r q) D L) => hW.lNear (he _ _ _ _ hW) hel r q)
  rw [← hne] at HNE
  have c0 := h.cell0
  have hn6 : g.n ≤ 6 := by rw [← h.len]; exact hok.n6
  have q0 : (0 : Int) ≤ (r : Int) := by omega
  have q1 : (r : Int) < (g.n : Int) := by omega
  clear h hok hL hi ht he hne
  generalize c.send r q = cs at *
  have HE := Hid.mk hse
  clear hse
  generalize c.sendErr r q = E at *
  generalize c.near r q = nr at *
  generalize (c.rep r).down = dn at *
  go_enter Tryz.func96, Tryz.ntmps96
  go_wp2_with fail
  refine HP.out.mono ?_
  rintro e w1 ⟨rfl, h1⟩
  have HN1 := Hid.mk h1
  clear h1 HP
  go_wp2_with fail
  refine (HNE.out _ HN1.out).mono ?_
  rintro e w2 ⟨rfl, hb2⟩
  have HN2 := Hid.mk (HN1.out.same hb2)
  obtain ⟨dB, dcap, c6, d0, -⟩ := HN2.out.downC hr
  rw [htr] at d0
  clear HNE HN1 hb2 c0 htr
  cases nr <;> cases dn
  · have he : E = 7 := HE.out
    subst he
    clear HE
    go_wp2
    go_ret
    exact ⟨rfl, HN2.out⟩
  · have he : E = 7 := HE.out
    subst he
    clear HE
    go_wp2
    go_ret
    exact ⟨rfl, HN2.out⟩
  · have he : E = 0 := HE.out
    subst he
    clear HE
    go_wp2
    go_ret
    exact ⟨rfl, HN2.out⟩
  · have he : E = 8 := HE.out
    subst he
    clear HE
    go_wp2
    go_ret
    exact ⟨rfl, HN2.out⟩
end
end Go.Proofs.YtahdlejgjcjeoabGreatDoor

namespace Go.Proofs.YtahdlejgjcjeoabGreatDoor

/-- A replica has an atom for good. -/
def Clu.hasA (c : Clu) (r : Nat) (x : At) : Prop := Lo [x] (c.rep r).dur
theorem lo_prime {x : At} {l m : List At} (h : Lo [x] (l ++ m)) : Lo [x] l ∨ Lo [x] m := by
  obtain ⟨y, hy, hp, hg⟩ := h x (by simp)
  have key : ∀ n : List At, y ∈ n → Lo [x] n := fun n hn z hz => by
    obtain rfl : z = x := by simpa using hz
    exact ⟨y, hn, hp, hg⟩
  rcases List.mem_append.1 hy with hy | hy
  · exact .inl (key _ hy)
  · exact .inr (key _ hy)
theorem lo_of_has {l m : List At} (h : ∀ x, Lo [x] l → Lo [x] m) : Lo l m := fun x hx =>
  h x (Lo.sub fun z hz => by obtain rfl : z = x := by simpa using hz
                             exact hx) x (by simp)
/-- All are up, and nothing is in flight. -/
structure Quiet (c : Clu) : Prop where
  up : ∀ r, r < c.reps.length → (c.rep r).down = false
  net : c.net = []
/-- What has come of c. D: who has sent to whom. -/
structure Spread (c c' : Clu) (D : Nat → Nat → Prop) : Prop where
  len : c'.reps.length = c.reps.length
  near : c'.near = c.near
  quiet : Quiet c'
  inv : c'.inv
  more : ∀ j x, j < c.reps.length → c.hasA j x → c'.hasA j x
  gain : ∀ r q x, D r q → c.hasA r x → c'.hasA q x
  clos : ∀ (X : Nat → Prop) x, (∀ r q, r < c.reps.length → q < c.reps.length → c.near r q = true → X r → X q) → (∀ j, j < c.reps.length → c.hasA j x → X j) → ∀ j, j < c.reps.length → c'.hasA j x → X j
theorem Spread.refl {c : Clu} (h : Quiet c) (hi : c.inv) : Spread c c (fun _ _ => False) :=
  ⟨rfl, rfl, h, hi, fun _ _ _ h => h, fun _ _ _ h => h.elim, fun _ _ _ h => h⟩

def Clu.over (c : Clu) (r q : Nat) : Clu := ((c.send r q).deliver 0).deliver 0
theorem arrive_dur {room : Nat} {rr : Bool} {p : Rep} {d : List At} {org : Nat} (h : Lo p.atoms p.dur ∧ Lo p.dur p.atoms) : Lo p.dur (p.arrive room rr d org).dur ∧ Lo d (p.arrive room rr d org).dur ∧ Lo (p.arrive room rr d org).dur (p.dur ++ d) := by
  unfold Rep.arrive
  split
  · rename_i hn
    exact ⟨Lo.refl _, ((fresh_nil _ _).1 hn).trans h.1, lo_left _ _⟩
  · have key : ∀ d', Lo d' d → Lo d (d' ++ p.atoms) → Lo p.dur (p.take room d' org).dur ∧ Lo d (p.take room d' org).dur ∧ Lo (p.take room d' org).dur (p.dur ++ d) := by
      intro d' k1 k2
      have e : (p.take room d' org).dur = p.dur ++ d' := by unfold Rep.dur; rw [take_log, dur_app]
      rw [e]
      exact ⟨lo_left _ _, k2.trans ((lo_right _ _).app (h.1.left _)), (lo_left _ _).app (k1.right _)⟩
    split
    · exact key _ (fresh_lo _ _) (lo_fresh _ _)
    · exact key _ (Lo.refl _) (lo_left _ _)
theorem arrive_down (room : Nat) (rr : Bool) (p : Rep) (d : List At) (org : Nat) : (p.arrive room rr d org).down = p.down := by
  unfold Rep.arrive
  split
  · rfl
  · exact take_down _ _ _ _
theorem rep_put (c : Clu) (f : Frm) (j : Nat) : (c.put f).rep j = c.rep j := by unfold Clu.put; split <;> rfl
theorem near_put (c : Clu) (f : Frm) : (c.put f).near = c.near := by unfold Clu.put; split <;> rfl

/-- A frame goes over, and what comes back too. -/
structure Over (c : Clu) (r q : Nat) : Prop where
  err : c.sendErr r q = 0
  n1 : (c.send r q).net.length = 1
  n2 : ((c.send r q).deliver 0).net.length = 1
  quiet : Quiet (c.over r q)
  inv : (c.over r q).inv
  len : (c.over r q).reps.length = c.reps.length
  near : (c.over r q).near = c.near
  dur : ∀ j, j < c.reps.length → Lo (c.rep j).dur ((c.over r q).rep j).dur
  gain : Lo (c.rep r).dur ((c.over r q).rep q).dur
  top : Lo ((c.over r q).rep q).dur ((c.rep q).dur ++ (c.rep r).dur)
  oth : ∀ j, j ≠ q → ((c.over r q).rep j).dur = (c.rep j).dur
theorem over_is {c : Clu} {U : List At} {N : Nat} (h : c.inv) (hok : c.ok U N) (hq : Quiet c) {r q : Nat} (hr : r < c.reps.length) (hqq : q < c.reps.length) (hn : c.near r q = true) : Over c r q := by
  have hir := h.up hr (hq.up r hr)
  have hiq := h.up hqq (hq.up q hqq)
  have hi3 := ((h.send hok r q).1.deliver (hok.send r q) 0).1.deliver ((hok.send r q).deliver 0) 0 |>.1
  obtain ⟨S, hS⟩ := h
  have hE : c.sendErr (r : Int) (q : Int) = 0 := by
    unfold Clu.sendErr Clu.there
    simp [hr, hqq, hn, hq.up r hr]
  have hF := hS.sent hok hr hqq (hq.up r hr)
  obtain ⟨f1, f2, f3, f4⟩ := frame_head (c.rep r) c.bp r q
  obtain ⟨g1, g2⟩ := hF.1 f4
  rw [f1, f2] at g1
  rw [f1, f2, f3] at g2
  have hO := hok.rep hr
  have hnl : c.last r = (c.rep r).num := (hO.up (hq.up r hr)).symm
  have ht : c.top S r = S r (c.rep r).num := by unfold Clu.top; rw [hnl]
  rw [← ht] at g1 g2
  have hg1 : Lo ((c.rep r).frame c.bp r q).d (c.rep r).dur := g1.trans (hS.reps r hr).log.2
  have hg2 : Lo (c.rep r).dur (((c.rep r).frame c.bp r q).d ++ (c.rep q).dur) := (hS.reps r hr).log.1.trans (g2.trans ((Lo.refl _).both (hS.reps q hqq).log.2))
  generalize hf : (c.rep r).frame c.bp r q = f at *
  generalize hp : ({ c.rep r with frames := (c.rep r).frames + 1, weight := (c.rep r).weight + f.d.length } : Rep) = p at *
  have hc1 : c.send r q = { c.setRep r p with net := [f] } := by
    unfold Clu.send
    rw [if_pos hE]
    unfold Clu.sent
    simp only [Int.toNat_natCast]
    rw [hf, hp]
    unfold Clu.put
    have : (c.setRep r p).net = [] := hq.net
    rw [this]
    rfl
  have hpd : p.dur = (c.rep r).dur := by rw [← hp]; rfl
  have hpa : p.atoms = (c.rep r).atoms := by rw [← hp]
  have hpn : p.down = false := by rw [← hp]; exact hq.up r hr
  have hrep1 : ∀ j, ({ c.setRep r p with net := ([] : List Frm) } : Clu).rep j = if j = r then p else c.rep j := fun j => rep_setRep c r j p hr
  generalize hc : ({ c.setRep r p with net := ([] : List Frm) } : Clu) = c1 at *
  have hl1 : c1.reps.length = c.reps.length := by rw [← hc]; exact len_setRep _ _ _
  have hn1 : c1.near = c.near := by rw [← hc]; rfl
  have hnet1 : c1.net = [] := by rw [← hc]
  have hdur1 : ∀ j, (c1.rep j).dur = (c.rep j).dur := fun j => by
    rw [hrep1]
    split
    · rename_i e; rw [e, hpd]
    · rfl
  have hup1 : ∀ j, j < c.reps.length → (c1.rep j).down = false := fun j hj => by
    rw [hrep1]
    split
    · exact hpn
    · exact hq.up j hj
  have hat1 : (c1.rep q).atoms = (c.rep q).atoms := by
    rw [hrep1]
    split
    · rename_i e; rw [e, hpa]
    · rfl
  have hs1 : (c.send r q).deliver 0 = c1.arrived f := by
    unfold Clu.deliver
    rw [hc1]
    have : ({ c.setRep r p with net := [f] } : Clu).has 0 = true := by simp [Clu.has]
    rw [if_pos this]
    have e1 : ({ c.setRep r p with net := [f] } : Clu).out (0 : Int).toNat = c1 := by rw [← hc]; rfl
    have e2 : ({ c.setRep r p with net := [f] } : Clu).frm (0 : Int).toNat = f := rfl
    rw [e1, e2]
  have hs2 : c1.arrived f = { c1.setRep q ((c1.rep q).arrive c1.room c1.rr f.d f.src) with net := [⟨3, q, r, f.upto, []⟩] } := by
    unfold Clu.arrived
    rw [f3, hup1 q hqq, if_neg (by simp), if_neg f4]
    unfold Clu.put
    have : (c1.setRep q ((c1.rep q).arrive c1.room c1.rr f.d f.src)).net = [] := hnet1
    rw [this, f2]
    rfl
  have hA := arrive_dur (room := c1.room) (rr := c1.rr) (p := c1.rep q) (d := f.d) (org := f.src) (by rw [hat1, hdur1]; exact hiq)
  have hAd := arrive_down c1.room c1.rr (c1.rep q) f.d f.src
  generalize (c1.rep q).arrive c1.room c1.rr f.d f.src = pq at *
  rw [hup1 q hqq] at hAd
  rw [hdur1] at hA
  have hq1 : q < c1.reps.length := by rw [hl1]; exact hqq
  have hrep2 : ∀ j, ({ c1.setRep q pq with net := ([] : List Frm) } : Clu).rep j = if j = q then pq else c1.rep j := fun j => rep_setRep c1 q j pq hq1
  have hs3 : (c1.arrived f).deliver 0 = ({ c1.setRep q pq with net := ([] : List Frm) } : Clu).arrived ⟨3, q, r, f.upto, []⟩ := by
    unfold Clu.deliver
    rw [hs2]
    have : ({ c1.setRep q pq with net := [(⟨3, q, r, f.upto, []⟩ : Frm)] } : Clu).has 0 = true := by simp [Clu.has]
    rw [if_pos this]
    rfl
  generalize hc2 : ({ c1.setRep q pq with net := ([] : List Frm) } : Clu) = c2 at *
  have hl2 : c2.reps.length = c.reps.length := by rw [← hc2]; exact (len_setRep c1 q pq).trans hl1
  have hn2 : c2.near = c.near := by rw [← hc2]; exact hn1
  have hnet2 : c2.net = [] := by rw [← hc2]
  have hup2 : ∀ j, j < c.reps.length → (c2.rep j).down = false := fun j hj => by
    rw [hrep2]
    split
    · exact hAd
    · exact hup1 j hj
  have hs4 : c2.arrived ⟨3, q, r, f.upto, []⟩ = c2.setRep r ((c2.rep r).ack (c2.near r) q f.upto) := by
    unfold Clu.arrived
    simp only
    rw [hup2 r hr, if_neg (by simp), if_pos trivial]
  have hov : c.over r q = c2.setRep r ((c2.rep r).ack (c2.near r) q f.upto) := by
    unfold Clu.over
    rw [hs1, hs3, hs4]
  have hi3' : (c.over r q).inv := hi3
  have hr2 : r < c2.reps.length := by rw [hl2]; exact hr
  have hrep3 : ∀ j, ((c.over r q).rep j).dur = (c2.rep j).dur ∧ ((c.over r q).rep j).down = (c2.rep j).down := fun j => by
    rw [hov, rep_setRep c2 r j _ hr2]
    split
    · rename_i e; subst e; exact ⟨rfl, rfl⟩
    · exact ⟨rfl, rfl⟩
  have hd2 : ∀ j, (c2.rep j).dur = if j = q then pq.dur else (c.rep j).dur := fun j => by
    rw [hrep2]
    split
    · rfl
    · exact hdur1 j
  refine ⟨hE, by rw [hc1]; rfl, by rw [hs1, hs2]; rfl, ⟨fun j hj => ?_, ?_⟩, hi3', ?_, ?_, fun j hj => ?_, ?_, ?_, fun j hj => ?_⟩
  · rw [(hrep3 j).2]
    refine hup2 j ?_
    rw [hov, len_setRep, hl2] at hj
    exact hj
  · rw [hov]; exact hnet2
  · rw [hov, len_setRep, hl2]
  · rw [hov]; exact hn2
  · rw [(hrep3 j).1, hd2]
    split
    · rename_i e; subst e; exact hA.1
    · exact Lo.refl _
  · rw [(hrep3 q).1, hd2, if_pos rfl]
    exact hg2.trans (hA.2.1.app hA.1)
  · rw [(hrep3 q).1, hd2, if_pos rfl]
    exact hA.2.2.trans ((Lo.refl _).both hg1)
  · rw [(hrep3 j).1, hd2, if_neg hj]

theorem Spread.step {c c' : Clu} {D : Nat → Nat → Prop} (h : Spread c c' D) {r q : Nat} (hr : r < c.reps.length) (hq : q < c.reps.length) (hn : c.near r q = true) (ho : Over c' r q) : Spread c (c'.over r q) (fun a b => D a b ∨ (a = r ∧ b = q)) where
  len := ho.len.trans h.len
  near := ho.near.trans h.near
  quiet := ho.quiet
  inv := ho.inv
  more j x hj hx := (h.more j x hj hx).trans (ho.dur j (by rw [h.len]; exact hj))
  gain a b x hD hx := by
    rcases hD with hD | ⟨rfl, rfl⟩
    · have := h.gain a b x hD hx
      by_cases hb : b < c'.reps.length
      · exact this.trans (ho.dur b hb)
      · have e : b ≠ q := fun e => hb (by rw [e, h.len]; exact hq)
        unfold Clu.hasA
        rw [ho.oth b e]
        exact this
    · exact (h.more a x hr hx).trans ho.gain
  clos X x hX h0 j hj hx := by
    by_cases e : j = q
    · subst e
      rcases lo_prime (hx.trans ho.top) with k | k
      · exact h.clos X x hX h0 j hj k
      · exact hX r j hr hj hn (h.clos X x hX h0 r hr k)
    · unfold Clu.hasA at hx
      rw [ho.oth j e] at hx
      exact h.clos X x hX h0 j hj hx

theorem few_below : ∀ (n : Nat) (l : List Nat), l.Nodup → (∀ r ∈ l, r < n) → l.length ≤ n
  | 0, l, _, h => by
    cases l with
    | nil => exact Nat.le_refl _
    | cons a _ => exact absurd (h a (by simp)) (Nat.not_lt_zero a)
  | n + 1, l, hn, h => by
    have h1 := few_below n (l.erase n) (hn.erase n) (fun r hr => by
      have h2 := h r (List.mem_of_mem_erase hr)
      have h3 : r ≠ n := fun e => by
        subst e
        exact ((hn.mem_erase_iff).1 hr).1 rfl
      omega)
    have := List.length_erase_le (a := n) (l := l)
    by_cases hm : n ∈ l
    · rw [List.length_erase_of_mem hm] at h1
      omega
    · rw [List.erase_of_not_mem hm] at h1
      omega
/-- An atom has come wherever it can come to; or more have it than there were rounds. -/
def Came (t : Nat) (c : Clu) : Prop := ∀ x, (∀ r q, r < c.reps.length → q < c.reps.length → c.near r q = true → c.hasA r x → c.hasA q x) ∨ ∃ l : List Nat, l.Nodup ∧ (∀ r ∈ l, r < c.reps.length ∧ c.hasA r x) ∧ t + 1 ≤ l.length
theorem came_zero (c : Clu) : Came 0 c := fun x => by
  by_cases h : ∀ r q, r < c.reps.length → q < c.reps.length → c.near r q = true → c.hasA r x → c.hasA q x
  · exact .inl h
  · right
    simp only [Classical.not_forall] at h
    obtain ⟨r, q, hr, hq, hn, hx, hy⟩ := h
    exact ⟨[r], by simp, fun r' hr' => by
      obtain rfl : r' = r := by simpa using hr'
      exact ⟨hr, hx⟩, Nat.le_refl _⟩
theorem Came.round {t : Nat} {c c' : Clu} {D : Nat → Nat → Prop} (h : Came t c) (hs : Spread c c' D) (hD : ∀ r q, r < c.reps.length → q < c.reps.length → c.near r q = true → D r q) : Came (t + 1) c' := fun x => by
  by_cases hc : ∀ r q, r < c.reps.length → q < c.reps.length → c.near r q = true → c.hasA r x → c.hasA q x
  · left
    intro r q hr hq hn hx
    rw [hs.len] at hr hq
    rw [hs.near] at hn
    exact hs.more q x hq (hc r q hr hq hn (hs.clos (fun j => c.hasA j x) x hc (fun _ _ h => h) r hr hx))
  · right
    obtain ⟨l, h1, h2, h3⟩ := (h x).resolve_left hc
    simp only [Classical.not_forall] at hc
    obtain ⟨r, q, hr, hq, hn, hx, hy⟩ := hc
    refine ⟨q :: l, List.nodup_cons.2 ⟨fun hm => hy (h2 q hm).2, h1⟩, fun r' hr' => ?_, by simp; omega⟩
    rw [hs.len]
    rcases List.mem_cons.1 hr' with rfl | hr'
    · exact ⟨hq, hs.gain r r' x (hD r r' hr hq hn) hx⟩
    · exact ⟨(h2 r' hr').1, hs.more r' x (h2 r' hr').1 (h2 r' hr').2⟩
/-- After as many rounds as there are replicas neighbours have the same. -/
theorem Came.meet {c : Clu} (h : Came c.reps.length c) (hs : ∀ r q, c.near r q = c.near q r) {a b : Nat} (ha : a < c.reps.length) (hb : b < c.reps.length) (hn : c.near a b = true) : Lo (c.rep a).dur (c.rep b).dur ∧ Lo (c.rep b).dur (c.rep a).dur := by
  have key : ∀ x r q, r < c.reps.length → q < c.reps.length → c.near r q = true → c.hasA r x → c.hasA q x := fun x => by
    rcases h x with h | h
    · exact h
    · exfalso
      obtain ⟨l, h1, h2, h3⟩ := h
      have := few_below _ l h1 (fun r hr => (h2 r hr).1)
      omega
  exact ⟨lo_of_has fun x hx => key x a b ha hb hn hx, lo_of_has fun x hx => key x b a hb ha (by rw [hs]; exact hn) hx⟩
end Go.Proofs.YtahdlejgjcjeoabGreatDoor

namespace Go.Proofs.YtahdlejgjcjeoabGreatDoor
open Go.RowKit
theorem deliver_keep (c : Clu) (k : Int) (hok : ∀ f ∈ c.net, f.dst < c.reps.length) : (c.deliver k).near = c.near ∧ ∀ q, ((c.deliver k).rep q).down = (c.rep q).down := by
  unfold Clu.deliver
  split
  · rename_i hk
    have hd := hok _ (frm_mem (has_lt hk).2)
    unfold Clu.arrived
    split
    · exact ⟨rfl, fun _ => rfl⟩
    · split
      · refine ⟨rfl, fun q => ?_⟩
        rw [rep_setRep (c.out k.toNat) _ _ _ hd]
        split
        · rename_i e; rw [e]; rfl
        · rfl
      · refine ⟨by rw [near_put]; rfl, fun q => ?_⟩
        rw [rep_put, rep_setRep (c.out k.toNat) _ _ _ hd]
        split
        · rename_i e; rw [e, arrive_down]; rfl
        · rfl
  · exact ⟨rfl, fun _ => rfl⟩
theorem dropF_keep (c : Clu) (k : Int) : (c.dropF k).near = c.near ∧ ∀ q, ((c.dropF k).rep q).down = (c.rep q).down := by
  unfold Clu.dropF
  split <;> exact ⟨rfl, fun _ => rfl⟩
theorem copyF_keep (c : Clu) (k : Int) : (c.copyF k).near = c.near ∧ ∀ q, ((c.copyF k).rep q).down = (c.rep q).down := by
  unfold Clu.copyF
  split
  · exact ⟨near_put _ _, fun q => by rw [rep_put]⟩
  · exact ⟨rfl, fun _ => rfl⟩
/-- Where a play stands. -/
structure Pg (Z : Snap) (w : World) (P x : Nat) (g : Cf) (es : List (Int × Int)) (U : List At) (N : Nat) (c : Clu) : Prop where
  pm : ∃ D, (∃ L, Pm Z w P x g c D L) ∧ Tells c D
  ok : c.ok U N
  inv : c.inv
  far : c.far
  nr : ∀ i j : Nat, c.near i j = nearE es i j
  ed : (∀ W c' D' L', Pm Z W P x g c' D' L' → EdgesOf W g.ev es) ∧ es.length ≤ 1048576
section
variable {Z : Snap} {w w' : World} {P x N : Nat} {g : Cf} {c : Clu} {U : List At} {es : List (Int × Int)}
theorem Pg.len (h : Pg Z w P x g es U N c) : c.reps.length = g.n := by
  obtain ⟨D, ⟨L, hp⟩, -⟩ := h.pm
  exact hp.len
theorem Pg.same (h : Pg Z w P x g es U N c) (hb : Below w.heap.size w w') : Pg Z w' P x g es U N c := by
  obtain ⟨D, ⟨L, hp⟩, ht⟩ := h.pm
  exact ⟨⟨D, ⟨L, hp.same hb⟩, ht⟩, h.ok, h.inv, h.far, h.nr, h.ed⟩
theorem Pg.later {N' : Nat} (h : Pg Z w P x g es U N c) (hN : N ≤ N') : Pg Z w P x g es U N' c := ⟨h.pm, h.ok.later hN, h.inv, h.far, h.nr, h.ed⟩
theorem Pg.cells (h : Pg Z w P x g es U N c) : w.cell? ⟨P, 0, none⟩ = some (.pointer (some ⟨x, 0, none⟩)) ∧ w.cell? ⟨P, 1, none⟩ = some (.int .i64 g.n) := by
  obtain ⟨D, ⟨L, hp⟩, -⟩ := h.pm
  exact ⟨hp.cell0, hp.cell1⟩
theorem Pg.ltP (h : Pg Z w P x g es U N c) : P < w.heap.size := by
  obtain ⟨D, ⟨L, hp⟩, -⟩ := h.pm
  exact hp.ltP
/-- Blocks that have come anew stay. -/
theorem Pg.rebase {w1 : World} (h : Pg Z w P x g es U N c) (hb : Below w.heap.size w w1) : ∃ Z' : Snap, Pg Z' w1 P x g es U N c ∧ ∀ (w' : World) (U' : List At) (N' : Nat) (c' : Clu), Pg Z' w' P x g es U' N' c' → Pg Z w' P x g es U' N' c' ∧ ∀ q, w.heap.size ≤ q → q < w1.heap.size → w'.heap[q]? = w1.heap[q]? := by
  obtain ⟨D, ⟨L, hp⟩, ht⟩ := h.pm
  obtain ⟨Z', h1, -, back⟩ := hp.rebase hb
  refine ⟨Z', ⟨⟨D, ⟨L, h1⟩, ht⟩, h.ok, h.inv, h.far, h.nr, fun W c' D' L' hp' => h.ed.1 _ _ _ _ (back _ _ _ _ hp').1, h.ed.2⟩, fun w' U' N' c' hg => ?_⟩
  obtain ⟨D', ⟨L', hp'⟩, ht'⟩ := hg.pm
  obtain ⟨b1, b2, b3⟩ := back _ _ _ _ hp'
  exact ⟨⟨⟨D', ⟨L', b1⟩, ht'⟩, hg.ok, hg.inv, hg.far, hg.nr, h.ed⟩, b3⟩
theorem Pg.pFlight (h : Pg Z w P x g es U N c) :
    Calls Tryz.prog 12 #[.pointer (some ⟨x, 0, none⟩)] w fun e w' => e = .returned (.int .i64 c.net.length) ∧ Pg Z w' P x g es U N c := by
  obtain ⟨D, ⟨L, hp⟩, ht⟩ := h.pm
  exact hp.pFlight.mono fun e w' ⟨h1, h2⟩ => ⟨h1, ⟨D, ⟨L, h2⟩, ht⟩, h.ok, h.inv, h.far, h.nr, h.ed⟩
theorem Pg.pFrame (h : Pg Z w P x g es U N c) (hL : Lim U N) (k : Int) :
    Calls Tryz.prog 91 #[.pointer (some ⟨x, 0, none⟩), .int .i64 k] w fun e w' => ∃ ad n cp, e = .returned (.tuple #[.agg #[.int .i64 (c.frmAt k).kind, .int .i64 (c.frmAt k).src, .int .i64 (c.frmAt k).dst, .int .i64 (c.frmAt k).upto, .slice ad n cp], .int .i64 (c.netErr k)]) ∧ Pg Z w' P x g es U N c ∧ Below w.heap.size w w' := by
  obtain ⟨D, ⟨L, hp⟩, ht⟩ := h.pm
  exact (hp.pFrame h.ok hL k).mono fun e w' ⟨ad, n, cp, h1, h2, h3⟩ => ⟨ad, n, cp, h1, ⟨⟨D, ⟨L, h2⟩, ht⟩, h.ok, h.inv, h.far, h.nr, h.ed⟩, h3⟩
theorem Pg.pDeliver (h : Pg Z w P x g es U N c) (hL : Lim U N) (k : Int) :
    Calls Tryz.prog 49 #[.pointer (some ⟨x, 0, none⟩), .int .i64 k] w fun e w' => e = .returned (.int .i64 (c.netErr k)) ∧ Pg Z w' P x g es U (N + 1) (c.deliver k) := by
  obtain ⟨D, ⟨L, hp⟩, ht⟩ := h.pm
  obtain ⟨k1, k2⟩ := deliver_keep c k (fun f hf => (h.ok.net f hf).dst)
  exact (hp.pDeliver h.ok hL h.inv h.far k).mono fun e w' ⟨h1, h2⟩ => ⟨h1, ⟨D, ⟨L, h2⟩, ht.same (len_deliver _ _) k2⟩, h.ok.deliver k, (h.inv.deliver h.ok k).1, far_deliver h.far k, fun i j => by rw [k1]; exact h.nr i j, h.ed⟩
theorem Pg.pDrop (h : Pg Z w P x g es U N c) (_hL : Lim U N) (k : Int) :
    Calls Tryz.prog 13 #[.pointer (some ⟨x, 0, none⟩), .int .i64 k] w fun e w' => e = .returned (.int .i64 (c.netErr k)) ∧ Pg Z w' P x g es U (N + 1) (c.dropF k) := by
  obtain ⟨D, ⟨L, hp⟩, ht⟩ := h.pm
  obtain ⟨k1, k2⟩ := dropF_keep c k
  exact (hp.pDrop h.ok h.inv k).mono fun e w' ⟨h1, h2⟩ => ⟨h1, ⟨D, ⟨L, h2⟩, ht.same (len_dropF _ _) k2⟩, (h.ok.dropF k).later (by omega), (h.inv.dropF k).1, far_drop h.far k, fun i j => by rw [k1]; exact h.nr i j, h.ed⟩
theorem Pg.pCopy (h : Pg Z w P x g es U N c) (_hL : Lim U N) (k : Int) :
    Calls Tryz.prog 84 #[.pointer (some ⟨x, 0, none⟩), .int .i64 k] w fun e w' => e = .returned (.int .i64 (c.netErr k)) ∧ Pg Z w' P x g es U (N + 1) (c.copyF k) := by
  obtain ⟨D, ⟨L, hp⟩, ht⟩ := h.pm
  obtain ⟨k1, k2⟩ := copyF_keep c k
  exact (hp.pCopy h.ok h.inv k).mono fun e w' ⟨h1, h2⟩ => ⟨h1, ⟨D, ⟨L, h2⟩, ht.same (len_copyF _ _) k2⟩, (h.ok.copyF k).later (by omega), (h.inv.copyF k).1, far_copy h.far k, fun i j => by rw [k1]; exact h.nr i j, h.ed⟩
theorem Pg.lState (h : Pg Z w P x g es U N c) (hL : Lim U N) {r : Nat} (hr : r < g.n) :
    Calls Tryz.prog 16 #[.pointer (some ⟨P, 0, none⟩), .int .i64 r] w fun e w' => e = .returned (.bool true) ∧ Pg Z w' P x g es U N c := by
  obtain ⟨D, ⟨L, hp⟩, ht⟩ := h.pm
  exact (hp.lState h.ok hL h.inv ht hr).mono fun e w' ⟨h1, h2⟩ => ⟨h1, ⟨D, ⟨_, h2⟩, ht⟩, h.ok, h.inv, h.far, h.nr, h.ed⟩
theorem frmAt_of (hok : c.ok U N) {k : Int} (h0 : 0 ≤ k) (h1 : k < c.net.length) : c.netErr k = 0 ∧ (c.frmAt k).dst < c.reps.length := by
  have hh : c.has k = true := by unfold Clu.has; exact decide_eq_true ⟨h0, h1⟩
  refine ⟨by unfold Clu.netErr; rw [hh]; rfl, ?_⟩
  unfold Clu.frmAt
  rw [hh]
  exact (hok.net _ (frm_mem (has_lt hh).2)).dst
theorem act_cells {w : World} {b : Nat} {k r q n ty sd on : Int} {ky el key : ByteArray} (h : w.heap[b]? = some (actB k r q n ty ky sd el on key)) : w.cell? ⟨b, 0, none⟩ = some (.int .i64 k) ∧ w.cell? ⟨b, 3, none⟩ = some (.int .i64 n) :=
  ⟨(blk_cell h 0).trans rfl, (blk_cell h 3).trans rfl⟩
end
end Go.Proofs.YtahdlejgjcjeoabGreatDoor
