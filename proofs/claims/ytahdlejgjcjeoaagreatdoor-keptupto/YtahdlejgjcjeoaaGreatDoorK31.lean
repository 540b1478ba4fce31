/- Walk of the Player's network. -/
import Derived.Test.YtahdlejgjcjeoaaGreatDoorK28
import Derived.Test.YtahdlejgjcjeoaaGreatDoorK30
import Derived.Test.YtahdlejgjcjeoaaGreatDoorK27
import Derived.Test.YtahdlejgjcjeoaaGreatDoorK06
import Derived.Test.YtahdlejgjcjeoaaGreatDoorK09
import Derived.Test.YtahdlejgjcjeoaaGreatDoorK29
namespace Go.Proofs.YtahdlejgjcjeoaaGreatDoor
open Go.RowKit

/-- Is there an edge between two? -/
def nearE (es : List (Int × Int)) (a b : Int) : Bool := es.any fun e => decide ((e.1 = a ∧ e.2 = b) ∨ (e.1 = b ∧ e.2 = a))
theorem linkAll_near {n : Nat} : ∀ (l : List (Int × Int)) (f F : Nat → Nat → Bool), linkAll n f l = some F → ∀ i j : Nat, F i j = (f i j || nearE l i j)
  | [], f, F, h, i, j => by
    rw [linkAll] at h
    cases h
    simp [nearE]
  | p :: l, f, F, h, i, j => by
    rw [linkAll] at h
    split at h
    · rename_i he
      unfold edgeOk at he
      simp only [Bool.and_eq_true, decide_eq_true_eq] at he
      rw [linkAll_near l _ F h i j]
      unfold addE nearE
      rw [List.any_cons, ← Bool.or_assoc]
      congr 1
      rw [Bool.or_assoc]
      congr 1
      rw [Bool.eq_iff_iff]
      simp only [Bool.or_eq_true, Bool.and_eq_true, decide_eq_true_eq]
      omega
    · cases h
section
variable {Z : Snap} {w w' : World} {P x N : Nat} {g : Cf} {c : Clu} {D : List Bool} {L : List (List At)} {U : List At} {es : List (Int × Int)}

set_option maxRecDepth 100000 in
set_option maxHeartbeats 2000000 in
theorem Pm.lNear (h : Pm Z w P x g c D L) (he : EdgesOf w g.ev es) (hel : es.length ≤ 1048576) (a b : Int) :
    Calls Tryz.prog 98 #[.pointer (some ⟨P, 0, none⟩), .int .i64 a, .int .i64 b] w fun e w' => e = .returned (.bool (nearE es a b)) ∧ Below w.heap.size w w' := by
  obtain ⟨ad, cap, hev, -, HH⟩ := he
  have HC2 : Hid (∀ W, Below w.heap.size w W → W.cell? ⟨P, 2, none⟩ = some (.slice ad es.length cap)) := fun W hW => by rw [← hev]; exact (h.same hW).cell2
  have HR : Hid (0 < es.length → ∃ b off, ad = some ⟨b, off, none⟩ ∧ b < w.heap.size ∧ ∀ i (h : i < es.length), w.cell? ⟨b, off + i * 2, none⟩ = some (.int .i64 es[i].1) ∧ w.cell? ⟨b, off + i * 2 + 1, none⟩ = some (.int .i64 es[i].2)) := HH
  obtain ⟨B, hB⟩ : ∃ B, Hid (nearE es a b = B) := ⟨_, rfl⟩
  rw [hB.out]
  clear h HH hev
  by_cases hab : a = b
  · subst hab
    go_enter Tryz.func98, Tryz.ntmps98
    go_wp2
    go_loopw [7] (fun j wr => ∃ k : Nat, k ≤ es.length ∧ j = .int .i64 k ∧ Hid (nearE (es.take k) a a = false) ∧ Below w.heap.size w wr) (fun j _ => es.length - (intOf j).toNat)
    case atStart => exact ⟨0, Nat.zero_le _, rfl, rfl, by first | exact Below.refl _ _ | exact below_alloc (Below.refl _ _) _⟩
    case round =>
      obtain ⟨k, hk, rfl, hn, hbw⟩ := hrel
      have c2 := HC2.out _ hbw
      by_cases hl : k < es.length
      · obtain ⟨bb, off, rfl, hb, hrow⟩ := HR.out (by omega)
        obtain ⟨e0, e1⟩ := hrow k hl
        have d0 := cell_kept e0 hbw
        have d1 := cell_kept e1 hbw
        have q1 : (0 : Int) ≤ (k : Int) := by omega
        have q2 : (k : Int) < (es.length : Int) := by omega
        have HST : Hid (nearE (es.take (k + 1)) a a = decide ((es[k].1 = a ∧ es[k].2 = a) ∨ (es[k].1 = a ∧ es[k].2 = a))) := by
          show nearE _ _ _ = _
          rw [List.take_succ_eq_append_getElem hl]
          unfold nearE
          rw [List.any_append]
          have := hn.out
          unfold nearE at this
          rw [this]
          simp
        have HIN : Hid (decide ((es[k].1 = a ∧ es[k].2 = a) ∨ (es[k].1 = a ∧ es[k].2 = a)) = true → B = true) := fun h => by
          rw [← hB.out]
          unfold nearE
          rw [List.any_eq_true]
          exact ⟨es[k], List.getElem_mem hl, h⟩
        clear hrow e0 e1 HR hn
        generalize es[k].1 = ea at *
        generalize es[k].2 = eb at *
        go_wp2
        all_goals first
          | (refine ⟨⟨k + 1, by omega, by go_num, ?_, below_alloc hbw _⟩, by simp [intOf]; omega⟩
             exact HST.out.trans (by simp_all))
          | (go_ret
             exact ⟨by rw [HIN.out (by simp_all)]; rfl, below_alloc hbw _⟩)
      · have hBf : B = false := by
          rw [← hB.out]
          have := hn.out
          rwa [List.take_of_length_le (by omega)] at this
        subst hBf
        have q2 : ¬ (k : Int) < (es.length : Int) := by omega
        go_wp2
        go_ret
        exact ⟨rfl, hbw⟩
  · go_enter Tryz.func98, Tryz.ntmps98
    go_wp2
    go_loopw [7] (fun j wr => ∃ k : Nat, k ≤ es.length ∧ j = .int .i64 k ∧ Hid (nearE (es.take k) a b = false) ∧ Below w.heap.size w wr) (fun j _ => es.length - (intOf j).toNat)
    case atStart => exact ⟨0, Nat.zero_le _, rfl, rfl, by first | exact Below.refl _ _ | exact below_alloc (Below.refl _ _) _⟩
    case round =>
      obtain ⟨k, hk, rfl, hn, hbw⟩ := hrel
      have c2 := HC2.out _ hbw
      by_cases hl : k < es.length
      · obtain ⟨bb, off, rfl, hb, hrow⟩ := HR.out (by omega)
        obtain ⟨e0, e1⟩ := hrow k hl
        have d0 := cell_kept e0 hbw
        have d1 := cell_kept e1 hbw
        have q1 : (0 : Int) ≤ (k : Int) := by omega
        have q2 : (k : Int) < (es.length : Int) := by omega
        have HST : Hid (nearE (es.take (k + 1)) a b = decide ((es[k].1 = a ∧ es[k].2 = b) ∨ (es[k].1 = b ∧ es[k].2 = a))) := by
          show nearE _ _ _ = _
          rw [List.take_succ_eq_append_getElem hl]
          unfold nearE
          rw [List.any_append]
          have := hn.out
          unfold nearE at this
          rw [this]
          simp
        have HIN : Hid (decide ((es[k].1 = a ∧ es[k].2 = b) ∨ (es[k].1 = b ∧ es[k].2 = a)) = true → B = true) := fun h => by
          rw [← hB.out]
          unfold nearE
          rw [List.any_eq_true]
          exact ⟨es[k], List.getElem_mem hl, h⟩
        clear hrow e0 e1 HR hn
        generalize es[k].1 = ea at *
        generalize es[k].2 = eb at *
        go_wp2
        all_goals first
          | (refine ⟨⟨k + 1, by omega, by go_num, ?_, below_alloc hbw _⟩, by simp [intOf]; omega⟩
             exact HST.out.trans (by simp_all))
          | (go_ret
             exact ⟨by rw [HIN.out (by simp_all)]; rfl, below_alloc hbw _⟩)
      · have hBf : B = false := by
          rw [← hB.out]
          have := hn.out
          rwa [List.take_of_length_le (by omega)] at this
        subst hBf
        have q2 : ¬ (k : Int) < (es.length : Int) := by omega
        go_wp2
        go_ret
        exact ⟨rfl, hbw⟩

theorem sendErr_of {c : Clu} {r q : Nat} (hr : r < c.reps.length) (hq : q < c.reps.length) : c.sendErr r q = if c.near r q = false then 7 else if (c.rep r).down then 8 else 0 := by
  unfold Clu.sendErr Clu.there
  simp [hr, hq]
theorem send_down (c : Clu) (r q : Int) (hr : r.toNat < c.reps.length) : ∀ j, ((c.send r q).rep j).down = (c.rep j).down := fun j => by
  unfold Clu.send
  split
  · unfold Clu.sent
    rw [show ∀ (c : Clu) (f : Frm), (c.put f).rep j = c.rep j from fun c f => by unfold Clu.put; split <;> rfl, rep_setRep c r.toNat j _ hr]
    split
    · rename_i e; rw [e]
    · rfl
  · rfl

set_option maxRecDepth 100000 in
set_option maxHeartbeats 2000000 in
theorem Pm.lSend (h : Pm Z w P x g c D L) (hok : c.ok U N) (hL : Lim U N) (hi : c.inv) (ht : Tells c D) (he : ∀ W c' D' L', Pm Z W P x g c' D' L' → EdgesOf W g.ev es) (hel : es.length ≤ 1048576) (hne : ∀ i j : Nat, c.near i j = nearE es i j) {r q : Nat} (hr : r < g.n) (hq : q < g.n) :
    Calls Tryz.prog 48 #[.pointer (some ⟨P, 0, none⟩), .int .i64 r, .int .i64 q] w fun e w' => e = .returned (.bool true) ∧ Pm Z w' P x g (c.send r q) D L := by
  have hrc : r < c.reps.length := by rw [h.len]; exact hr
  have hqc : q < c.reps.length := by rw [h.len]; exact hq
  have htr := ht r hrc
  have hse := sendErr_of hrc hqc
  have HP := Hid.mk (h.pSend hok hL hi r q)
  have HNE := Hid.mk (fun W (hW : Pm Z W P x g (c.send r q) D L) => hW.lNear (he _ _ _ _ hW) hel r q)
  rw [← hne] at HNE
  have c0 := h.cell0
  have hn6 : g.n ≤ 6 := by rw [← h.len]; exact hok.n6
  have q0 : (0 : Int) ≤ (r : Int) := by omega
  have q1 : (r : Int) < (g.n : Int) := by omega
  clear h hok hL hi ht he hne
  generalize c.send r q = cs at *
  have HE := Hid.mk hse
  clear hse
  generalize c.sendErr r q = E at *
  generalize c.near r q = nr at *
  generalize (c.rep r).down = dn at *
  go_enter Tryz.func48, Tryz.ntmps48
  go_wp2_with fail
  refine HP.out.mono ?_
  rintro e w1 ⟨rfl, h1⟩
  have HN1 := Hid.mk h1
  clear h1 HP
  go_wp2_with fail
  refine (HNE.out _ HN1.out).mono ?_
  rintro e w2 ⟨rfl, hb2⟩
  have HN2 := Hid.mk (HN1.out.same hb2)
  obtain ⟨dB, dcap, c6, d0, -⟩ := HN2.out.downC hr
  rw [htr] at d0
  clear HNE HN1 hb2 c0 htr
  cases nr <;> cases dn
  · have he : E = 7 := HE.out
    subst he
    clear HE
    go_wp2
    go_ret
    exact ⟨rfl, HN2.out⟩
  · have he : E = 7 := HE.out
    subst he
    clear HE
    go_wp2
    go_ret
    exact ⟨rfl, HN2.out⟩
  · have he : E = 0 := HE.out
    subst he
    clear HE
    go_wp2
    go_ret
    exact ⟨rfl, HN2.out⟩
  · have he : E = 8 := HE.out
    subst he
    clear HE
    go_wp2
    go_ret
    exact ⟨rfl, HN2.out⟩
end
end Go.Proofs.YtahdlejgjcjeoaaGreatDoor

namespace Go.Proofs.YtahdlejgjcjeoaaGreatDoor

theorem arrive_down (room : Nat) (rr : Bool) (p : Rep) (d : List At) (org : Nat) : (p.arrive room rr d org).down = p.down := by
  unfold Rep.arrive
  split
  · rfl
  · exact take_down _ _ _ _
theorem rep_put (c : Clu) (f : Frm) (j : Nat) : (c.put f).rep j = c.rep j := by unfold Clu.put; split <;> rfl
theorem near_put (c : Clu) (f : Frm) : (c.put f).near = c.near := by unfold Clu.put; split <;> rfl

end Go.Proofs.YtahdlejgjcjeoaaGreatDoor

namespace Go.Proofs.YtahdlejgjcjeoaaGreatDoor
open Go.RowKit
theorem deliver_keep (c : Clu) (k : Int) (hok : ∀ f ∈ c.net, f.dst < c.reps.length) : (c.deliver k).near = c.near ∧ ∀ q, ((c.deliver k).rep q).down = (c.rep q).down := by
  unfold Clu.deliver
  split
  · rename_i hk
    have hd := hok _ (frm_mem (has_lt hk).2)
    unfold Clu.arrived
    split
    · exact ⟨rfl, fun _ => rfl⟩
    · split
      · refine ⟨rfl, fun q => ?_⟩
        rw [rep_setRep (c.out k.toNat) _ _ _ hd]
        split
        · rename_i e; rw [e]; rfl
        · rfl
      · refine ⟨by rw [near_put]; rfl, fun q => ?_⟩
        rw [rep_put, rep_setRep (c.out k.toNat) _ _ _ hd]
        split
        · rename_i e; rw [e, arrive_down]; rfl
        · rfl
  · exact ⟨rfl, fun _ => rfl⟩
theorem dropF_keep (c : Clu) (k : Int) : (c.dropF k).near = c.near ∧ ∀ q, ((c.dropF k).rep q).down = (c.rep q).down := by
  unfold Clu.dropF
  split <;> exact ⟨rfl, fun _ => rfl⟩
theorem copyF_keep (c : Clu) (k : Int) : (c.copyF k).near = c.near ∧ ∀ q, ((c.copyF k).rep q).down = (c.rep q).down := by
  unfold Clu.copyF
  split
  · exact ⟨near_put _ _, fun q => by rw [rep_put]⟩
  · exact ⟨rfl, fun _ => rfl⟩
/-- Where a play stands. -/
structure Pg (Z : Snap) (w : World) (P x : Nat) (g : Cf) (es : List (Int × Int)) (U : List At) (N : Nat) (c : Clu) : Prop where
  pm : ∃ D, (∃ L, Pm Z w P x g c D L) ∧ Tells c D
  ok : c.ok U N
  inv : c.inv
  far : c.far
  nr : ∀ i j : Nat, c.near i j = nearE es i j
  ed : (∀ W c' D' L', Pm Z W P x g c' D' L' → EdgesOf W g.ev es) ∧ es.length ≤ 1048576
section
variable {Z : Snap} {w w' : World} {P x N : Nat} {g : Cf} {c : Clu} {U : List At} {es : List (Int × Int)}
theorem Pg.len (h : Pg Z w P x g es U N c) : c.reps.length = g.n := by
  obtain ⟨D, ⟨L, hp⟩, -⟩ := h.pm
  exact hp.len
theorem Pg.same (h : Pg Z w P x g es U N c) (hb : Below w.heap.size w w') : Pg Z w' P x g es U N c := by
  obtain ⟨D, ⟨L, hp⟩, ht⟩ := h.pm
  exact ⟨⟨D, ⟨L, hp.same hb⟩, ht⟩, h.ok, h.inv, h.far, h.nr, h.ed⟩
theorem Pg.later {N' : Nat} (h : Pg Z w P x g es U N c) (hN : N ≤ N') : Pg Z w P x g es U N' c := ⟨h.pm, h.ok.later hN, h.inv, h.far, h.nr, h.ed⟩
theorem Pg.cells (h : Pg Z w P x g es U N c) : w.cell? ⟨P, 0, none⟩ = some (.pointer (some ⟨x, 0, none⟩)) ∧ w.cell? ⟨P, 1, none⟩ = some (.int .i64 g.n) := by
  obtain ⟨D, ⟨L, hp⟩, -⟩ := h.pm
  exact ⟨hp.cell0, hp.cell1⟩
theorem Pg.ltP (h : Pg Z w P x g es U N c) : P < w.heap.size := by
  obtain ⟨D, ⟨L, hp⟩, -⟩ := h.pm
  exact hp.ltP
/-- Blocks that have come anew stay. -/
theorem Pg.rebase {w1 : World} (h : Pg Z w P x g es U N c) (hb : Below w.heap.size w w1) : ∃ Z' : Snap, Pg Z' w1 P x g es U N c ∧ ∀ (w' : World) (U' : List At) (N' : Nat) (c' : Clu), Pg Z' w' P x g es U' N' c' → Pg Z w' P x g es U' N' c' ∧ ∀ q, w.heap.size ≤ q → q < w1.heap.size → w'.heap[q]? = w1.heap[q]? := by
  obtain ⟨D, ⟨L, hp⟩, ht⟩ := h.pm
  obtain ⟨Z', h1, -, back⟩ := hp.rebase hb
  refine ⟨Z', ⟨⟨D, ⟨L, h1⟩, ht⟩, h.ok, h.inv, h.far, h.nr, fun W c' D' L' hp' => h.ed.1 _ _ _ _ (back _ _ _ _ hp').1, h.ed.2⟩, fun w' U' N' c' hg => ?_⟩
  obtain ⟨D', ⟨L', hp'⟩, ht'⟩ := hg.pm
  obtain ⟨b1, b2, b3⟩ := back _ _ _ _ hp'
  exact ⟨⟨⟨D', ⟨L', b1⟩, ht'⟩, hg.ok, hg.inv, hg.far, hg.nr, h.ed⟩, b3⟩
theorem Pg.pFlight (h : Pg Z w P x g es U N c) :
    Calls Tryz.prog 93 #[.pointer (some ⟨x, 0, none⟩)] w fun e w' => e = .returned (.int .i64 c.net.length) ∧ Pg Z w' P x g es U N c := by
  obtain ⟨D, ⟨L, hp⟩, ht⟩ := h.pm
  exact hp.pFlight.mono fun e w' ⟨h1, h2⟩ => ⟨h1, ⟨D, ⟨L, h2⟩, ht⟩, h.ok, h.inv, h.far, h.nr, h.ed⟩
theorem Pg.pFrame (h : Pg Z w P x g es U N c) (hL : Lim U N) (k : Int) :
    Calls Tryz.prog 89 #[.pointer (some ⟨x, 0, none⟩), .int .i64 k] w fun e w' => ∃ ad n cp, e = .returned (.tuple #[.agg #[.int .i64 (c.frmAt k).kind, .int .i64 (c.frmAt k).src, .int .i64 (c.frmAt k).dst, .int .i64 (c.frmAt k).upto, .slice ad n cp], .int .i64 (c.netErr k)]) ∧ Pg Z w' P x g es U N c ∧ Below w.heap.size w w' := by
  obtain ⟨D, ⟨L, hp⟩, ht⟩ := h.pm
  exact (hp.pFrame h.ok hL k).mono fun e w' ⟨ad, n, cp, h1, h2, h3⟩ => ⟨ad, n, cp, h1, ⟨⟨D, ⟨L, h2⟩, ht⟩, h.ok, h.inv, h.far, h.nr, h.ed⟩, h3⟩
theorem Pg.pDeliver (h : Pg Z w P x g es U N c) (hL : Lim U N) (k : Int) :
    Calls Tryz.prog 78 #[.pointer (some ⟨x, 0, none⟩), .int .i64 k] w fun e w' => e = .returned (.int .i64 (c.netErr k)) ∧ Pg Z w' P x g es U (N + 1) (c.deliver k) := by
  obtain ⟨D, ⟨L, hp⟩, ht⟩ := h.pm
  obtain ⟨k1, k2⟩ := deliver_keep c k (fun f hf => (h.ok.net f hf).dst)
  exact (hp.pDeliver h.ok hL h.inv h.far k).mono fun e w' ⟨h1, h2⟩ => ⟨h1, ⟨D, ⟨L, h2⟩, ht.same (len_deliver _ _) k2⟩, h.ok.deliver k, (h.inv.deliver h.ok k).1, far_deliver h.far k, fun i j => by rw [k1]; exact h.nr i j, h.ed⟩
theorem Pg.pDrop (h : Pg Z w P x g es U N c) (_hL : Lim U N) (k : Int) :
    Calls Tryz.prog 80 #[.pointer (some ⟨x, 0, none⟩), .int .i64 k] w fun e w' => e = .returned (.int .i64 (c.netErr k)) ∧ Pg Z w' P x g es U (N + 1) (c.dropF k) := by
  obtain ⟨D, ⟨L, hp⟩, ht⟩ := h.pm
  obtain ⟨k1, k2⟩ := dropF_keep c k
  exact (hp.pDrop h.ok h.inv k).mono fun e w' ⟨h1, h2⟩ => ⟨h1, ⟨D, ⟨L, h2⟩, ht.same (len_dropF _ _) k2⟩, (h.ok.dropF k).later (by omega), (h.inv.dropF k).1, far_drop h.far k, fun i j => by rw [k1]; exact h.nr i j, h.ed⟩
theorem Pg.pCopy (h : Pg Z w P x g es U N c) (_hL : Lim U N) (k : Int) :
    Calls Tryz.prog 82 #[.pointer (some ⟨x, 0, none⟩), .int .i64 k] w fun e w' => e = .returned (.int .i64 (c.netErr k)) ∧ Pg Z w' P x g es U (N + 1) (c.copyF k) := by
  obtain ⟨D, ⟨L, hp⟩, ht⟩ := h.pm
  obtain ⟨k1, k2⟩ := copyF_keep c k
  exact (hp.pCopy h.ok h.inv k).mono fun e w' ⟨h1, h2⟩ => ⟨h1, ⟨D, ⟨L, h2⟩, ht.same (len_copyF _ _) k2⟩, (h.ok.copyF k).later (by omega), (h.inv.copyF k).1, far_copy h.far k, fun i j => by rw [k1]; exact h.nr i j, h.ed⟩
theorem Pg.lState (h : Pg Z w P x g es U N c) (hL : Lim U N) {r : Nat} (hr : r < g.n) :
    Calls Tryz.prog 11 #[.pointer (some ⟨P, 0, none⟩), .int .i64 r] w fun e w' => e = .returned (.bool true) ∧ Pg Z w' P x g es U N c := by
  obtain ⟨D, ⟨L, hp⟩, ht⟩ := h.pm
  exact (hp.lState h.ok hL h.inv ht hr).mono fun e w' ⟨h1, h2⟩ => ⟨h1, ⟨D, ⟨_, h2⟩, ht⟩, h.ok, h.inv, h.far, h.nr, h.ed⟩
theorem frmAt_of (hok : c.ok U N) {k : Int} (h0 : 0 ≤ k) (h1 : k < c.net.length) : c.netErr k = 0 ∧ (c.frmAt k).dst < c.reps.length := by
  have hh : c.has k = true := by unfold Clu.has; exact decide_eq_true ⟨h0, h1⟩
  refine ⟨by unfold Clu.netErr; rw [hh]; rfl, ?_⟩
  unfold Clu.frmAt
  rw [hh]
  exact (hok.net _ (frm_mem (has_lt hh).2)).dst
theorem act_cells {w : World} {b : Nat} {k r q n ty sd on : Int} {ky el key : ByteArray} (h : w.heap[b]? = some (actB k r q n ty ky sd el on key)) : w.cell? ⟨b, 0, none⟩ = some (.int .i64 k) ∧ w.cell? ⟨b, 3, none⟩ = some (.int .i64 n) :=
  ⟨(blk_cell h 0).trans rfl, (blk_cell h 3).trans rfl⟩
end
end Go.Proofs.YtahdlejgjcjeoaaGreatDoor

namespace Go.Proofs.YtahdlejgjcjeoaaGreatDoor
open Go.RowKit
section
variable {Z : Snap} {w w' : World} {P x N : Nat} {g : Cf} {c : Clu} {U : List At} {es : List (Int × Int)}

set_option maxRecDepth 100000 in
set_option maxHeartbeats 4000000 in
theorem Pg.lNet8 (h : Pg Z w P x g es U N c) (hL : Lim U (N + 20)) (r q n ty : Int) (ky : ByteArray) (sd : Int) (el : ByteArray) (on : Int) (key : ByteArray) (hn0 : -9223372036854775808 ≤ n) (hn1 : n ≤ 9223372036854775807) :
    Calls Tryz.prog 49 #[.pointer (some ⟨P, 0, none⟩), .agg #[.int .i64 8, .int .i64 r, .int .i64 q, .int .i64 n, .int .i64 ty, .string ky, .int .i64 sd, .string el, .int .i64 on, .string key]] w fun e w' => e = .returned (.bool true) ∧ ∃ c', Pg Z w' P x g es U (N + 20) c' := by
  have HB0 := Hid.mk (below_alloc (Below.refl _ w) (actB 8 r q n ty ky sd el on key))
  obtain ⟨Z1, hg1, back⟩ := h.rebase HB0.out
  have HG1 := Hid.mk hg1
  have HBK := Hid.mk back
  have HA0 := Hid.mk (heap_alloc_new w (actB 8 r q n ty ky sd el on key))
  have HPK := Hid.mk (fun W' => pick_any n 20 W' hn0 hn1 (by decide) (by decide))
  have HPN := Hid.mk (fun (m : Int) (h0 : 0 < m) (h1 : m ≤ 2147483647) W' => pick_any n m W' hn0 hn1 h0 h1)
  have HL0 : Hid (Lim U N) := ⟨Nat.le_trans (Nat.le_add_right N 20) hL.1, hL.2⟩
  have HL1 : Hid (Lim U (N + 1)) := ⟨Nat.le_trans (by omega) hL.1, hL.2⟩
  have HNL := Hid.mk h.ok.netL
  have hn6 : g.n ≤ 6 := by rw [← h.len]; exact h.ok.n6
  have c0 := hg1.cells.1
  have a3 := (act_cells HA0.out).2
  have a0 := (act_cells HA0.out).1
  have hltP : P < w.heap.size := h.ltP
  have HKEEP : Hid (∀ W, Pg Z1 W P x g es U N c → W.heap[w.heap.size]? = some (actB 8 r q n ty ky sd el on key)) := fun W hW => ((HBK.out _ _ _ _ hW).2 _ (Nat.le_refl _) (blk_lt HA0.out)).trans HA0.out
  clear h hg1 back hL
  unfold actB at *
  go_enter Tryz.func49, Tryz.ntmps49
  go_wp2_with fail
  refine HG1.out.pFlight.mono ?_
  rintro e w1 ⟨rfl, h1⟩
  have HG2 := Hid.mk h1
  clear h1 HG1 c0 a3 a0
  go_wp2
  go_loopw [5, 6] (fun s5 s6 wr => s5 = .int .i64 c.net.length ∧ s6 = .int .i64 0 ∧ Hid (Pg Z1 wr P x g es U N c)) (fun _ _ _ => 0)
  case atStart => exact ⟨rfl, rfl, HG2⟩
  case round =>
    clear HG2
    obtain ⟨rfl, rfl, hg⟩ := hrel
    have hblk := HKEEP.out _ hg.out
    have a3 := (act_cells hblk).2
    have a0 := (act_cells hblk).1
    have c0 := hg.out.cells.1
    have HEND := Hid.mk (HBK.out _ _ _ _ (hg.out.later (Nat.le_add_right N 20))).1
    clear hblk
    go_wp2_with fail
    refine (HPK.out _).mono ?_
    rintro e w5 ⟨rr, rfl, hr2, rfl⟩
    obtain ⟨q1, q2⟩ := hr2
    by_cases hnl : 0 < c.net.length
    · have hnl' : (0 : Int) < (c.net.length : Int) := by omega
      have hnl2 : (c.net.length : Int) ≤ 2147483647 := by have := HNL.out; omega
      clear HEND
      go_wp2_with fail
      refine (HPN.out (c.net.length : Int) hnl' hnl2 _).mono ?_
      rintro e w6 ⟨kk, rfl, hkk, rfl⟩
      obtain ⟨k1, k2⟩ := hkk
      obtain ⟨e0, hdst⟩ := frmAt_of hg.out.ok k1 k2
      rw [hg.out.len] at hdst
      have HFR := Hid.mk (hg.out.pFrame HL0.out kk)
      rw [e0] at HFR
      clear HPK HPN
      go_wp2_with fail
      refine HFR.out.mono ?_
      rintro e w7 ⟨ad, fn, cp, rfl, h7, hb7⟩
      have H7 := Hid.mk h7
      have c07 := h7.cells.1
      have c17 := h7.cells.2
      have a7 := (act_cells (HKEEP.out _ h7)).1
      have h7P := h7.ltP
      have hwb : w.heap.size < w7.heap.size := blk_lt (HKEEP.out _ h7)
      clear h7 HFR hb7
      generalize (c.frmAt kk).kind = fk at *
      generalize (c.frmAt kk).src = fs at *
      generalize (c.frmAt kk).dst = fd at *
      generalize (c.frmAt kk).upto = fu at *
      obtain ⟨Z2, h8, back2⟩ := H7.out.rebase (below_alloc (Below.refl _ w7) (.cells #[.int .i64 fk, .int .i64 fs, .int .i64 fd, .int .i64 fu, .slice ad fn cp] 153))
      have HF8 := Hid.mk (heap_alloc_new w7 (.cells #[.int .i64 fk, .int .i64 fs, .int .i64 fd, .int .i64 fu, .slice ad fn cp] 153))
      have HDP := Hid.mk (h8.pDrop HL0.out kk)
      rw [e0] at HDP
      have HBK2 := Hid.mk back2
      clear h8 back2 e0
      go_wp2_with fail
      refine HDP.out.mono ?_
      rintro e w9 ⟨rfl, h9⟩
      obtain ⟨hz1, hk9⟩ := HBK2.out _ _ _ _ h9
      have hf9 := (hk9 _ (Nat.le_refl _) (blk_lt HF8.out)).trans HF8.out
      have f2 := blk_cell hf9 2
      simp at f2
      have HS9 := Hid.mk (fun W (hW : Below w9.heap.size w9 W) => (hz1.same hW).lState HL1.out hdst)
      have HA9 := Hid.mk (fun W (hW : Pg Z1 W P x g es U (N + 1) (c.dropF kk)) => (act_cells (((HBK.out _ _ _ _ hW).2 _ (Nat.le_refl _) (blk_lt HA0.out)).trans HA0.out)).1)
      have c19 := hz1.cells.2
      obtain ⟨hz0, hka9⟩ := HBK.out _ _ _ _ hz1
      have ha9 := (act_cells ((hka9 _ (Nat.le_refl _) (blk_lt HA0.out)).trans HA0.out)).1
      have p1 : (0 : Int) ≤ (fd : Int) := by omega
      have p2 : (fd : Int) < (g.n : Int) := by omega
      clear hk9 hf9 hz1 hz0 hka9 h9 HBK2 HF8 HDP H7 c07 c17 a7 a3 a0 c0
      go_wp2_with fail
      go_quiet (fail)
      go_wp2_with fail
      refine (HS9.out _ (by first | exact below_drewN (Below.refl _ _) _ | exact Below.refl _ _)).mono ?_
      rintro e w10 ⟨rfl, h10⟩
      have a10 := HA9.out _ h10
      have HE10 := Hid.mk (HBK.out _ _ _ _ (h10.later (show N + 1 ≤ N + 20 by omega))).1
      clear h10 HS9 HA9 f2 c19 ha9
      go_wp2
      go_ret
      exact ⟨rfl, _, HE10.out⟩
    · have hnl' : (c.net.length : Int) = 0 := by omega
      rw [hnl'] at *
      go_wp2
      go_ret
      exact ⟨rfl, _, HEND.out⟩

set_option maxRecDepth 100000 in
set_option maxHeartbeats 4000000 in
theorem Pg.lNet7 (h : Pg Z w P x g es U N c) (hL : Lim U (N + 20)) (r q n ty : Int) (ky : ByteArray) (sd : Int) (el : ByteArray) (on : Int) (key : ByteArray) (hn0 : -9223372036854775808 ≤ n) (hn1 : n ≤ 9223372036854775807) :
    Calls Tryz.prog 49 #[.pointer (some ⟨P, 0, none⟩), .agg #[.int .i64 7, .int .i64 r, .int .i64 q, .int .i64 n, .int .i64 ty, .string ky, .int .i64 sd, .string el, .int .i64 on, .string key]] w fun e w' => e = .returned (.bool true) ∧ ∃ c', Pg Z w' P x g es U (N + 20) c' := by
  have HB0 := Hid.mk (below_alloc (Below.refl _ w) (actB 7 r q n ty ky sd el on key))
  obtain ⟨Z1, hg1, back⟩ := h.rebase HB0.out
  have HG1 := Hid.mk hg1
  have HBK := Hid.mk back
  have HA0 := Hid.mk (heap_alloc_new w (actB 7 r q n ty ky sd el on key))
  have HPK := Hid.mk (fun W' => pick_any n 20 W' hn0 hn1 (by decide) (by decide))
  have HPN := Hid.mk (fun (m : Int) (h0 : 0 < m) (h1 : m ≤ 2147483647) W' => pick_any n m W' hn0 hn1 h0 h1)
  have HL0 : Hid (Lim U N) := ⟨Nat.le_trans (Nat.le_add_right N 20) hL.1, hL.2⟩
  have HL1 : Hid (Lim U (N + 1)) := ⟨Nat.le_trans (by omega) hL.1, hL.2⟩
  have HNL := Hid.mk h.ok.netL
  have hn6 : g.n ≤ 6 := by rw [← h.len]; exact h.ok.n6
  have c0 := hg1.cells.1
  have a3 := (act_cells HA0.out).2
  have a0 := (act_cells HA0.out).1
  have hltP : P < w.heap.size := h.ltP
  have HKEEP : Hid (∀ W, Pg Z1 W P x g es U N c → W.heap[w.heap.size]? = some (actB 7 r q n ty ky sd el on key)) := fun W hW => ((HBK.out _ _ _ _ hW).2 _ (Nat.le_refl _) (blk_lt HA0.out)).trans HA0.out
  clear h hg1 back hL
  unfold actB at *
  go_enter Tryz.func49, Tryz.ntmps49
  go_wp2_with fail
  refine HG1.out.pFlight.mono ?_
  rintro e w1 ⟨rfl, h1⟩
  have HG2 := Hid.mk h1
  clear h1 HG1 c0 a3 a0
  go_wp2
  go_loopw [5, 6] (fun s5 s6 wr => s5 = .int .i64 c.net.length ∧ s6 = .int .i64 0 ∧ Hid (Pg Z1 wr P x g es U N c)) (fun _ _ _ => 0)
  case atStart => exact ⟨rfl, rfl, HG2⟩
  case round =>
    clear HG2
    obtain ⟨rfl, rfl, hg⟩ := hrel
    have hblk := HKEEP.out _ hg.out
    have a3 := (act_cells hblk).2
    have a0 := (act_cells hblk).1
    have c0 := hg.out.cells.1
    have HEND := Hid.mk (HBK.out _ _ _ _ (hg.out.later (Nat.le_add_right N 20))).1
    clear hblk
    go_wp2_with fail
    refine (HPK.out _).mono ?_
    rintro e w5 ⟨rr, rfl, hr2, rfl⟩
    obtain ⟨q1, q2⟩ := hr2
    by_cases hnl : 0 < c.net.length
    · have hnl' : (0 : Int) < (c.net.length : Int) := by omega
      have hnl2 : (c.net.length : Int) ≤ 2147483647 := by have := HNL.out; omega
      clear HEND
      go_wp2_with fail
      refine (HPN.out (c.net.length : Int) hnl' hnl2 _).mono ?_
      rintro e w6 ⟨kk, rfl, hkk, rfl⟩
      obtain ⟨k1, k2⟩ := hkk
      obtain ⟨e0, hdst⟩ := frmAt_of hg.out.ok k1 k2
      rw [hg.out.len] at hdst
      have HFR := Hid.mk (hg.out.pFrame HL0.out kk)
      rw [e0] at HFR
      clear HPK HPN
      go_wp2_with fail
      refine HFR.out.mono ?_
      rintro e w7 ⟨ad, fn, cp, rfl, h7, hb7⟩
      have H7 := Hid.mk h7
      have c07 := h7.cells.1
      have c17 := h7.cells.2
      have a7 := (act_cells (HKEEP.out _ h7)).1
      have h7P := h7.ltP
      have hwb : w.heap.size < w7.heap.size := blk_lt (HKEEP.out _ h7)
      clear h7 HFR hb7
      generalize (c.frmAt kk).kind = fk at *
      generalize (c.frmAt kk).src = fs at *
      generalize (c.frmAt kk).dst = fd at *
      generalize (c.frmAt kk).upto = fu at *
      obtain ⟨Z2, h8, back2⟩ := H7.out.rebase (below_alloc (Below.refl _ w7) (.cells #[.int .i64 fk, .int .i64 fs, .int .i64 fd, .int .i64 fu, .slice ad fn cp] 153))
      have HF8 := Hid.mk (heap_alloc_new w7 (.cells #[.int .i64 fk, .int .i64 fs, .int .i64 fd, .int .i64 fu, .slice ad fn cp] 153))
      have HDP := Hid.mk (h8.pDeliver HL0.out kk)
      rw [e0] at HDP
      have HBK2 := Hid.mk back2
      clear h8 back2 e0
      go_wp2_with fail
      refine HDP.out.mono ?_
      rintro e w9 ⟨rfl, h9⟩
      obtain ⟨hz1, hk9⟩ := HBK2.out _ _ _ _ h9
      have hf9 := (hk9 _ (Nat.le_refl _) (blk_lt HF8.out)).trans HF8.out
      have f2 := blk_cell hf9 2
      simp at f2
      have HS9 := Hid.mk (fun W (hW : Below w9.heap.size w9 W) => (hz1.same hW).lState HL1.out hdst)
      have HA9 := Hid.mk (fun W (hW : Pg Z1 W P x g es U (N + 1) (c.deliver kk)) => (act_cells (((HBK.out _ _ _ _ hW).2 _ (Nat.le_refl _) (blk_lt HA0.out)).trans HA0.out)).1)
      have c19 := hz1.cells.2
      obtain ⟨hz0, hka9⟩ := HBK.out _ _ _ _ hz1
      have ha9 := (act_cells ((hka9 _ (Nat.le_refl _) (blk_lt HA0.out)).trans HA0.out)).1
      have p1 : (0 : Int) ≤ (fd : Int) := by omega
      have p2 : (fd : Int) < (g.n : Int) := by omega
      clear hk9 hf9 hz1 hz0 hka9 h9 HBK2 HF8 HDP H7 c07 c17 a7 a3 a0 c0
      go_wp2_with fail
      go_quiet (fail)
      go_wp2_with fail
      refine (HS9.out _ (by first | exact below_drewN (Below.refl _ _) _ | exact Below.refl _ _)).mono ?_
      rintro e w10 ⟨rfl, h10⟩
      have a10 := HA9.out _ h10
      have HE10 := Hid.mk (HBK.out _ _ _ _ (h10.later (show N + 1 ≤ N + 20 by omega))).1
      clear h10 HS9 HA9 f2 c19 ha9
      go_wp2
      go_ret
      exact ⟨rfl, _, HE10.out⟩
    · have hnl' : (c.net.length : Int) = 0 := by omega
      rw [hnl'] at *
      go_wp2
      go_ret
      exact ⟨rfl, _, HEND.out⟩

set_option maxRecDepth 100000 in
set_option maxHeartbeats 4000000 in
theorem Pg.lNet9 (h : Pg Z w P x g es U N c) (hL : Lim U (N + 20)) (r q n ty : Int) (ky : ByteArray) (sd : Int) (el : ByteArray) (on : Int) (key : ByteArray) (hn0 : -9223372036854775808 ≤ n) (hn1 : n ≤ 9223372036854775807) :
    Calls Tryz.prog 49 #[.pointer (some ⟨P, 0, none⟩), .agg #[.int .i64 9, .int .i64 r, .int .i64 q, .int .i64 n, .int .i64 ty, .string ky, .int .i64 sd, .string el, .int .i64 on, .string key]] w fun e w' => e = .returned (.bool true) ∧ ∃ c', Pg Z w' P x g es U (N + 20) c' := by
  have HB0 := Hid.mk (below_alloc (Below.refl _ w) (actB 9 r q n ty ky sd el on key))
  obtain ⟨Z1, hg1, back⟩ := h.rebase HB0.out
  have HG1 := Hid.mk hg1
  have HBK := Hid.mk back
  have HA0 := Hid.mk (heap_alloc_new w (actB 9 r q n ty ky sd el on key))
  have HPK := Hid.mk (fun W' => pick_any n 20 W' hn0 hn1 (by decide) (by decide))
  have HPN := Hid.mk (fun (m : Int) (h0 : 0 < m) (h1 : m ≤ 2147483647) W' => pick_any n m W' hn0 hn1 h0 h1)
  have HL0 : Hid (Lim U N) := ⟨Nat.le_trans (Nat.le_add_right N 20) hL.1, hL.2⟩
  have HL1 : Hid (Lim U (N + 1)) := ⟨Nat.le_trans (by omega) hL.1, hL.2⟩
  have HNL := Hid.mk h.ok.netL
  have hn6 : g.n ≤ 6 := by rw [← h.len]; exact h.ok.n6
  have c0 := hg1.cells.1
  have a3 := (act_cells HA0.out).2
  have a0 := (act_cells HA0.out).1
  have hltP : P < w.heap.size := h.ltP
  have HKEEP : Hid (∀ W, Pg Z1 W P x g es U N c → W.heap[w.heap.size]? = some (actB 9 r q n ty ky sd el on key)) := fun W hW => ((HBK.out _ _ _ _ hW).2 _ (Nat.le_refl _) (blk_lt HA0.out)).trans HA0.out
  clear h hg1 back hL
  unfold actB at *
  go_enter Tryz.func49, Tryz.ntmps49
  go_wp2_with fail
  refine HG1.out.pFlight.mono ?_
  rintro e w1 ⟨rfl, h1⟩
  have HG2 := Hid.mk h1
  clear h1 HG1 c0 a3 a0
  go_wp2
  go_loopw [5, 6] (fun s5 s6 wr => s5 = .int .i64 c.net.length ∧ s6 = .int .i64 0 ∧ Hid (Pg Z1 wr P x g es U N c)) (fun _ _ _ => 0)
  case atStart => exact ⟨rfl, rfl, HG2⟩
  case round =>
    clear HG2
    obtain ⟨rfl, rfl, hg⟩ := hrel
    have hblk := HKEEP.out _ hg.out
    have a3 := (act_cells hblk).2
    have a0 := (act_cells hblk).1
    have c0 := hg.out.cells.1
    have HEND := Hid.mk (HBK.out _ _ _ _ (hg.out.later (Nat.le_add_right N 20))).1
    clear hblk
    go_wp2_with fail
    refine (HPK.out _).mono ?_
    rintro e w5 ⟨rr, rfl, hr2, rfl⟩
    obtain ⟨q1, q2⟩ := hr2
    by_cases hnl : 0 < c.net.length
    · have hnl' : (0 : Int) < (c.net.length : Int) := by omega
      have hnl2 : (c.net.length : Int) ≤ 2147483647 := by have := HNL.out; omega
      clear HEND
      go_wp2_with fail
      refine (HPN.out (c.net.length : Int) hnl' hnl2 _).mono ?_
      rintro e w6 ⟨kk, rfl, hkk, rfl⟩
      obtain ⟨k1, k2⟩ := hkk
      obtain ⟨e0, hdst⟩ := frmAt_of hg.out.ok k1 k2
      rw [hg.out.len] at hdst
      have HFR := Hid.mk (hg.out.pFrame HL0.out kk)
      rw [e0] at HFR
      clear HPK HPN
      go_wp2_with fail
      refine HFR.out.mono ?_
      rintro e w7 ⟨ad, fn, cp, rfl, h7, hb7⟩
      have H7 := Hid.mk h7
      have c07 := h7.cells.1
      have c17 := h7.cells.2
      have a7 := (act_cells (HKEEP.out _ h7)).1
      have h7P := h7.ltP
      have hwb : w.heap.size < w7.heap.size := blk_lt (HKEEP.out _ h7)
      clear h7 HFR hb7
      generalize (c.frmAt kk).kind = fk at *
      generalize (c.frmAt kk).src = fs at *
      generalize (c.frmAt kk).dst = fd at *
      generalize (c.frmAt kk).upto = fu at *
      obtain ⟨Z2, h8, back2⟩ := H7.out.rebase (below_alloc (Below.refl _ w7) (.cells #[.int .i64 fk, .int .i64 fs, .int .i64 fd, .int .i64 fu, .slice ad fn cp] 153))
      have HF8 := Hid.mk (heap_alloc_new w7 (.cells #[.int .i64 fk, .int .i64 fs, .int .i64 fd, .int .i64 fu, .slice ad fn cp] 153))
      have HDP := Hid.mk (h8.pCopy HL0.out kk)
      rw [e0] at HDP
      have HBK2 := Hid.mk back2
      clear h8 back2 e0
      go_wp2_with fail
      refine HDP.out.mono ?_
      rintro e w9 ⟨rfl, h9⟩
      obtain ⟨hz1, hk9⟩ := HBK2.out _ _ _ _ h9
      have hf9 := (hk9 _ (Nat.le_refl _) (blk_lt HF8.out)).trans HF8.out
      have f2 := blk_cell hf9 2
      simp at f2
      have HS9 := Hid.mk (fun W (hW : Below w9.heap.size w9 W) => (hz1.same hW).lState HL1.out hdst)
      have HA9 := Hid.mk (fun W (hW : Pg Z1 W P x g es U (N + 1) (c.copyF kk)) => (act_cells (((HBK.out _ _ _ _ hW).2 _ (Nat.le_refl _) (blk_lt HA0.out)).trans HA0.out)).1)
      have c19 := hz1.cells.2
      obtain ⟨hz0, hka9⟩ := HBK.out _ _ _ _ hz1
      have ha9 := (act_cells ((hka9 _ (Nat.le_refl _) (blk_lt HA0.out)).trans HA0.out)).1
      have p1 : (0 : Int) ≤ (fd : Int) := by omega
      have p2 : (fd : Int) < (g.n : Int) := by omega
      clear hk9 hf9 hz1 hz0 hka9 h9 HBK2 HF8 HDP H7 c07 c17 a7 a3 a0 c0
      go_wp2_with fail
      go_quiet (fail)
      go_wp2_with fail
      refine (HS9.out _ (by first | exact below_drewN (Below.refl _ _) _ | exact Below.refl _ _)).mono ?_
      rintro e w10 ⟨rfl, h10⟩
      have a10 := HA9.out _ h10
      have HE10 := Hid.mk (HBK.out _ _ _ _ (h10.later (show N + 1 ≤ N + 20 by omega))).1
      clear h10 HS9 HA9 f2 c19 ha9
      go_wp2
      go_ret
      exact ⟨rfl, _, HE10.out⟩
    · have hnl' : (c.net.length : Int) = 0 := by omega
      rw [hnl'] at *
      go_wp2
      go_ret
      exact ⟨rfl, _, HEND.out⟩

set_option maxRecDepth 100000 in
set_option maxHeartbeats 4000000 in
theorem Pg.lNet10 (h : Pg Z w P x g es U N c) (hL : Lim U (N + 20)) (r q n ty : Int) (ky : ByteArray) (sd : Int) (el : ByteArray) (on : Int) (key : ByteArray) (hn0 : -9223372036854775808 ≤ n) (hn1 : n ≤ 9223372036854775807) :
    Calls Tryz.prog 49 #[.pointer (some ⟨P, 0, none⟩), .agg #[.int .i64 10, .int .i64 r, .int .i64 q, .int .i64 n, .int .i64 ty, .string ky, .int .i64 sd, .string el, .int .i64 on, .string key]] w fun e w' => e = .returned (.bool true) ∧ ∃ c', Pg Z w' P x g es U (N + 20) c' := by
  have HB0 := Hid.mk (below_alloc (Below.refl _ w) (actB 10 r q n ty ky sd el on key))
  obtain ⟨Z1, hg1, back⟩ := h.rebase HB0.out
  have HG1 := Hid.mk hg1
  have HBK := Hid.mk back
  have HA0 := Hid.mk (heap_alloc_new w (actB 10 r q n ty ky sd el on key))
  have HPK := Hid.mk (fun W' => pick_any n 20 W' hn0 hn1 (by decide) (by decide))
  have HLM := Hid.mk hL
  have hn6 : g.n ≤ 6 := by rw [← h.len]; exact h.ok.n6
  have c0 := hg1.cells.1
  have a3 := (act_cells HA0.out).2
  have a0 := (act_cells HA0.out).1
  have hltP : P < w.heap.size := h.ltP
  have HKEEP : Hid (∀ W c' N', Pg Z1 W P x g es U N' c' → W.heap[w.heap.size]? = some (actB 10 r q n ty ky sd el on key)) := fun W c' N' hW => ((HBK.out _ _ _ _ hW).2 _ (Nat.le_refl _) (blk_lt HA0.out)).trans HA0.out
  clear h hg1 back hL
  unfold actB at *
  go_enter Tryz.func49, Tryz.ntmps49
  go_wp2_with fail
  refine HG1.out.pFlight.mono ?_
  rintro e w1 ⟨rfl, h1⟩
  have HG2 := Hid.mk h1
  clear h1 HG1 c0 a3 a0
  go_wp2
  go_loopw [5, 6] (fun s5 s6 wr => ∃ (i : Nat) (c' : Clu), i ≤ 20 ∧ s5 = .int .i64 c'.net.length ∧ s6 = .int .i64 i ∧ Hid (Pg Z1 wr P x g es U (N + i) c')) (fun _ s6 _ => 20 - (intOf s6).toNat)
  case atStart => exact ⟨0, c, by omega, rfl, rfl, HG2⟩
  case round =>
    clear HG2
    obtain ⟨i, c', hi, rfl, rfl, hg⟩ := hrel
    have hblk := HKEEP.out _ _ _ hg.out
    have a3 := (act_cells hblk).2
    have a0 := (act_cells hblk).1
    have c0 := hg.out.cells.1
    have HEND := Hid.mk (HBK.out _ _ _ _ (hg.out.later (show N + i ≤ N + 20 by omega))).1
    have HL0 : Hid (Lim U (N + i)) := ⟨Nat.le_trans (by omega) HLM.out.1, HLM.out.2⟩
    clear hblk
    go_wp2_with fail
    refine (HPK.out _).mono ?_
    rintro e w5 ⟨rr, rfl, hr2, rfl⟩
    obtain ⟨q1, q2⟩ := hr2
    by_cases hir : (i : Int) ≤ rr
    · have hi19 : i + 1 ≤ 20 := by omega
      have HL1 : Hid (Lim U (N + i + 1)) := ⟨Nat.le_trans (by omega) HLM.out.1, HLM.out.2⟩
      by_cases hnl : 0 < c'.net.length
      · have hnl' : (0 : Int) < (c'.net.length : Int) := by omega
        obtain ⟨e0, hdst⟩ := frmAt_of hg.out.ok (Int.le_refl 0) hnl'
        rw [hg.out.len] at hdst
        have HFR := Hid.mk (hg.out.pFrame HL0.out 0)
        rw [e0] at HFR
        clear HEND
        go_wp2_with fail
        refine HFR.out.mono ?_
        rintro e w7 ⟨ad, fn, cp, rfl, h7, hb7⟩
        have H7 := Hid.mk h7
        have c07 := h7.cells.1
        have a7 := (act_cells (HKEEP.out _ _ _ h7)).1
        have h7P := h7.ltP
        have hwb : w.heap.size < w7.heap.size := blk_lt (HKEEP.out _ _ _ h7)
        clear h7 HFR hb7
        generalize (c'.frmAt 0).kind = fk at *
        generalize (c'.frmAt 0).src = fs at *
        generalize (c'.frmAt 0).dst = fd at *
        generalize (c'.frmAt 0).upto = fu at *
        obtain ⟨Z2, h8, back2⟩ := H7.out.rebase (below_alloc (Below.refl _ w7) (.cells #[.int .i64 fk, .int .i64 fs, .int .i64 fd, .int .i64 fu, .slice ad fn cp] 153))
        have HF8 := Hid.mk (heap_alloc_new w7 (.cells #[.int .i64 fk, .int .i64 fs, .int .i64 fd, .int .i64 fu, .slice ad fn cp] 153))
        have HDP := Hid.mk (h8.pDeliver HL0.out 0)
        rw [e0] at HDP
        have HBK2 := Hid.mk back2
        clear h8 back2 e0
        go_wp2_with fail
        refine HDP.out.mono ?_
        rintro e w9 ⟨rfl, h9⟩
        obtain ⟨hz1, hk9⟩ := HBK2.out _ _ _ _ h9
        have hf9 := (hk9 _ (Nat.le_refl _) (blk_lt HF8.out)).trans HF8.out
        have f2 := blk_cell hf9 2
        simp at f2
        have HS9 := Hid.mk (fun W (hW : Below w9.heap.size w9 W) => (hz1.same hW).lState HL1.out hdst)
        have c19 := hz1.cells.2
        have p1 : (0 : Int) ≤ (fd : Int) := by omega
        have p2 : (fd : Int) < (g.n : Int) := by omega
        clear hk9 hf9 hz1 h9 HBK2 HF8 HDP H7 c07 a7 a3 a0 c0
        go_wp2_with fail
        go_quiet (fail)
        go_wp2_with fail
        refine (HS9.out _ (by first | exact below_drewN (Below.refl _ _) _ | exact Below.refl _ _)).mono ?_
        rintro e w10 ⟨rfl, h10⟩
        have a10 := (act_cells (HKEEP.out _ _ _ h10)).1
        have c10 := h10.cells.1
        have HFL := Hid.mk h10.pFlight
        clear h10 HS9 f2 c19
        go_wp2_with fail
        refine HFL.out.mono ?_
        rintro e w11 ⟨rfl, h11⟩
        have H11 : Hid (Pg Z1 w11 P x g es U (N + (i + 1)) (c'.deliver 0)) := h11
        clear h11 HFL a10 c10
        go_wp2
        exact ⟨⟨i + 1, _, hi19, rfl, by go_num, H11⟩, by simp [intOf]; omega⟩
      · have hnl' : (c'.net.length : Int) = 0 := by omega
        rw [hnl'] at *
        go_wp2
        go_ret
        exact ⟨rfl, _, HEND.out⟩
    · go_wp2
      go_ret
      exact ⟨rfl, _, HEND.out⟩
end
end Go.Proofs.YtahdlejgjcjeoaaGreatDoor
