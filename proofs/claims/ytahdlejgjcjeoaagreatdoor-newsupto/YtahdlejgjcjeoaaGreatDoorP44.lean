/- Walks of the law's questions at a new cluster: buffer, frame. -/
import Derived.Test.YtahdlejgjcjeoaaGreatDoorP43
import Derived.Test.YtahdlejgjcjeoaaGreatDoorP01
namespace Go.Proofs.YtahdlejgjcjeoaaGreatDoor
open Go.RowKit

/-- The error of a question about a replica. -/
def er (n : Nat) (r : Int) : Int := if 0 ≤ r ∧ r < n then 0 else 5
theorem er_yes {n : Nat} {r : Int} (h : 0 ≤ r ∧ r < n) : er n r = 0 := if_pos h
theorem er_no {n : Nat} {r : Int} (h : ¬ (0 ≤ r ∧ r < n)) : er n r = 5 := if_neg h

section
variable {rm n : Nat} {bp rr : Bool} {f : Nat → Nat → Bool}
theorem clu0_len : (clu0 rm bp rr n f).reps.length = n := by simp [clu0]
theorem clu0_there (r : Int) : (clu0 rm bp rr n f).there r = decide (0 ≤ r ∧ r < n) := by unfold Clu.there; rw [clu0_len]
theorem clu0_rep {i : Nat} (h : i < n) : (clu0 rm bp rr n f).rep i = rep0 n := by simp [Clu.rep, clu0, List.getD, h]
theorem clu0_works (r : Int) : (clu0 rm bp rr n f).works r = er n r := by
  unfold Clu.works er
  rw [clu0_there]
  by_cases h : 0 ≤ r ∧ r < n
  · rw [if_neg (by simp [h]), if_pos h, clu0_rep (by omega)]
    rfl
  · rw [if_pos (by simp [h]), if_neg h]
theorem clu0_thereErr (r : Int) : (clu0 rm bp rr n f).thereErr r = er n r := by
  unfold Clu.thereErr er
  rw [clu0_there]
  by_cases h : 0 ≤ r ∧ r < n
  · rw [if_pos (by simp [h]), if_pos h]
  · rw [if_neg (by simp [h]), if_neg h]
theorem clu0_start (r : Int) : (clu0 rm bp rr n f).startErr r = if 0 ≤ r ∧ r < n then 9 else 5 := by
  unfold Clu.startErr
  rw [clu0_there]
  by_cases h : 0 ≤ r ∧ r < n
  · rw [if_neg (by simp [h]), if_pos h, clu0_rep (by omega)]
    rfl
  · rw [if_pos (by simp [h]), if_neg h]
theorem clu0_repAt (r : Int) : (clu0 rm bp rr n f).repAt r = if 0 ≤ r ∧ r < n then rep0 n else ⟨true, [], 0, 0, [], [], [], [], 0, 0⟩ := by
  unfold Clu.repAt
  rw [clu0_there]
  by_cases h : 0 ≤ r ∧ r < n
  · rw [if_pos (by simp [h]), if_pos h, clu0_rep (by omega)]
  · rw [if_neg (by simp [h]), if_neg h]
end
theorem tell_nil : tell [] = [] := by simp [tell, leftTo]

section
variable {w0 w : World} {B0 W x y R n B rm M : Nat} {bp rr : Bool} {f : Nat → Nat → Bool} {col : Col} {K : RefC}
theorem Fix.pState (F : Fix w0 B0 W x y R n B rm bp rr f col K) (h : NSt w0 w B0 W B M) (r : Int) :
    Calls Tryz.prog 20 #[.pointer (some ⟨x, 0, none⟩), .int .i64 r] w fun e w' => ∃ v, e = .returned (.tuple #[v, .int .i64 (er n r)]) ∧ w'.ownsRow w.heap.size 77 6 v 0 [] ∧ Hid (er n r = 0 ∨ v = .slice none 0 0) ∧ Below w.heap.size w w' := by
  have hp := F.pfA h
  by_cases hr : 0 ≤ r ∧ r < n
  · obtain ⟨i, rfl⟩ : ∃ i : Nat, r = i := ⟨r.toNat, by omega⟩
    refine (prgState_new hp (by omega) (F.rulesA h) F.x0).mono ?_
    rintro e w' ⟨v, rfl, ho, hb⟩
    exact ⟨v, by rw [er_yes hr], ho, .inl (er_yes hr), hb⟩
  · refine (prgState_no x R n n r w hp.cl hr).mono ?_
    rintro e w' ⟨rfl, hb⟩
    exact ⟨_, by rw [er_no hr], ⟨rfl, .inl ⟨rfl, rfl⟩⟩, .inr rfl, hb⟩
theorem Fix.dState (F : Fix w0 B0 W x y R n B rm bp rr f col K) (h : NSt w0 w B0 W B M) (r : Int) :
    Calls Tryz.prog 125 #[.pointer (some ⟨y, 0, none⟩), .int .i64 r] w fun e w' => ∃ v, e = .returned (.tuple #[v, .int .i64 (er n r)]) ∧ w'.ownsRow w.heap.size 77 6 v 0 [] ∧ Below w.heap.size w w' := by
  refine (refState (F.refA h) F.ok lim00 r).mono ?_
  rintro e w' ⟨v, out, rfl, ho, hout, hb⟩
  rw [clu0_works]
  have : out = [] := by
    rw [hout.out, clu0_works]
    by_cases hr : 0 ≤ r ∧ r < n
    · rw [if_pos (er_yes hr), clu0_rep (by omega)]
      exact tell_nil
    · rw [if_neg (by rw [er_no hr]; decide)]
  subst this
  exact ⟨v, rfl, ho, hb⟩
theorem Fix.pBuffer (F : Fix w0 B0 W x y R n B rm bp rr f col K) (h : NSt w0 w B0 W B M) (r : Int) :
    Calls Tryz.prog 128 #[.pointer (some ⟨x, 0, none⟩), .int .i64 r] w fun e w' => e = .returned (.tuple #[.slice none 0 0, .int .i64 (er n r)]) ∧ Below w.heap.size w w' := by
  have hp := F.pfA h
  by_cases hr : 0 ≤ r ∧ r < n
  · obtain ⟨i, rfl⟩ : ∃ i : Nat, r = i := ⟨r.toNat, by omega⟩
    obtain ⟨m, -, -, c0, -, -, -, c4, -⟩ := hp.cell (i := i) (by omega)
    rw [er_yes hr]
    exact prgBuffer_new x R n i w hp.cl (by omega) c0 c4
  · rw [er_no hr]
    exact prgBuffer_no x R n n r w hp.cl hr
theorem Fix.dBuffer (F : Fix w0 B0 W x y R n B rm bp rr f col K) (h : NSt w0 w B0 W B M) (r : Int) :
    Calls Tryz.prog 129 #[.pointer (some ⟨y, 0, none⟩), .int .i64 r] w fun e w' => ∃ ad cp, e = .returned (.tuple #[.slice ad 0 cp, .int .i64 (er n r)]) ∧ Below w.heap.size w w' := by
  refine (refBuffer (F.refA h) F.ok lim00 r).mono ?_
  rintro e w' ⟨v, ns, col', rfl, ho, -, hns, hb⟩
  rw [clu0_works]
  have : ns = [] := by
    have hh := hns.out
    rw [clu0_works] at hh
    by_cases hr : 0 ≤ r ∧ r < n
    · rw [if_pos (er_yes hr), clu0_rep (by omega)] at hh
      exact List.map_eq_nil_iff.1 hh
    · rw [if_neg (by rw [er_no hr]; decide)] at hh
      exact List.map_eq_nil_iff.1 hh
  subst this
  obtain ⟨ad, cp, rfl⟩ := own_form ho.out.own
  exact ⟨ad, cp, rfl, hb⟩
theorem Fix.pLog (F : Fix w0 B0 W x y R n B rm bp rr f col K) (h : NSt w0 w B0 W B M) (r : Int) :
    Calls Tryz.prog 131 #[.pointer (some ⟨x, 0, none⟩), .int .i64 r] w fun e w' => e = .returned (.tuple #[.string ⟨#[]⟩, .int .i64 (er n r)]) ∧ Below w.heap.size w w' := by
  have hp := F.pfA h
  by_cases hr : 0 ≤ r ∧ r < n
  · obtain ⟨i, rfl⟩ : ∃ i : Nat, r = i := ⟨r.toNat, by omega⟩
    obtain ⟨m, -, -, -, -, -, -, -, c11, -⟩ := hp.cell (i := i) (by omega)
    rw [er_yes hr]
    exact prgLog_new x R n i w hp.cl (by omega) c11
  · rw [er_no hr]
    exact prgLog_no x R n n r w hp.cl hr
theorem Fix.dLog (F : Fix w0 B0 W x y R n B rm bp rr f col K) (h : NSt w0 w B0 W B M) (r : Int) :
    Calls Tryz.prog 132 #[.pointer (some ⟨y, 0, none⟩), .int .i64 r] w fun e w' => e = .returned (.tuple #[.string ⟨#[]⟩, .int .i64 (er n r)]) ∧ Below w.heap.size w w' := by
  refine (refLog (F.refA h) F.ok lim00 r).mono ?_
  rintro e w' ⟨rfl, hb⟩
  have hl : logBytes ((clu0 rm bp rr n f).repAt r) = [] := by
    rw [clu0_repAt]
    split <;> rfl
  rw [clu0_thereErr, hl]
  exact ⟨rfl, hb⟩
theorem Fix.pReplica (F : Fix w0 B0 W x y R n B rm bp rr f col K) (h : NSt w0 w B0 W B M) (r : Int) :
    Calls Tryz.prog 133 #[.pointer (some ⟨x, 0, none⟩), .int .i64 r] w fun e w' => ∃ v, e = .returned (.tuple #[.agg #[.bool (decide (0 ≤ r ∧ r < n)), .int .i64 0, .int .i64 0, v, .int .i64 0, .int .i64 0], .int .i64 (er n r)]) ∧ w'.ownsRow w.heap.size 3 1 v ((clu0 rm bp rr n f).repAt r).acked.length (ints ((clu0 rm bp rr n f).repAt r).acked) ∧ Below w.heap.size w w' := by
  have hp := F.pfA h
  by_cases hr : 0 ≤ r ∧ r < n
  · obtain ⟨i, rfl⟩ : ∃ i : Nat, r = i := ⟨r.toNat, by omega⟩
    refine (prgReplica_new hp (by omega : i < n)).mono ?_
    rintro e w' ⟨v, rfl, ho, hb⟩
    refine ⟨v, by rw [er_yes hr, decide_eq_true hr], ?_, hb⟩
    rw [clu0_repAt, if_pos hr]
    simpa [rep0] using ho
  · refine (prgReplica_no x R n n r w hp.cl hr).mono ?_
    rintro e w' ⟨rfl, hb⟩
    refine ⟨.slice none 0 0, by rw [er_no hr, decide_eq_false hr]; rfl, ?_, hb⟩
    rw [clu0_repAt, if_neg hr]
    exact ⟨rfl, .inl ⟨rfl, rfl⟩⟩
theorem Fix.dReplica (F : Fix w0 B0 W x y R n B rm bp rr f col K) (h : NSt w0 w B0 W B M) (r : Int) :
    Calls Tryz.prog 134 #[.pointer (some ⟨y, 0, none⟩), .int .i64 r] w fun e w' => ∃ v, e = .returned (.tuple #[.agg #[.bool (decide (0 ≤ r ∧ r < n)), .int .i64 0, .int .i64 0, v, .int .i64 0, .int .i64 0], .int .i64 (er n r)]) ∧ w'.ownsRow w.heap.size 3 1 v ((clu0 rm bp rr n f).repAt r).acked.length (ints ((clu0 rm bp rr n f).repAt r).acked) ∧ Below w.heap.size w w' := by
  refine (refReplica (F.refA h) F.ok r).mono ?_
  rintro e w' ⟨v, rfl, ho, hb⟩
  refine ⟨v, ?_, ho, hb⟩
  rw [clu0_thereErr, clu0_repAt]
  by_cases hr : 0 ≤ r ∧ r < n
  · rw [if_pos hr, decide_eq_true hr]
    rfl
  · rw [if_neg hr, decide_eq_false hr]
    rfl
/-- The error of Read. -/
def rer (n : Nat) (r kind : Int) : Int := if 0 ≤ r ∧ r < n then readCode [] kind else 5
def rsp (n : Nat) (r kind : Int) (key : ByteArray) (m : Int) (es : List ByteArray) : Prop := (er n r = 0 ∧ ReadSpec [] kind key m es) ∨ (er n r ≠ 0 ∧ m = 0 ∧ es = [])
theorem rsp_unique {n : Nat} {r kind : Int} {key : ByteArray} {m m' : Int} {es es' : List ByteArray} (h : rsp n r kind key m es) (k : rsp n r kind key m' es') : m = m' ∧ es = es' := by
  rcases h with ⟨h0, h1⟩ | ⟨h0, h1, h2⟩
  · rcases k with ⟨k0, k1⟩ | ⟨k0, _⟩
    · exact ReadSpec.unique h1 k1
    · exact absurd h0 k0
  · rcases k with ⟨k0, _⟩ | ⟨_, k1, k2⟩
    · exact absurd k0 h0
    · exact ⟨h1.trans k1.symm, h2.trans k2.symm⟩
theorem rsp_len {n : Nat} {r kind : Int} {key : ByteArray} {m : Int} {es : List ByteArray} (h : rsp n r kind key m es) : es.length ≤ 4194304 := by
  rcases h with ⟨_, h1⟩ | ⟨_, _, h2⟩
  · exact ReadSpec.length h1 (by simp)
  · simp [h2]
theorem Fix.pRead (F : Fix w0 B0 W x y R n B rm bp rr f col K) (h : NSt w0 w B0 W B M) (r kind : Int) (key : ByteArray) (hk : key.size ≤ 1099511627776) :
    Calls Tryz.prog 45 #[.pointer (some ⟨x, 0, none⟩), .int .i64 r, .int .i64 kind, .string key] w fun e w' => ∃ m v es, e = .returned (.tuple #[.agg #[.int .i64 m, v], .int .i64 (rer n r kind)]) ∧ w'.ownsRow w.heap.size 9 1 v es.length (es.map Value.string) ∧ Hid (rsp n r kind key m es) ∧ Below w.heap.size w w' := by
  have hp := F.pfA h
  by_cases hr : 0 ≤ r ∧ r < n
  · obtain ⟨i, rfl⟩ : ∃ i : Nat, r = i := ⟨r.toNat, by omega⟩
    refine (prgRead_new hp (by omega : i < n) (F.rulesA h) F.x0 kind key hk).mono ?_
    rintro e w' ⟨m, v, es, rfl, ho, hs, hb⟩
    exact ⟨m, v, es, by unfold rer; rw [if_pos hr], ho, .inl ⟨er_yes hr, hs.out⟩, hb⟩
  · refine (prgRead_no x R n n r kind key w hp.cl hr).mono ?_
    rintro e w' ⟨rfl, hb⟩
    exact ⟨0, _, [], by unfold rer; rw [if_neg hr], ⟨rfl, .inl ⟨rfl, rfl⟩⟩, .inr ⟨by rw [er_no hr]; decide, rfl, rfl⟩, hb⟩
theorem Fix.dRead (F : Fix w0 B0 W x y R n B rm bp rr f col K) (h : NSt w0 w B0 W B M) (r kind : Int) (key : ByteArray) (hk : key.size ≤ 1099511627776) :
    Calls Tryz.prog 126 #[.pointer (some ⟨y, 0, none⟩), .int .i64 r, .int .i64 kind, .string key] w fun e w' => ∃ m v es, e = .returned (.tuple #[.agg #[.int .i64 m, v], .int .i64 (rer n r kind)]) ∧ w'.ownsRow w.heap.size 9 1 v es.length (es.map Value.string) ∧ Hid (rsp n r kind key m es) ∧ Below w.heap.size w w' := by
  refine (refReadC (F.refA h) F.ok lim00 r kind key hk).mono ?_
  rintro e w' ⟨m, v, es, rfl, ho, hs, hb⟩
  refine ⟨m, v, es, ?_, ho, ?_, hb⟩
  · unfold Clu.readErr rer
    rw [clu0_works]
    by_cases hr : 0 ≤ r ∧ r < n
    · rw [if_pos (er_yes hr), if_pos hr, clu0_rep (by omega)]
      rfl
    · rw [if_neg (by rw [er_no hr]; decide), if_neg hr, er_no hr]
  · have h1 := hs.out
    unfold Clu.readIs at h1
    rw [clu0_works] at h1
    rcases h1 with ⟨h0, h1⟩ | h1
    · refine .inl ⟨h0, ?_⟩
      by_cases hr : 0 ≤ r ∧ r < n
      · rw [clu0_rep (by omega)] at h1
        exact h1
      · rw [er_no hr] at h0
        cases h0
    · exact .inr h1
theorem Fix.dFrame (F : Fix w0 B0 W x y R n B rm bp rr f col K) (h : NSt w0 w B0 W B M) (k : Int) :
    Calls Tryz.prog 90 #[.pointer (some ⟨y, 0, none⟩), .int .i64 k] w fun e w' => ∃ ad cp, e = .returned (.tuple #[.agg #[.int .i64 0, .int .i64 0, .int .i64 0, .int .i64 0, .slice ad 0 cp], .int .i64 10]) ∧ Below w.heap.size w w' := by
  refine (refFrame (F.refA h) F.ok k).mono ?_
  rintro e w' ⟨v, rfl, hv, hb⟩
  have hh : (clu0 rm bp rr n f).has k = false := by unfold Clu.has clu0; simp
  unfold Clu.frmAt Clu.netErr at *
  rw [hh] at hv ⊢
  obtain ⟨ad, cp, rfl, -⟩ := hv
  exact ⟨ad, cp, rfl, hb⟩
end
end Go.Proofs.YtahdlejgjcjeoaaGreatDoor

namespace Go.Proofs.YtahdlejgjcjeoaaGreatDoor
open Go.RowKit

section
variable {w0 w : World} {B0 W x y R n B rm M : Nat} {bp rr : Bool} {f : Nat → Nat → Bool} {col : Col} {K : RefC}
set_option maxRecDepth 100000 in
set_option maxHeartbeats 1000000 in
theorem Fix.lState (F : Fix w0 B0 W x y R n B rm bp rr f col K) (h : NSt w0 w B0 W B M) (hM : M ≤ 15000000) (r : Int) :
    Calls Tryz.prog 84 #[.pointer (some ⟨W, 0, none⟩), .int .i64 r] w fun e w' => e = .returned (.bool true) ∧ NSt w0 w' B0 W B (M + 4) := by
  have hw := F.wbk h
  have c0 := blk_cell hw 0
  simp at c0
  have HF := Hid.mk F
  have HN := Hid.mk h
  have hE : er n r = 0 ∨ er n r = 5 := by unfold er; split <;> simp
  clear F h hw
  have HP := Hid.mk (fun W' h' => (HF.out.pState (w := W') (M := M) h' r))
  have HD := Hid.mk (fun W' h' => (HF.out.dState (w := W') (M := M) h' r))
  generalize er n r = E at *
  go_enter Tryz.func84, Tryz.ntmps84
  go_wp2_with fail
  refine (HP.out _ HN.out).mono ?_
  rintro e w1 ⟨v1, rfl, ho1, hv1, hb1⟩
  have HN1 := Hid.mk (HN.out.below hb1)
  have c1 := blk_cell (HF.out.wbk HN1.out) 1
  simp at c1
  obtain ⟨ad1, cp1, hf1⟩ := own_form ho1
  subst hf1
  go_wp2_with fail
  refine (HD.out _ HN1.out).mono ?_
  rintro e w2 ⟨v2, rfl, ho2, hb2⟩
  have HN2 := Hid.mk (HN1.out.below hb2)
  have c2 := blk_cell (HF.out.wbk HN2.out) 2
  simp at c2
  obtain ⟨ad2, cp2, hf2⟩ := own_form ho2
  subst hf2
  have hsame := sameAtoms_any (.slice ad1 0 cp1) (.slice ad2 0 cp2) [] w2 (sliceOf_owns rfl (owns_below ho1 hb2)) (sliceOf_owns rfl ho2) (by simp)
  have HSM := Hid.mk hsame
  have HO := Hid.mk (owns_below ho1 hb2)
  have HB := Hid.mk (hb1.trans (hb2.mono hb1.size))
  clear hsame ho1 ho2 hb1 hb2 c0 c1
  go_wp2_with fail
  refine HSM.out.mono ?_
  rintro e w3 ⟨rfl, hb3⟩
  have HN3 := Hid.mk (HN2.out.below hb3)
  have c2' := blk_cell (HF.out.wbk HN3.out) 2
  simp at c2'
  have hbw : Below w.heap.size w w3 := HB.out.trans (hb3.mono HB.out.size)
  have HC := Hid.mk (HF.out.ownA HN.out hM hbw (v := .slice ad1 0 cp1) (l := []) (owns_below HO.out hb3) (by simp))
  clear hb3 hbw c2 HP HD HSM HO HB HN HN1 HN2
  rcases hE with rfl | rfl
  · clear hv1
    go_wp2_with fail
    refine HC.out.mono ?_
    rintro e w4 ⟨rfl, hn4⟩
    have HR := Hid.mk hn4
    clear HC hn4
    go_wp2
    go_ret
    exact ⟨rfl, HR.out⟩
  · obtain ⟨rfl, rfl⟩ : ad1 = none ∧ cp1 = 0 := by
      rcases hv1.out with h | h
      · cases h
      · cases h; exact ⟨rfl, rfl⟩
    clear hv1
    go_wp2_with fail
    refine HC.out.mono ?_
    rintro e w4 ⟨rfl, hn4⟩
    have HR := Hid.mk hn4
    clear HC hn4
    go_wp2
    go_ret
    exact ⟨rfl, HR.out⟩

set_option maxRecDepth 100000 in
set_option maxHeartbeats 1000000 in
theorem Fix.lLog (F : Fix w0 B0 W x y R n B rm bp rr f col K) (h : NSt w0 w B0 W B M) (r : Int) :
    Calls Tryz.prog 87 #[.pointer (some ⟨W, 0, none⟩), .int .i64 r] w fun e w' => e = .returned (.bool true) ∧ NSt w0 w' B0 W B M := by
  have c0 := blk_cell (F.wbk h) 0
  simp at c0
  have HP := Hid.mk (F.pLog h r)
  have HD := Hid.mk (fun W' h' => (F.dLog (w := W') (M := M) h' r))
  have HF := Hid.mk F
  have HN := Hid.mk h
  clear F h
  generalize er n r = E at *
  go_enter Tryz.func87, Tryz.ntmps87
  go_wp2_with fail
  refine HP.out.mono ?_
  rintro e w1 ⟨rfl, hb1⟩
  have HN1 := Hid.mk (HN.out.below hb1)
  have c1 := blk_cell (HF.out.wbk HN1.out) 1
  simp at c1
  clear hb1
  go_wp2_with fail
  refine (HD.out _ HN1.out).mono ?_
  rintro e w2 ⟨rfl, hb2⟩
  have HN2 := Hid.mk (HN1.out.below hb2)
  clear hb2
  go_wp2
  go_ret
  exact ⟨rfl, HN2.out⟩

set_option maxRecDepth 100000 in
theorem Fix.lFlight (F : Fix w0 B0 W x y R n B rm bp rr f col K) (h : NSt w0 w B0 W B M) :
    Calls Tryz.prog 43 #[.pointer (some ⟨W, 0, none⟩)] w fun e w' => e = .returned (.bool true) ∧ NSt w0 w' B0 W B M := by
  have c0 := blk_cell (F.wbk h) 0
  simp at c0
  have hp := F.pfA h
  have HP := Hid.mk (prgFlight x R n n none 0 0 w hp.cl hp.c42)
  have HF := Hid.mk F
  have HN := Hid.mk h
  clear F h hp
  go_enter Tryz.func43, Tryz.ntmps43
  go_wp2_with fail
  refine HP.out.mono ?_
  rintro e w1 ⟨rfl, hb1⟩
  have HN1 := Hid.mk (HN.out.below hb1)
  have c1 := blk_cell (HF.out.wbk HN1.out) 1
  simp at c1
  have HD := Hid.mk (refFlight (HF.out.refA HN1.out))
  clear hb1
  go_wp2_with fail
  refine HD.out.mono ?_
  rintro e w2 ⟨rfl, rfl⟩
  go_wp2
  go_ret
  exact ⟨rfl, HN1.out⟩
end
end Go.Proofs.YtahdlejgjcjeoaaGreatDoor

namespace Go.Proofs.YtahdlejgjcjeoaaGreatDoor
open Go.RowKit

section
variable {w0 w : World} {B0 W x y R n B rm M : Nat} {bp rr : Bool} {f : Nat → Nat → Bool} {col : Col} {K : RefC}
set_option maxRecDepth 100000 in
set_option maxHeartbeats 1000000 in
theorem Fix.lBuffer (F : Fix w0 B0 W x y R n B rm bp rr f col K) (h : NSt w0 w B0 W B M) (hM : M ≤ 15000000) (r : Int) :
    Calls Tryz.prog 86 #[.pointer (some ⟨W, 0, none⟩), .int .i64 r] w fun e w' => e = .returned (.bool true) ∧ NSt w0 w' B0 W B (M + 4) := by
  have c0 := blk_cell (F.wbk h) 0
  simp at c0
  have HP := Hid.mk (F.pBuffer h r)
  have HD := Hid.mk (fun W' h' => (F.dBuffer (w := W') (M := M) h' r))
  have HF := Hid.mk F
  have HN := Hid.mk h
  have hE : er n r = 0 ∨ er n r = 5 := by unfold er; split <;> simp
  clear F h
  generalize er n r = E at *
  go_enter Tryz.func86, Tryz.ntmps86
  go_wp2_with fail
  refine HP.out.mono ?_
  rintro e w1 ⟨rfl, hb1⟩
  have HN1 := Hid.mk (HN.out.below hb1)
  have c1 := blk_cell (HF.out.wbk HN1.out) 1
  simp at c1
  clear hb1
  go_wp2_with fail
  refine (HD.out _ HN1.out).mono ?_
  rintro e w2 ⟨ad, cp, rfl, hb2⟩
  have HN2 := Hid.mk (HN1.out.below hb2)
  have c2 := blk_cell (HF.out.wbk HN2.out) 2
  simp at c2
  have HC := Hid.mk (HF.out.ownE HN2.out hM)
  clear hb2 c0 c1 HP HD HN HN1
  rcases hE with rfl | rfl
  all_goals
    go_wp2
    go_loopw [9] (fun s wr => s = .int .i64 0 ∧ wr = w2) (fun _ _ => 0)
    case atStart => exact ⟨rfl, rfl⟩
    case round =>
      obtain ⟨rfl, rfl⟩ := hrel
      go_wp2_with fail
      refine HC.out.mono ?_
      rintro e w4 ⟨rfl, hn4⟩
      have HR := Hid.mk hn4
      clear HC hn4
      go_wp2
      go_ret
      exact ⟨rfl, HR.out⟩

set_option maxRecDepth 100000 in
set_option maxHeartbeats 1000000 in
theorem Fix.lFrame (F : Fix w0 B0 W x y R n B rm bp rr f col K) (h : NSt w0 w B0 W B M) (hM : M ≤ 15000000) (k : Int) :
    Calls Tryz.prog 41 #[.pointer (some ⟨W, 0, none⟩), .int .i64 k] w fun e w' => e = .returned (.bool true) ∧ NSt w0 w' B0 W B (M + 4) := by
  have c0 := blk_cell (F.wbk h) 0
  simp at c0
  have hp := F.pfA h
  have HP := Hid.mk (prgFrame_none x R n n k w hp.cl hp.c42)
  have HD := Hid.mk (fun W' h' => (F.dFrame (w := W') (M := M) h' k))
  have HF := Hid.mk F
  have HN := Hid.mk h
  clear F h hp
  go_enter Tryz.func41, Tryz.ntmps41
  go_wp2_with fail
  refine HP.out.mono ?_
  rintro e w1 ⟨rfl, hb1⟩
  have HN1 := Hid.mk (HN.out.below hb1)
  have c1 := blk_cell (HF.out.wbk HN1.out) 1
  simp at c1
  have HB1 := Hid.mk hb1
  have hWl : W < w1.heap.size := blk_lt (HF.out.wbk HN1.out)
  clear hb1
  go_wp2_with fail
  refine (HD.out _ (HN1.out.below (below_alloc (Below.refl _ _) _))).mono ?_
  rintro e w2 ⟨ad, cp, rfl, hb2⟩
  have HN2 := Hid.mk ((HN1.out.below (below_alloc (Below.refl _ _) _)).below hb2)
  have hA2 := (hb2.block w1.heap.size (by simp)).trans (heap_alloc_new w1 _)
  have HA2 := Hid.mk hA2
  have a4 := blk_cell hA2 4
  simp at a4
  have hAl : w1.heap.size < w2.heap.size := blk_lt hA2
  have HSM : Hid (∀ W', Calls Tryz.prog 91 #[.slice none 0 0, .slice ad 0 cp] W' fun e w' => e = .returned (.bool true) ∧ Below W'.heap.size W' w') := fun W' => sameAtoms_any (.slice none 0 0) (.slice ad 0 cp) [] W' (sliceOf_nil W') ⟨ad, cp, rfl, Nat.zero_le _, fun h => by simp at h⟩ (by simp)
  clear hb2 hA2 HD HP c0 c1 hWl
  go_wp2_with fail
  refine (HSM.out _).mono ?_
  rintro e w3 ⟨rfl, hb3⟩
  have hA3 : w3.heap[w1.heap.size]? = some (.cells #[.int .i64 0, .int .i64 0, .int .i64 0, .int .i64 0, .slice none 0 0] 153 (0, 0)) := (hb3.block w1.heap.size (by simp; omega)).trans ((((Below.refl _ w2).alloc (Nat.le_refl _) _).block _ hAl).trans HA2.out)
  have hB3 : w3.heap[w2.heap.size]? = some (.cells #[.int .i64 0, .int .i64 0, .int .i64 0, .int .i64 0, .slice ad 0 cp] 153 (0, 0)) := (hb3.block w2.heap.size (by simp)).trans (heap_alloc_new w2 _)
  have HN3 := Hid.mk ((HN2.out.below (below_alloc (Below.refl _ _) _)).below hb3)
  have c2 := blk_cell (HF.out.wbk HN3.out) 2
  simp at c2
  have a0 := blk_cell hA3 0
  have a1 := blk_cell hA3 1
  have a2 := blk_cell hA3 2
  have a3 := blk_cell hA3 3
  have a4 := blk_cell hA3 4
  have b0 := blk_cell hB3 0
  have b1 := blk_cell hB3 1
  have b2 := blk_cell hB3 2
  have b3 := blk_cell hB3 3
  simp at a0 a1 a2 a3 a4 b0 b1 b2 b3
  have HC := Hid.mk (HF.out.ownA (HN3.out.below (Below.refl _ _).drew) hM (Below.refl _ _) (v := .slice none 0 0) (l := []) ⟨rfl, .inl ⟨rfl, rfl⟩⟩ (by simp))
  clear hb3 hA3 hB3 HSM
  go_wp2_with fail
  refine wp_region_last 6 (S := fun w' => w'.cell? ⟨W, 2, none⟩ = some (.pointer (some ⟨B, 0, none⟩)) ∧ w'.cell? ⟨w1.heap.size, 4, none⟩ = some (.slice none 0 0)) (by kernel_rfl) ⟨c2, a4⟩ (fun hHeld => ?_)
  refine wpAnyL_takeY (i := 0) (oi := _) (v := ?_) rfl (by kernel_rfl) (by kernel_rfl) (by kernel_rfl) (by kernel_rfl) (fun _ _ _ h => h) (Or.inl ⟨by rfl, ?_⟩) (by assumption) ?_
  rotate_left
  · intro w _
    go_simp <;> with_reducible rfl
  simp only [Act.put, List.setIfInBounds_toArray]
  refine wpAnyL_takeY (i := 1) (oi := _) (v := ?_) rfl (by kernel_rfl) (by kernel_rfl) (by kernel_rfl) (by kernel_rfl) (fun _ _ _ h => h) (Or.inl ⟨by rfl, ?_⟩) (by assumption) ?_
  rotate_left
  · intro w _
    go_simp <;> with_reducible rfl
  simp only [Act.put]
  refine wpAnyL_takeY (i := 2) (oi := _) (v := ?_) rfl (by kernel_rfl) (by kernel_rfl) (by kernel_rfl) (by kernel_rfl) (fun _ _ _ h => h) (Or.inl ⟨by rfl, ?_⟩) (by assumption) ?_
  rotate_left
  · intro w _
    go_simp <;> with_reducible rfl
  simp only [Act.put]
  refine wpAnyL_take (i := 3) (oi := _) (v := ?_) rfl (by kernel_rfl) (by kernel_rfl) (by kernel_rfl) (by kernel_rfl) (fun _ _ _ h => h) (Or.inl ⟨by rfl, ?_⟩) (by assumption) (by kernel_rfl) ?_
  rotate_left
  · intro w hSw
    try dsimp only at hSw
    go_simp <;> with_reducible rfl
  simp only [Act.put]
  refine wpAnyL_takeY (i := 4) (oi := _) (v := ?_) rfl (by kernel_rfl) (by kernel_rfl) (by kernel_rfl) (by kernel_rfl) (fun _ _ _ h => h) (Or.inl ⟨by rfl, ?_⟩) (by assumption) ?_
  rotate_left
  · intro w _
    go_simp <;> with_reducible rfl
  simp only [Act.put]
  refine wpAnyL_take (i := 5) (oi := _) (v := ?_) rfl (by kernel_rfl) (by kernel_rfl) (by kernel_rfl) (by kernel_rfl) (fun _ _ _ h => h) (Or.inl ⟨by rfl, ?_⟩) (by assumption) (by kernel_rfl) ?_
  rotate_left
  · intro w hSw
    try dsimp only at hSw
    go_simp <;> with_reducible rfl
  simp only [Act.put]
  refine wpAnyL_ready (rs := [6]) (by kernel_rfl) (by simp) ?_
  refine AllReadyL.cons (o := _) rfl (fun K hK => ?_) AllReadyL.nil
  go_simp
  refine HC.out.mono ?_
  rintro e w4 ⟨rfl, hn4⟩
  have HR := Hid.mk hn4
  clear HC hn4
  go_wp2_with fail
  refine hK.out _ _ (fun h => not_unl (by kernel_rfl) h) (fun _ => ?_)
  clear hK K
  refine wpAnyL_done (by kernel_rfl) ?_ _
  go_wp2
  go_ret
  exact ⟨rfl, HR.out⟩
end
end Go.Proofs.YtahdlejgjcjeoaaGreatDoor
