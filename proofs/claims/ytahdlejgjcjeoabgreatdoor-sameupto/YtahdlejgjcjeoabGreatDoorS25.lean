/- slices.DeleteFunc of entries, by their numbers: the test, and the search ahead. -/
import Derived.Test.YtahdlejgjcjeoabGreatDoorS24
import Derived.Test.YtahdlejgjcjeoabGreatDoorS22
import Derived.Test.YtahdlejgjcjeoabGreatDoorS17
import Derived.Maps.OwnSet
namespace Go.Proofs.YtahdlejgjcjeoabGreatDoor
open Go.RowKit Go.MuLone

theorem setD_n {K : PrK} {D : PrD} {m : Nat} {hm : m < K.Ds.length} (h : ∀ i (h : i < K.Ds.length), (K.Ds[i]).n ≤ 4194304) (hD : D.n = (K.Ds[m]).n) : ∀ i (h : i < (K.setD m D).Ds.length), ((K.setD m D).Ds[i]).n ≤ 4194304 := by
  intro j hj
  by_cases e : j = m
  · subst e
    rw [K.setD_at, hD]
    exact h j hm
  · have hj' : j < K.Ds.length := by rw [← K.setD_len m D]; exact hj
    have h1 : (K.setD m D).Ds[j] = K.Ds[j] := List.getElem_set_ne (fun e' => e e'.symm) _
    rw [h1]
    exact h j hj'
/-- What Send does once the frame is told: the numbers, then launch; and the lock is given back. -/
theorem prg_send_tail {w w3 : World} {col : Col} {o x N m q : Nat} {U : List At} {K : PrK} {c : Clu} {vS : Value} {DD : List At} {kd : Nat} (h : PrgAt w col o x K c) (hok : c.ok U N) (hm : m < c.reps.length)
    (hZ : Below (w.setCell ⟨x, 0, none⟩ (.int .i32 1)).heap.size (w.setCell ⟨x, 0, none⟩ (.int .i32 1)) w3) (hO : w3.ownsRow (w.setCell ⟨x, 0, none⟩ (.int .i32 1)).heap.size 76 6 vS DD.length (flat DD)) (hfr : (c.rep m).frame c.bp m q = ⟨kd, m, q, (c.rep m).num, DD⟩) :
    (∀ W, Below ((w3.setCell ⟨K.R, m * 14 + 12, none⟩ (.int .i64 (((c.rep m).frames : Int) + 1))).setCell ⟨K.R, m * 14 + 13, none⟩ (.int .i64 (((c.rep m).weight : Int) + DD.length))).heap.size ((w3.setCell ⟨K.R, m * 14 + 12, none⟩ (.int .i64 (((c.rep m).frames : Int) + 1))).setCell ⟨K.R, m * 14 + 13, none⟩ (.int .i64 (((c.rep m).weight : Int) + DD.length))) W →
      Calls Tryz.prog 79 #[.pointer (some ⟨x, 0, none⟩), .agg #[.int .i64 kd, .int .i64 m, .int .i64 q, .int .i64 (c.rep m).num, vS]] W fun e w' => e = .returned (.tuple #[]) ∧ w'.cell? ⟨x, 0, none⟩ = some (.int .i32 1) ∧ w'.frozen? ⟨x, 0, none⟩ = false ∧ ∃ K' col', Hid (PrgAt (w'.setCell ⟨x, 0, none⟩ (.int .i32 0)) col' o x K' (c.sent m q)) ∧ Hid (FrC (ofOwn o) col col' w (w'.setCell ⟨x, 0, none⟩ (.int .i32 0)))) := by
  intro W hW
  have hm' : m < K.Ds.length := by rw [h.is.len]; exact hm
  obtain ⟨k1, k2⟩ := h.locked
  have hD := h.is.reps m hm'
  have hI := (PrAt.inside k1 (by show K.Ds.length ≤ 6; rw [h.is.len]; exact hok.n6) hm').below hZ (o, 1)
  have HV : Held w3 (paint col (w.setCell ⟨x, 0, none⟩ (.int .i32 1)).heap.size (o, 1)) (o, 1) vS DD := held_made rfl hO
  have f3 := k2.trans (frC_below (S := ofOwn o) hZ (o, 1))
  generalize paint col (w.setCell ⟨x, 0, none⟩ (.int .i32 1)).heap.size (o, 1) = col3 at *
  obtain ⟨i1, g1⟩ := hI.put (k := 12) (u := .int .i64 (((c.rep m).frames : Int) + 1)) (by omega) { K.Ds[m] with frames := (c.rep m).frames + 1 } (by simp [PrD.cells]) rfl rfl rfl rfl rfl rfl rfl
  obtain ⟨i2, g2⟩ := i1.put (k := 13) (u := .int .i64 (((c.rep m).weight : Int) + DD.length)) (by omega) { K.Ds[m] with frames := (c.rep m).frames + 1, weight := (c.rep m).weight + DD.length } (by simp [PrD.cells]) rfl rfl rfl rfl rfl rfl rfl
  have g12 := g1.trans g2
  have hA := i2.close.same hW
  have hV2 := (HV.kept g12 (ofPrg_one (Nat.lt_of_lt_of_le hm hok.n6))).kept (S := fun _ => False) (frC_same hW) id
  have hl200 : K.ns.length ≤ 200 := by rw [h.lenN]; exact hok.netL
  have hp := prgLaunch (f := ⟨kd, m, q, (c.rep m).num, DD⟩) (v := vS) hA hl200 hV2
  refine hp.mono ?_
  rintro e w' ⟨rfl, v', ns', col', p1, p2, p3⟩
  obtain ⟨u0, u1, u2, u3⟩ := PrB.unlock (K := (K.setD m { K.Ds[m] with frames := (c.rep m).frames + 1, weight := (c.rep m).weight + DD.length }).setN v' ns') p1.out h.is.lk
  refine ⟨rfl, u0, u1, (K.setD m { K.Ds[m] with frames := (c.rep m).frames + 1, weight := (c.rep m).weight + DD.length }).setN v' ns', col', ⟨u2, ?_, ?_⟩, (((f3.trans (g12.mono ofOwn_prg)).trans (frC_same hW)).trans (p3.out.mono netS_own)).trans (u3.mono ofOwn_lock)⟩
  · have hs : c.sent m q = (c.setRep m { c.rep m with frames := (c.rep m).frames + 1, weight := (c.rep m).weight + DD.length }).put ⟨kd, m, q, (c.rep m).num, DD⟩ := by unfold Clu.sent; rw [hfr]
    rw [hs, put_putN]
    have hset := h.is.set (i := m) (p := { c.rep m with frames := (c.rep m).frames + 1, weight := (c.rep m).weight + DD.length }) (D := { K.Ds[m] with frames := (c.rep m).frames + 1, weight := (c.rep m).weight + DD.length }) hm ⟨hD.up, hD.num, hD.base, hD.M, hD.buf, hD.ak, hD.bytes, rfl, rfl⟩
    exact hset.setN (by rw [p2.out]; show putN (K.ns.map Fm.f) _ = _; rw [h.is.nets]; rfl)
  · exact setD_n h.n rfl

theorem sendErr_no {c : Clu} {r q : Int} (h : c.there r = false ∨ c.there q = false) : c.sendErr r q = 5 ∧ c.send r q = c := by
  have e : c.sendErr r q = 5 := by unfold Clu.sendErr; rw [if_pos h]
  exact ⟨e, by unfold Clu.send; rw [e]; rfl⟩
theorem sendErr_yes {c : Clu} {m q : Nat} (hm : m < c.reps.length) (hq : q < c.reps.length) : c.sendErr m q = (if c.near m q = false then 7 else if (c.rep m).down then 8 else 0) ∧ c.send m q = if c.sendErr m q = 0 then c.sent m q else c := by
  refine ⟨?_, rfl⟩
  unfold Clu.sendErr
  rw [if_neg (by simp [Clu.there]; omega)]
  rfl

set_option maxRecDepth 100000 in
set_option maxHeartbeats 4000000 in
theorem prgSend {w : World} {col : Col} {o x N : Nat} {U : List At} {K : PrK} {c : Clu} (h : PrgAt w col o x K c) (ho : o ≠ 0) (hT : Tab w col) (hok : c.ok U N) (hL : Lim U N) (r q : Int) :
    Calls Tryz.prog 32 #[.pointer (some ⟨x, 0, none⟩), .int .i64 r, .int .i64 q] w fun e w' => e = .returned (.int .i64 (c.sendErr r q)) ∧ ∃ K' col', Hid (PrgAt w' col' o x K' (c.send r q)) ∧ Hid (FrC (ofOwn o) col col' w w') := by
  have hcl := h.at_.clAt h.is.lk
  obtain ⟨k1, k2⟩ := h.locked
  have HK := hid_of h
  by_cases hth : c.there r = false ∨ c.there q = false
  · obtain ⟨e1, e2⟩ := sendErr_no hth
    rw [e1, e2]
    have HS := Hid.mk (prgSender_no k1 r q (by
      have hl : ({ K with lk := 1 } : PrK).Ds.length = c.reps.length := h.is.len
      rw [hl]
      simpa [Clu.there] using hth))
    clear h hT hok hL k1 k2 e1 e2 hth
    go_enter_defers Tryz.func32, Tryz.ntmps32
    go_wp2_with (go_at_call 44; refine (lock_free muLib ⟨x, 0, none⟩ _ hcl.c0 hcl.f0).mono ?_; rintro e w' ⟨rfl, rfl⟩)
    refine HS.out.mono ?_
    rintro e w2 ⟨hb2, rfl⟩
    rw [lock_size] at hb2
    go_wp2
    refine leaves_cons (f := 45) (args := #[.pointer (some ⟨x, 0, none⟩)]) (by simp) (by simp [go_sem]) ?_
    obtain ⟨u0, u1, u2⟩ := hcl.unlock hb2
    refine (unlock_deferred muLib ⟨x, 0, none⟩ .returning _ u0 u1).mono ?_
    rintro e u' w'' ⟨rfl, rfl, rfl⟩
    exact ⟨_, results_tmp rfl _ _ _, rfl, K, col, HK.out.same u2, frC_same u2⟩
  · obtain ⟨m, rfl⟩ : ∃ m : Nat, r = m := ⟨r.toNat, by simp [Clu.there] at hth; omega⟩
    obtain ⟨k, rfl⟩ : ∃ k : Nat, q = k := ⟨q.toNat, by simp [Clu.there] at hth; omega⟩
    have hm : m < c.reps.length := by simp [Clu.there] at hth; omega
    have hk : k < c.reps.length := by simp [Clu.there] at hth; omega
    have hn6 := hok.n6
    have hm' : m < K.Ds.length := by rw [h.is.len]; exact hm
    have hk' : k < K.Ds.length := by rw [h.is.len]; exact hk
    obtain ⟨e1, e2⟩ := sendErr_yes hm hk
    have hD := h.is.reps m hm'
    have hrep := hok.rep hm
    have hup : (K.Ds[m]).up = !(c.rep m).down := hD.up
    have HS := Hid.mk (prgSender_both k1 (by show K.Ds.length ≤ 6; rw [h.is.len]; exact hn6) m k hm' hk')
    have hnr : K.near m k = c.near m k := h.is.near m k (by omega) (by omega)
    have hS2 : Hid (Calls Tryz.prog 77 #[.pointer (some ⟨x, 0, none⟩), .int .i64 m, .int .i64 k] (w.setCell ⟨x, 0, none⟩ (.int .i32 1)) fun e w' => Below (w.setCell ⟨x, 0, none⟩ (.int .i32 1)).heap.size (w.setCell ⟨x, 0, none⟩ (.int .i32 1)) w' ∧ e = .returned (.tuple #[.pointer (if c.sendErr m k = 0 then some ⟨K.R, m * 14, none⟩ else none), .int .i64 (c.sendErr m k)])) := by
      refine HS.out.mono fun e w' ⟨a1, a2⟩ => ⟨a1, ?_⟩
      rw [a2, e1]
      show Ending.returned (.tuple #[.pointer (if K.near m k = true ∧ (K.Ds[m]).up = true then some ⟨K.R, m * 14, none⟩ else none), .int .i64 (if K.near m k = false then 7 else if (K.Ds[m]).up = true then 0 else 8)]) = _
      rw [hnr, hup]
      cases c.near m k <;> cases (c.rep m).down <;> rfl
    clear HS
    by_cases he : c.sendErr m k = 0
    · have hT1 := hT.kept k2 (fun e => ho e.symm)
      have hmay : ∀ a ∈ (c.rep m).atoms, mayB a = true := fun a ha => hok.may a (hrep.sub a ha)
      have hbuf : ∀ e ∈ (K.Ds[m]).es, e.d.length ≤ 131072 ∧ ∀ a ∈ e.d, mayB a = true := fun e he => by
        have hin : e.ent ∈ (c.rep m).buf := by rw [← hD.buf]; exact List.mem_map_of_mem he
        obtain ⟨h1, h2, -⟩ := hrep.buf _ hin
        exact ⟨Nat.le_trans (h1.length h2) hL.2, fun a ha => hok.may a (h2 a ha)⟩
      have hes : (K.Ds[m]).es.length ≤ 9 := by
        have := hrep.bufL
        rw [← hD.buf, List.length_map] at this
        have := hok.room8
        omega
      obtain ⟨F, HF⟩ : ∃ F, Hid ((c.rep m).frame c.bp m k = F) := ⟨_, rfl⟩
      have hFh := frame_head (c.rep m) c.bp m k
      rw [HF.out] at hFh
      have hFl : F.d.length ≤ 131072 := by
        have hfo := frame_ok hok (r := m) (q := k) hm hk
        rw [HF.out] at hfo
        exact Nat.le_trans (hfo.told.length hfo.sub) hL.2
      have HNW : Hid (∀ W, Below (w.setCell ⟨x, 0, none⟩ (.int .i32 1)).heap.size (w.setCell ⟨x, 0, none⟩ (.int .i32 1)) W → Calls Tryz.prog 78 #[.pointer (some ⟨K.R, m * 14, none⟩), .int .i64 k, .bool K.bp] W fun e w' => ∃ v, e = .returned (.tuple #[.int .i64 F.kind, v]) ∧ w'.ownsRow W.heap.size 76 6 v F.d.length (flat F.d) ∧ Below W.heap.size W w') := fun W hW => by
        have kW := k1.same hW
        have pW := kW.reps m hm' (by simp)
        refine (prgNews K.R m k K.bp K.Ds[m] W (hT1.below hW).rules (kW.cells hm') (by omega) pW.st (by rw [hD.M]; exact (holds_list _).mayMap hmay) (by have := h.n m hm'; omega) pW.buf.own (fun e he => (pW.ed e he).slice) (fun e he => (hbuf e he).1) (fun e he => (hbuf e he).2) hes).mono ?_
        rintro e w' ⟨v, out, rfl, ho', ht, hb⟩
        have hak : (K.Ds[m]).ak k = (c.rep m).acked.getD k 0 := hD.ak k (by omega)
        have hFF : F = if (c.rep m).acked.getD k 0 < (c.rep m).base then ⟨2, m, k, (c.rep m).num, tell (c.rep m).atoms⟩ else ⟨1, m, k, (c.rep m).num, tell ((((c.rep m).toSend c.bp k).map (·.d)).flatten)⟩ := HF.out.symm
        have ht := ht.out
        rw [hak, hD.base, h.is.bp] at ht
        rw [hak, hD.base]
        by_cases hlt : (c.rep m).acked.getD k 0 < (c.rep m).base
        · rw [if_pos hlt] at hFF ht ⊢
          rw [hD.M] at ht
          have := tellOf_is hmay ht
          subst this hFF
          exact ⟨v, rfl, ho', hb⟩
        · rw [if_neg hlt] at hFF ht ⊢
          have hmy : ∀ a ∈ sendE c.bp ((c.rep m).acked.getD k 0) k (K.Ds[m]).es, mayB a = true := fun a ha => by obtain ⟨e, he, hae⟩ := sendE_mem ha; exact (hbuf e he).2 a hae
          have := tellOf_is hmy ht
          rw [sendE_all hD.buf] at this
          subst this hFF
          exact ⟨v, rfl, ho', hb⟩
      have HC3 : Hid (∀ W, Below (w.setCell ⟨x, 0, none⟩ (.int .i32 1)).heap.size (w.setCell ⟨x, 0, none⟩ (.int .i32 1)) W → W.cell? ⟨x, 2, none⟩ = some (.bool K.bp) ∧ W.cell? ⟨K.R, m * 14 + 1, none⟩ = some (.int .i64 (c.rep m).num) ∧ W.cell? ⟨K.R, m * 14 + 12, none⟩ = some (.int .i64 (c.rep m).frames) ∧ W.cell? ⟨K.R, m * 14 + 13, none⟩ = some (.int .i64 (c.rep m).weight) ∧ (∀ j, W.frozen? ⟨K.R, j, none⟩ = false) ∧ K.R < W.heap.size ∧ x < W.heap.size ∧ x ≠ K.R) := fun W hW => by
        have kW := k1.same hW
        have cW := kW.cells hm'
        refine ⟨kW.cl.2.1, ?_, ?_, ?_, cW.fz, blk_lt kW.row, blk_lt kW.blk, kW.xR⟩
        · rw [← hD.num]; exact cW.c1
        · rw [← hD.frames]; exact cW.c12
        · rw [← hD.weight]; exact cW.c13
      have HTA : Hid (∀ w3 vS, Below (w.setCell ⟨x, 0, none⟩ (.int .i32 1)).heap.size (w.setCell ⟨x, 0, none⟩ (.int .i32 1)) w3 → w3.ownsRow (w.setCell ⟨x, 0, none⟩ (.int .i32 1)).heap.size 76 6 vS F.d.length (flat F.d) → _) := fun w3 vS hZ hO => prg_send_tail (q := k) (kd := F.kind) h hok hm hZ hO (by rw [HF.out]; obtain ⟨a, b, c, d, e⟩ := F; obtain ⟨x1, x2, x3, -⟩ := hFh; simp only at x1 x2 x3; rw [x1, x2, x3])
      rw [if_pos he] at e2 hS2
      rw [e2, he]
      rw [he] at hS2
      have hfrN := hrep.fr
      have hwtN := Nat.le_trans hrep.wt (Nat.mul_le_mul hL.1 hL.2)
      have hLN := hL.1
      clear h hT hok hL k1 k2 e1 e2 hth hD hrep hup hnr HK hT1 hmay hbuf hes HF hFh
      generalize (c.rep m).frames = fr at *
      generalize (c.rep m).weight = wt at *
      generalize (c.rep m).num = nm at *
      generalize F.kind = fk at *
      generalize F.d = fd at *
      go_enter_defers Tryz.func32, Tryz.ntmps32
      go_wp2_with (go_at_call 44; refine (lock_free muLib ⟨x, 0, none⟩ _ hcl.c0 hcl.f0).mono ?_; rintro e w' ⟨rfl, rfl⟩)
      refine hS2.out.mono ?_
      rintro e w2 ⟨hb2, rfl⟩
      obtain ⟨z2, -, -, -, -, -, zx, -⟩ := HC3.out w2 hb2
      go_wp2_with fail
      refine (HNW.out _ hb2).mono ?_
      rintro e w3 ⟨v3, rfl, ho3, hb3⟩
      have hb23 := hb2.trans (hb3.mono hb2.size)
      obtain ⟨ad3, cp3, hv3⟩ := own_form ho3
      subst hv3
      obtain ⟨-, y1, y12, y13, yf, yR, yx, yne⟩ := HC3.out w3 hb23
      have HPU := Hid.mk (HTA.out w3 _ hb23 (owns_mono ho3 hb2.size))
      have yf12 := yf (m * 14 + 12)
      have yf13 := yf (m * 14 + 13)
      clear ho3 hb3 hb2 hb23 HTA HNW HC3 hS2 yf z2 zx
      go_wp2_with fail
      refine (HPU.out _ (Below.refl _ _)).mono ?_
      rintro e w7 ⟨rfl, u0, u1, K7, col7, hR7, hF7⟩
      clear HPU
      go_wp2
      refine leaves_cons (f := 45) (args := #[.pointer (some ⟨x, 0, none⟩)]) (by simp) (by simp [go_sem]) ?_
      refine (unlock_deferred muLib ⟨x, 0, none⟩ .returning _ u0 u1).mono ?_
      rintro e u' w'' ⟨rfl, rfl, rfl⟩
      exact ⟨_, results_tmp rfl _ _ _, rfl, K7, col7, hR7, hF7⟩
    · rw [if_neg he] at e2
      rw [e2]
      rw [if_neg he] at hS2
      generalize c.sendErr m k = er at *
      clear h hT hok hL k1 k2 e1 e2 hth hD hrep hup hnr
      go_enter_defers Tryz.func32, Tryz.ntmps32
      go_wp2_with (go_at_call 44; refine (lock_free muLib ⟨x, 0, none⟩ _ hcl.c0 hcl.f0).mono ?_; rintro e w' ⟨rfl, rfl⟩)
      refine hS2.out.mono ?_
      rintro e w2 ⟨hb2, rfl⟩
      rw [lock_size] at hb2
      go_wp2
      refine leaves_cons (f := 45) (args := #[.pointer (some ⟨x, 0, none⟩)]) (by simp) (by simp [go_sem]) ?_
      obtain ⟨u0, u1, u2⟩ := hcl.unlock hb2
      refine (unlock_deferred muLib ⟨x, 0, none⟩ .returning _ u0 u1).mono ?_
      rintro e u' w'' ⟨rfl, rfl, rfl⟩
      exact ⟨_, results_tmp rfl _ _ _, rfl, K, col, HK.out.same u2, frC_same u2⟩
end Go.Proofs.YtahdlejgjcjeoabGreatDoor

namespace Go.Proofs.YtahdlejgjcjeoabGreatDoor
open Go.RowKit Go.MuLone

theorem insertW_len {H : Type} (x : Lit × DataW H) : ∀ l : List (Lit × DataW H), (DataW.insert x l).length = l.length + 1
  | [] => rfl
  | z :: r => by
    unfold DataW.insert
    split
    · rfl
    · rw [List.length_cons, insertW_len x r, List.length_cons]
theorem sortW_len {H : Type} : ∀ l : List (Lit × DataW H), (l.foldr DataW.insert []).length = l.length
  | [] => rfl
  | x :: r => by rw [List.foldr_cons, insertW_len, sortW_len r, List.length_cons]
theorem underMap : Tryz.prog.underlying 122 = some (.map 211 213) := by kernel_rfl
/-- How many slots a state has: none, just if nothing is in it. -/
theorem StMap.len {w : World} {b n : Nat} {M : Sl → Option Gr} (h : StMap w b n M) : ∃ k : Nat, (∀ ty, (Builtin.len_ #[122] ty #[.map (some b)]).run Tryz.prog w = .ok (.int .i64 k) w) ∧ (k = 0 ↔ ∀ s g, M s ≠ some g) := by
  have h0 := h
  obtain ⟨D, hown, h2, h3⟩ := h
  refine ⟨Maps.size D, fun ty => hown.len underMap ty, ?_⟩
  obtain ⟨es, clock, hb, F, hs, hD⟩ := hown
  constructor
  · intro hk s g hM
    obtain ⟨-, hhas, -⟩ := h3 s g hM
    rw [hD] at hk hhas
    rw [Maps.size_eq] at hk
    rw [List.length_eq_zero_iff.1 hk] at hhas
    cases hhas
  · intro hM
    obtain ⟨D', ⟨es', clock', hb', F', hs', -⟩, -⟩ := h0.shrink [] (fun s g h => absurd h (hM s g))
    rw [hb] at hb'
    cases hb'
    rw [hD, Maps.size_eq, sortW_len, List.length_map]
    simpa using hs'

theorem fresh_news {d m : List At} (hd : ∀ a ∈ d, mayB a = true) : IsNews d m (fresh d m) := by
  have := news_of_told (m := m) hd (tell_told d)
  unfold newsTo at this
  rwa [List.take_of_length_le (Nat.le_refl _)] at this
theorem thin_none {d m : List At} (hd : ∀ a ∈ d, mayB a = true) : (∀ s g, thinM (addTo (fun _ => none) d) (addTo (fun _ => none) m) s ≠ some g) ↔ fresh d m = [] := by
  constructor
  · intro h
    refine List.eq_nil_iff_forall_not_mem.2 fun x hx => ?_
    obtain ⟨h1, h2, h3⟩ := ((fresh_news hd).mem x).1 hx
    obtain ⟨g, hg, hle⟩ := (holds_list d).top x h1
    obtain ⟨b, hb, e1, rfl⟩ := (holds_list d).only _ _ hg
    refine h (slot x) (grade b) (thinM_mk hg ?_)
    intro g' hg'
    obtain ⟨y, hy, e2, rfl⟩ := (holds_list m).only _ _ hg'
    have hp : plc x y = 0 := by rw [plc_eq, scmp_zero, e2]
    have h5 := h3 y hy hp
    rw [grd_eq x y (plc_ty hp)] at h5
    refine Int.not_le.1 fun h6 => ?_
    have := gcmp_tp.trans (grade x) (grade b) (grade y) hle h6
    omega
  · intro h s g hs
    obtain ⟨hM, hO⟩ := thinM_some hs
    obtain ⟨a, ha, h1, h2⟩ := (holds_list d).only _ _ hM
    have : a ∈ fresh d m := by
      refine ((fresh_news hd).mem a).2 ⟨ha, fun y hy hp => ?_, fun y hy hp => ?_⟩
      · obtain ⟨g', hg', hle⟩ := (holds_list d).top y hy
        rw [plc_slot hp, h1, hM] at hg'
        rw [grd_eq y a (plc_ty hp), h2, Option.some.inj hg']
        exact hle
      · obtain ⟨g', hg', hle⟩ := (holds_list m).top y hy
        rw [← plc_slot hp, h1] at hg'
        have h3 := hO g' hg'
        rw [grd_eq a y (plc_ty hp), h2]
        have h4 := gcmp_tp.anti g g'
        have h5 := gcmp_tp.le_lt hle (z := g) (by omega)
        have h6 := gcmp_tp.anti (grade y) g
        omega
    rw [h] at this
    cases this

set_option maxRecDepth 100000 in
set_option maxHeartbeats 2000000 in
theorem prgUnknown (R i : Nat) (D : PrD) (w : World) (hT : RulesAt w) (c3 : w.cell? ⟨R, i * 14 + 3, none⟩ = some (.map (some D.b))) (hst : StMap w D.b D.n D.M) (atoms : List At) (hM : D.M = addTo (fun _ => none) atoms) (v : Value) (d : List At) (hv : SliceOf w v d) (hmay : ∀ a ∈ d, mayB a = true) (hlen : d.length ≤ 131072) (rr : Bool) :
    Calls Tryz.prog 147 #[.pointer (some ⟨R, i * 14, none⟩), v, .bool rr] w fun e w' => Below w.heap.size w w' ∧ ∃ v', e = .returned v' ∧ Hid (if rr = false ∧ fresh d atoms ≠ [] then v' = v else w'.ownsRow w.heap.size 76 6 v' (fresh d atoms).length (flat (fresh d atoms))) := by
  have hR : R < w.heap.size := World.block_lt_of_cell? w ⟨R, i * 14 + 3, none⟩ c3
  have hmk := @run_makeMap Tryz.prog
  have hbA := below_alloc (Below.refl _ w) (.map #[] 0)
  have HAD := Hid.mk (add_any v d w.heap.size 0 (fun _ => none) (w.alloc (.map #[] 0)) (hT.below hbA hT.1) (stMap_made w) (hv.below hbA) hmay (by omega))
  have hlb := hst.lt
  have HTH : Hid (∀ w1, StMap w1 w.heap.size (0 + d.length) (addTo (fun _ => none) d) → (w.alloc (.map #[] 0)).grownBy w1 (some w.heap.size) → w1.cell? ⟨R, i * 14 + 3, none⟩ = some (.map (some D.b)) ∧ Below w.heap.size w w1 ∧ Calls Tryz.prog 183 #[.map (some w.heap.size), .map (some D.b)] w1 fun e w' => e = .returned (.tuple #[]) ∧ StMap w' w.heap.size (0 + d.length) (thinM (addTo (fun _ => none) d) (addTo (fun _ => none) atoms)) ∧ w1.grownBy w' (some w.heap.size)) := fun w1 h1 h2 => by
    have hb1 : Below w.heap.size w w1 := hbA.grown h2 hbA.size (fun q hq => by cases hq; exact Nat.le_refl _)
    refine ⟨(hb1.cell (p := ⟨R, i * 14 + 3, none⟩) hR).trans c3, hb1, ?_⟩
    rw [← hM]
    exact thin_any w.heap.size D.b _ D.n _ _ w1 h1 (hst.block (hb1.block _ hlb)) (by omega)
  have HTE : Hid (∀ w2, Below w.heap.size w w2 → StMap w2 w.heap.size (0 + d.length) (thinM (addTo (fun _ => none) d) (addTo (fun _ => none) atoms)) → Calls Tryz.prog 102 #[.map (some w.heap.size)] w2 fun e w' => ∃ v', e = .returned v' ∧ w'.ownsRow w.heap.size 76 6 v' (fresh d atoms).length (flat (fresh d atoms)) ∧ Below w.heap.size w w') := fun w2 hb2 h2 => by
    refine (tell_any w.heap.size _ _ w2 (hT.below hb2 hT.1) h2 (thin_may ((holds_list d).mayMap hmay)) (by omega)).mono ?_
    rintro e w' ⟨v', out, rfl, ho, ht, hb⟩
    have : out = fresh d atoms := ((holds_list d).news (holds_list atoms) hmay ht.out).unique (fresh_news hmay)
    subst this
    exact ⟨v', rfl, owns_mono ho hb2.size, hb2.trans (hb.mono hb2.size)⟩
  have HFR := Hid.mk (thin_none (d := d) (m := atoms) hmay)
  obtain ⟨ad, cap, rfl, -⟩ := id hv
  clear hT hst hM hv hmay hbA
  cases rr with
  | true =>
    go_enter Tryz.func147, Tryz.ntmps147
    go_wp2_with fail
    refine HAD.out.mono ?_
    rintro e w1 ⟨rfl, s1, g1⟩
    obtain ⟨z3, hb1, hth⟩ := HTH.out w1 s1 g1
    clear s1 g1 HTH HAD
    go_wp2_with fail
    refine hth.mono ?_
    rintro e w2 ⟨rfl, s2, g2⟩
    have hb2 := hb1.grown g2 hb1.size (fun q hq => by cases hq; exact Nat.le_refl _)
    have HTL := Hid.mk (HTE.out w2 hb2 s2)
    obtain ⟨k, hlenM, hk0⟩ := s2.len
    have HK : Hid (k = 0 ↔ fresh d atoms = []) := hk0.trans HFR.out
    have HB2 := Hid.mk hb2
    clear hth s2 g2 hb1 HTE hk0 HFR z3 hb2
    go_wp2_with fail
    refine HTL.out.mono ?_
    rintro e w3 ⟨v3, rfl, ho3, hb3⟩
    have HO := Hid.mk ho3
    obtain ⟨ad3, cp3, hv3⟩ := own_form ho3
    subst hv3
    clear ho3
    go_wp2
    · rename_i h
      exact absurd h.1 (by decide)
    · go_ret
      exact ⟨hb3, _, rfl, HO.out⟩
  | false =>
    go_enter Tryz.func147, Tryz.ntmps147
    go_wp2_with fail
    refine HAD.out.mono ?_
    rintro e w1 ⟨rfl, s1, g1⟩
    obtain ⟨z3, hb1, hth⟩ := HTH.out w1 s1 g1
    clear s1 g1 HTH HAD
    go_wp2_with fail
    refine hth.mono ?_
    rintro e w2 ⟨rfl, s2, g2⟩
    have hb2 := hb1.grown g2 hb1.size (fun q hq => by cases hq; exact Nat.le_refl _)
    have HTL := Hid.mk (HTE.out w2 hb2 s2)
    obtain ⟨k, hlenM, hk0⟩ := s2.len
    have HK : Hid (k = 0 ↔ fresh d atoms = []) := hk0.trans HFR.out
    have HB2 := Hid.mk hb2
    clear hth s2 g2 hb1 HTE hk0 HFR z3 hb2
    by_cases hz : k = 0
    · subst hz
      have hf := HK.out.1 rfl
      go_wp2_with fail
      refine HTL.out.mono ?_
      rintro e w3 ⟨v3, rfl, ho3, hb3⟩
      have HO := Hid.mk ho3
      obtain ⟨ad3, cp3, hv3⟩ := own_form ho3
      subst hv3
      clear ho3
      rw [hf] at HO
      go_wp2
      all_goals go_ret
      all_goals exact ⟨hb3, _, rfl, HO.out⟩
    · have hf : fresh d atoms ≠ [] := fun e => hz (HK.out.2 e)
      have hz' : ¬ (k : Int) = 0 := by omega
      go_wp2
      all_goals go_ret
      all_goals exact ⟨HB2.out, _, rfl, by rfl⟩
end Go.Proofs.YtahdlejgjcjeoabGreatDoor

namespace Go.Proofs.YtahdlejgjcjeoabGreatDoor
open Go.RowKit Go.MuLone

set_option maxRecDepth 100000 in
theorem gone_any (num org : Nat) (ad : Option Addr) (n cp b : Nat) (L : Nat) (w : World) (hb : w.cell? ⟨b, 0, none⟩ = some (.int .i64 L)) :
    Calls Tryz.prog 182 #[.agg #[.int .i64 num, .int .i64 org, .slice ad n cp], .pointer (some ⟨b, 0, none⟩)] w fun e w' => e = .returned (.bool (decide (num ≤ L))) ∧ Below w.heap.size w w' := by
  have hbl := World.block_lt_of_cell? w ⟨b, 0, none⟩ hb
  by_cases h : num ≤ L
  · have h' : (num : Int) ≤ (L : Int) := by omega
    rw [decide_eq_true h]
    go_enter Tryz.func182, Tryz.ntmps182
    go_wp2
    go_ret
    exact ⟨rfl, below_alloc (Below.refl _ w) _⟩
  · have h' : ¬ (num : Int) ≤ (L : Int) := by omega
    rw [decide_eq_false h]
    go_enter Tryz.func182, Tryz.ntmps182
    go_wp2
    go_ret
    exact ⟨rfl, below_alloc (Below.refl _ w) _⟩

set_option maxRecDepth 100000 in
set_option maxHeartbeats 1000000 in
theorem idx_any (g cap b L : Nat) (es : List Pe) (w : World) (hrow : w.ownsRow 0 85 3 (.slice (some ⟨g, 0, none⟩) es.length cap) es.length (es.flatMap Pe.cells)) (hv : ∀ e ∈ es, ∃ ad cp, e.v = .slice ad e.d.length cp) (hb : w.cell? ⟨b, 0, none⟩ = some (.int .i64 L)) (hn : es.length ≤ 1024) :
    Calls Tryz.prog 201 #[.slice (some ⟨g, 0, none⟩) es.length cap, .func (.func 182) #[] #[.pointer (some ⟨b, 0, none⟩)]] w fun e w' => Below w.heap.size w w' ∧ ∃ k, Hid (k ≤ es.length ∧ (∀ j (h : j < es.length), j < k → L < (es[j]).num) ∧ ∀ h : k < es.length, (es[k]).num ≤ L) ∧ e = .returned (.int .i64 (if k < es.length then (k : Int) else -1)) := by
  have HROW := Hid.mk hrow
  have HV := Hid.mk hv
  have hbl := World.block_lt_of_cell? w ⟨b, 0, none⟩ hb
  clear hrow hv
  go_enter Tryz.func201, Tryz.ntmps201
  go_wp2
  go_loopw [8] (fun s wr => ∃ k : Nat, k ≤ es.length ∧ s = .int .i64 k ∧ Hid (∀ j (h : j < es.length), j < k → L < (es[j]).num) ∧ Hid (Below w.heap.size w wr)) (fun s _ => es.length - (intOf s).toNat)
  case atStart => exact ⟨0, Nat.zero_le _, rfl, fun j _ h => by omega, Below.refl _ _⟩
  case round =>
    obtain ⟨k, hk, rfl, hall, hbw⟩ := hrel
    by_cases hlt : k < es.length
    · obtain ⟨g', hg', hg, d0, d1, d2⟩ := ent_cells HROW.out hlt
      cases hg'
      have e0 := (hbw.out.cell (p := ⟨g, k * 3, none⟩) hg).trans d0
      have e1 := (hbw.out.cell (p := ⟨g, k * 3 + 1, none⟩) hg).trans d1
      have e2 := (hbw.out.cell (p := ⟨g, k * 3 + 2, none⟩) hg).trans d2
      have hbr := (hbw.out.cell (p := ⟨b, 0, none⟩) hbl).trans hb
      obtain ⟨adv, cpv, hvv⟩ := HV.out _ (List.getElem_mem hlt)
      rw [hvv] at e2
      have HNX : Hid (L < (es[k]).num → ∀ j (h : j < es.length), j < k + 1 → L < (es[j]).num) := fun hL j h hj => by
        by_cases e : j = k
        · subst e; exact hL
        · exact hall.out j h (by omega)
      have HST : Hid ((es[k]).num ≤ L → k ≤ es.length ∧ (∀ j (h : j < es.length), j < k → L < (es[j]).num) ∧ ∀ h : k < es.length, (es[k]).num ≤ L) := fun hL => ⟨hk, hall.out, fun _ => hL⟩
      have HGO := Hid.mk (gone_any (es[k]).num (es[k]).org adv (es[k]).d.length cpv b L wr hbr)
      clear d0 d1 d2 hvv hbr hall
      generalize (es[k]).num = tn at *
      generalize (es[k]).org = tg at *
      generalize (es[k]).d.length = tl at *
      have q1 : (k : Int) < (es.length : Int) := by omega
      have q2 : (0 : Int) ≤ (k : Int) := by omega
      by_cases hL : tn ≤ L
      · rw [decide_eq_true hL] at HGO
        have HS := Hid.mk (HST.out hL)
        clear HNX HST
        go_wp2_with fail
        refine HGO.out.mono ?_
        rintro e w1 ⟨rfl, hb1⟩
        have HB1 := Hid.mk (hbw.out.trans (hb1.mono hbw.out.size))
        clear hb1 HGO
        go_wp2
        go_ret
        exact ⟨HB1.out, k, HS, by simp [hlt]⟩
      · rw [decide_eq_false hL] at HGO
        have HS := Hid.mk (HNX.out (by omega))
        clear HNX HST
        go_wp2_with fail
        refine HGO.out.mono ?_
        rintro e w1 ⟨rfl, hb1⟩
        have HB1 := Hid.mk (hbw.out.trans (hb1.mono hbw.out.size))
        clear hb1 HGO
        go_wp2
        exact ⟨⟨k + 1, by omega, by go_num, HS, HB1⟩, by simp [intOf]; omega⟩
    · have hke : k = es.length := by omega
      subst hke
      have q1 : ¬ (es.length : Int) < (es.length : Int) := by omega
      go_wp2
      go_ret
      exact ⟨hbw.out, es.length, ⟨Nat.le_refl _, hall.out, fun h => absurd h (Nat.lt_irrefl _)⟩, by simp⟩
end Go.Proofs.YtahdlejgjcjeoabGreatDoor
