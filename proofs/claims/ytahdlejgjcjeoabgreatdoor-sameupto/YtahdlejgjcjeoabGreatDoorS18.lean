/- The program's reader, for as long a log as may be; strings.HasPrefix. -/
import Derived.Test.YtahdlejgjcjeoabGreatDoorS14
import Derived.Test.YtahdlejgjcjeoabGreatDoorS17
import Derived.Test.YtahdlejgjcjeoabGreatDoorS15
namespace Go.Proofs.YtahdlejgjcjeoabGreatDoor
open Go.RowKit Go.MuLone

theorem PrI.unlock {w : World} {col : Col} {o x i : Nat} {K : PrK} {D : PrD} (h : PrI w col o x i { K with lk := 1 } D) (h0 : K.lk = 0) : w.cell? ⟨x, 0, none⟩ = some (.int .i32 1) ∧ w.frozen? ⟨x, 0, none⟩ = false ∧ PrI (w.setCell ⟨x, 0, none⟩ (.int .i32 0)) col o x i K D ∧ FrC (ofOwn o) col col w (w.setCell ⟨x, 0, none⟩ (.int .i32 0)) := by
  obtain ⟨u0, u1, u2, u3⟩ := PrB.unlock (K := K.setD i D) h.b h0
  exact ⟨u0, u1, ⟨u2, h.p.kept u3 (neκ (by omega)) (neκ (by omega)) (neκ (by omega)) (neκ (by omega)), h.h6, h.hi⟩, u3.mono ofOwn_lock⟩
/-- One atom in a block of its own. -/
theorem held_atom {w w' : World} {col : Col} {κ : Nat × Nat} {b : Nat} {a : At} {e : TypeId} (hb : w.heap.size ≤ b) (h : w'.heap[b]? = some (.cells (enc a).toArray e (0, 0))) : Held w' (paint col w.heap.size κ) κ (.slice (some ⟨b, 0, none⟩) 1 1) [a] :=
  ⟨_, 1, rfl, Nat.le_refl _, fun _ => ⟨b, 0, rfl, blk_lt h, paint_new col κ hb, rowAt_of_block h (by simp [flat, enc])⟩⟩

set_option maxRecDepth 100000 in
set_option maxHeartbeats 1000000 in
theorem prgUpdate {w : World} {col : Col} {o x N : Nat} {U : List At} {K : PrK} {c : Clu} (h : PrgAt w col o x K c) (ho : o ≠ 0) (hT : Tab w col) (hok : c.ok U N) (hL : Lim U N) (r : Int) (op : OpV) (hop : op.short) :
    Calls Tryz.prog 22 #[.pointer (some ⟨x, 0, none⟩), .int .i64 r, op.val] w fun e w' => e = .returned (.int .i64 (c.opErr r op)) ∧ ∃ K' col', Hid (PrgAt w' col' o x K' (c.update r op)) ∧ Hid (FrC (ofOwn o) col col' w w') := by
  have hb0 : ∀ ob, Below w.heap.size w (w.alloc ob) := fun ob => below_alloc (Below.refl _ _) ob
  have hx := blk_lt h.at_.blk
  have HCL : Hid (∀ ob, ClAt (w.alloc ob) x K.R K.Ds.length K.Ds.length) := fun ob => (h.same (hb0 ob)).at_.clAt h.is.lk
  have HLK : Hid (∀ ob, PrAt ((w.setCell ⟨x, 0, none⟩ (.int .i32 1)).alloc ob) col o x { K with lk := 1 } ∧ FrC (ofOwn o) col col w ((w.setCell ⟨x, 0, none⟩ (.int .i32 1)).alloc ob) ∧ Tab ((w.setCell ⟨x, 0, none⟩ (.int .i32 1)).alloc ob) col) := fun ob => by
    obtain ⟨h1, h2⟩ := h.at_.lock 1
    have hb1 := below_alloc (Below.refl _ (w.setCell ⟨x, 0, none⟩ (.int .i32 1))) ob
    have h3 : FrC (ofOwn o) col col w ((w.setCell ⟨x, 0, none⟩ (.int .i32 1)).alloc ob) := (h2.mono ofOwn_lock).trans (frC_same hb1)
    exact ⟨h1.same hb1, h3, hT.kept h3 (fun e => ho e.symm)⟩
  have HCH : Hid (∀ ob, Calls Tryz.prog 61 #[.pointer (some ⟨x, 0, none⟩), .int .i64 r, op.val] ((w.setCell ⟨x, 0, none⟩ (.int .i32 1)).alloc ob) fun e w' => Below ((w.setCell ⟨x, 0, none⟩ (.int .i32 1)).alloc ob).heap.size ((w.setCell ⟨x, 0, none⟩ (.int .i32 1)).alloc ob) w' ∧ Hid ((c.opErr r op ≠ 0 ∧ e = .returned (.tuple #[.pointer none, .slice none 0 0, .int .i64 (c.opErr r op)])) ∨ (c.opErr r op = 0 ∧ ∃ i b : Nat, r = i ∧ i < c.reps.length ∧ ((w.setCell ⟨x, 0, none⟩ (.int .i32 1)).alloc ob).heap.size ≤ b ∧ e = .returned (.tuple #[.pointer (some ⟨K.R, i * 14, none⟩), .slice (some ⟨b, 0, none⟩) 1 1, .int .i64 0]) ∧ w'.heap[b]? = some (.cells (enc (opAtom (c.rep i).atoms i op)).toArray 76 (0, 0))))) := fun ob =>
    change_in (K := { K with lk := 1 }) (HLK.out ob).1 (HLK.out ob).2.2 h.is.len h.is.reps hok r op hop
  by_cases he : c.opErr r op = 0
  · obtain ⟨hw, hf, hn⟩ := opErr_zero he
    have HUP : Hid (∀ i : Nat, r = i → i < c.reps.length → c.update r op = c.setRep i ((c.rep i).take c.room [opAtom (c.rep i).atoms i op] i)) := by
      intro i hi _
      subst hi
      unfold Clu.update
      rw [if_pos he]
      rfl
    have HTK : Hid (∀ (ob : Obj) (w2 : World) (i b : Nat), r = i → i < c.reps.length → Below ((w.setCell ⟨x, 0, none⟩ (.int .i32 1)).alloc ob).heap.size ((w.setCell ⟨x, 0, none⟩ (.int .i32 1)).alloc ob) w2 → ((w.setCell ⟨x, 0, none⟩ (.int .i32 1)).alloc ob).heap.size ≤ b → w2.heap[b]? = some (.cells (enc (opAtom (c.rep i).atoms i op)).toArray 76 (0, 0)) →
        w2.cell? ⟨x, 4, none⟩ = some (.int .i64 c.room) ∧ Calls Tryz.prog 62 #[.pointer (some ⟨K.R, i * 14, none⟩), .slice (some ⟨b, 0, none⟩) 1 1, .int .i64 i, .int .i64 c.room] w2 fun e w' => e = .returned (.tuple #[]) ∧ Hid (w'.cell? ⟨x, 0, none⟩ = some (.int .i32 1) ∧ w'.frozen? ⟨x, 0, none⟩ = false ∧ ∃ K' col', PrgAt (w'.setCell ⟨x, 0, none⟩ (.int .i32 0)) col' o x K' (c.update r op) ∧ FrC (ofOwn o) col col' w (w'.setCell ⟨x, 0, none⟩ (.int .i32 0)))) := by
      intro ob w2 i b hri hi hb2 hbb hcell
      obtain ⟨k1, k2, k3⟩ := HLK.out ob
      have hi6 := Nat.lt_of_lt_of_le hi hok.n6
      have hi' : i < ({ K with lk := 1 } : PrK).Ds.length := by show i < K.Ds.length; rw [h.is.len]; exact hi
      have p2 := k1.below hb2 (o, 1)
      have f2 : FrC (ofOwn o) col (paint col ((w.setCell ⟨x, 0, none⟩ (.int .i32 1)).alloc ob).heap.size (o, 1)) w w2 := k2.trans (frC_below hb2 (o, 1))
      have t2 := hT.kept f2 (fun e => ho e.symm)
      have hh := held_atom (col := col) (κ := (o, 1)) hbb hcell
      have hI := PrAt.inside p2 (by show K.Ds.length ≤ 6; rw [h.is.len]; exact hok.n6) hi'
      have hDi := h.is.reps i hi'
      have hrep := hok.rep hi
      have hmay : ∀ a ∈ [opAtom (c.rep i).atoms i op], mayB a = true := fun a ha => by
        rw [List.mem_singleton] at ha
        subst ha hri
        exact opAtom_may hi6 hf hn
      have c4 : w2.cell? ⟨x, 4, none⟩ = some (.int .i64 K.room) := p2.cl.2.2.2.1
      rw [h.is.room] at c4
      have hes : (K.Ds[i]).es.length ≤ 1024 := by
        have := hrep.bufL
        rw [← hDi.buf, List.length_map] at this
        have := hok.room8
        omega
      refine ⟨c4, (prgTake hI ho t2 _ [opAtom (c.rep i).atoms i op] hh hmay (by simp) i c.room (by show (K.Ds[i]).num ≤ _; rw [hDi.num]; have := hrep.num; have := hL.1; omega) (by show (K.Ds[i]).bytes.length ≤ _; rw [hDi.bytes]; have := log_len hrep hL; omega) hes (by have := h.n i hi'; show (K.Ds[i]).n ≤ _; omega)).mono ?_⟩
      rintro e w3 ⟨rfl, col3, vb, vl, hI3, hF3⟩
      refine ⟨rfl, ?_⟩
      obtain ⟨u0, u1, u2, u3⟩ := PrI.unlock hI3.out h.is.lk
      have hdn : (c.rep i).down = false := by
        have := (works_zero hw).2
        subst hri
        simpa using this
      have hto : (c.rep i).torn = [] := by
        rcases hrep.torn with e | ⟨e, _⟩
        · exact e
        · rw [hdn] at e; cases e
      have hD3 := hDi.take hrep hok.room1 hto (.slice (some ⟨b, 0, none⟩) 1 1) [opAtom (c.rep i).atoms i op] i vb vl
      obtain ⟨K', hK', _⟩ := u2.done (V := U ++ [opAtom (c.rep i).atoms i op]) h.is h.n hD3 (fun a ha => by
        have : a ∈ (c.rep i).atoms ++ [opAtom (c.rep i).atoms i op] := by
          rw [hrep.take_eq _ _ hok.room1] at ha
          split at ha <;> exact ha
        rw [List.mem_append] at this ⊢
        rcases this with h1 | h1
        · exact .inl (hrep.sub a h1)
        · exact .inr h1) (by have := hL.2; simp; omega)
      rw [← HUP.out i hri hi] at hK'
      exact ⟨u0, u1, K', col3, hK', (f2.trans (hF3.out.mono ofOwn_prg)).trans u3⟩
    rw [he] at HCH ⊢
    clear h hT hok hL hw hf hn he
    obtain ⟨ty, key, side, elem, n⟩ := op
    unfold OpV.val at *
    dsimp only at *
    go_enter_defers Tryz.func22, Tryz.ntmps22
    go_wp2_with (go_at_call 44; refine (lock_free muLib ⟨x, 0, none⟩ _ (HCL.out _).c0 (HCL.out _).f0).mono ?_; rintro e w' ⟨rfl, rfl⟩)
    refine (HCH.out _).mono ?_
    rintro e w2 ⟨hb2, hcase⟩
    obtain ⟨h1, _⟩ | ⟨_, i, b, rfl, hi, hbb, rfl, hcell⟩ := hcase
    · exact absurd rfl h1
    obtain ⟨c4, htk⟩ := HTK.out _ w2 i b rfl hi hb2 hbb hcell
    clear HTK HCH HUP HLK
    go_wp2_with fail
    refine htk.mono ?_
    rintro e w3 ⟨rfl, hq⟩
    obtain ⟨u0, u1, K', col', hK', hF'⟩ := hq.out
    have HK' := hid_of hK'
    have HF' := hid_of hF'
    clear htk hq hK' hF' hb2 hbb hcell
    go_wp2
    refine leaves_cons (f := 45) (args := #[.pointer (some ⟨x, 0, none⟩)]) (by simp) (by simp [go_sem]) ?_
    refine (unlock_deferred muLib ⟨x, 0, none⟩ .returning _ u0 u1).mono ?_
    rintro e u' w'' ⟨rfl, rfl, rfl⟩
    exact ⟨_, results_tmp rfl _ _ _, rfl, K', col', HK', HF'⟩
  · have hup : c.update r op = c := by unfold Clu.update; rw [if_neg he]
    have hcl := h.at_.clAt h.is.lk
    have HK := hid_of h
    rw [hup]
    clear h hT hok hL hup HLK
    generalize c.opErr r op = er at *
    obtain ⟨ty, key, side, elem, n⟩ := op
    unfold OpV.val at *
    dsimp only at *
    go_enter_defers Tryz.func22, Tryz.ntmps22
    go_wp2_with (go_at_call 44; refine (lock_free muLib ⟨x, 0, none⟩ _ (HCL.out _).c0 (HCL.out _).f0).mono ?_; rintro e w' ⟨rfl, rfl⟩)
    refine (HCH.out _).mono ?_
    rintro e w2 ⟨hb2, hcase⟩
    obtain ⟨_, rfl⟩ | ⟨h1, _⟩ := hcase
    rotate_left
    · exact absurd h1 he
    have hb3 : Below w.heap.size (w.setCell ⟨x, 0, none⟩ (.int .i32 1)) w2 := by
      have := (below_alloc (Below.refl _ (w.setCell ⟨x, 0, none⟩ (.int .i32 1))) (.cells #[.int .i64 ty, .string key, .int .i64 side, .string elem, .int .i64 n] 31)).trans (hb2.mono (by simp))
      rwa [lock_size] at this
    obtain ⟨u0, u1, u2⟩ := hcl.unlock hb3
    clear hb2 HCH
    go_wp2
    refine leaves_cons (f := 45) (args := #[.pointer (some ⟨x, 0, none⟩)]) (by simp) (by simp [go_sem]) ?_
    refine (unlock_deferred muLib ⟨x, 0, none⟩ .returning _ u0 u1).mono ?_
    rintro e u' w'' ⟨rfl, rfl, rfl⟩
    exact ⟨_, results_tmp rfl _ _ _, rfl, K, col, HK.out.same u2, frC_same u2⟩
end Go.Proofs.YtahdlejgjcjeoabGreatDoor

namespace Go.Proofs.YtahdlejgjcjeoabGreatDoor
open Go.RowKit

/-- append of nothing, as one step of a region that draws. -/
theorem step_append_zero {ops : Array Oper} {o : Oper} {a : Act} {w : World} {K : Act → World → Prop} {Q : Exit → Act → World → Prop} {E : Prop} (hgd : o.guard = none) (s x : Operand) (t : TypeId)
    (ho : o.op = .call { callee := .builtin .append, args := #[s, x], argTypes := #[t, t] }) (e : TypeId) (i : TypeInfo) (ht : Tryz.prog.underlying t = some (.slice e)) (hi : Tryz.prog.info? e = some i)
    (v : Value) (base size n : Nat) (xs : List Value) (hs : a.eval s = v) (hown : w.ownsRow base e size v n xs) (ad : Option Addr) (c : Nat) (hx : a.eval x = .slice ad 0 c) (h : K (a.put o.dst v) w) :
    if Region.wanted o (yielded ops a.tmps) = true then Oper.wp Tryz.prog o a w K Q else E := by
  have hw : Region.wanted o (yielded ops a.tmps) = true := by simp [Region.wanted, hgd]
  rw [if_pos hw]
  have hrun : (Builtin.append_ #[t, t] o.type #[v, .slice ad 0 c]).run Tryz.prog w = .ok v w := by
    rcases hown.2 with ⟨rfl, rfl⟩ | ⟨g, cap, cur, rfl, _, _, hnc, _⟩
    · cases ad <;> simp [Builtin.append_, run_underlying ht, sizeOf, typeInfo, hi, Builtin.lenOf, Builtin.firstCells, loadCells, loadCellsFrom]
    · cases ad <;> simp [Builtin.append_, run_underlying ht, sizeOf, typeInfo, hi, Builtin.lenOf, Builtin.firstCells, hnc, storeCells, loadCells, loadCellsFrom]
  unfold Oper.wp
  simp [execOp, ho, resolve, invoke, builtin, hs, hx, hrun, Result.andThen]
  exact h

def TearMid (w : World) (col : Col) (o x i : Nat) (K : PrK) (D : PrD) (bs : List UInt8) (wc : World) : Prop :=
  ∃ col1 vl, PrI wc col1 o x i K { D with vl := vl, bytes := D.bytes ++ bs } ∧ FrC (ofPrg o i) col col1 w wc
theorem bcells_take {bs : List UInt8} {k j : Nat} {u : Value} (h : (bcells (bs.take k))[j]? = some u) : (bcells bs)[j]? = some u := by
  have hj : j < (bcells (bs.take k)).length := (List.getElem?_eq_some_iff.1 h).1
  rw [bcells_length, List.length_take] at hj
  have e : bcells (bs.take k) = (bcells bs).take k := by simp [bcells, List.map_take]
  rw [e, List.getElem?_take_of_lt (by omega)] at h
  exact h

set_option maxRecDepth 100000 in
set_option maxHeartbeats 1000000 in
theorem prgTear {w : World} {col : Col} {o x i : Nat} {K : PrK} {D : PrD} (h : PrI w col o x i K D) (_ho : o ≠ 0) (hT : Tab w col) (v : Value) (l : List At) (hv : Held w col (o, 1) v l) (hmay : ∀ a ∈ l, mayB a = true) (hlen : l.length ≤ 131072) (keep : Int) (hn : D.num ≤ 16777216) (hby : D.bytes.length ≤ 35184372088832) :
    Calls Tryz.prog 65 #[.pointer (some ⟨K.R, i * 14, none⟩), v, .int .i64 keep] w fun e w' => e = .returned (.tuple #[]) ∧ ∃ col' vl, Hid (PrI w' col' o x i K { D with vl := vl, bytes := D.bytes ++ (recBytes ⟨1, D.num + 1, l⟩).take keep.toNat }.fall) ∧ Hid (FrC (ofPrg o i) col col' w w') := by
  obtain ⟨i0, hi, hz0, hz1, hz2⟩ := info_parts infoByte
  obtain ⟨ad, cap, rfl, hcp, H⟩ := id hv
  clear H
  have hnx := prgNext K.R i D.num _ l w (h.cells.c1) hT.rules hv.slice hmay (by omega) (by omega)
  have hbl : (recBytes ⟨1, D.num + 1, l⟩).length ≤ 268435456 := by
    have := recBytes_le 1 (D.num + 1) l hmay
    omega
  have hbp : 0 < (recBytes ⟨1, D.num + 1, l⟩).length := by rw [recBytes_length]; omega
  have HI : Hid (PrI w col o x i K D) := h
  have c11 := h.cells.c11
  obtain ⟨adl, capl, hvl, hcl⟩ := h.p.log.form
  rw [hvl] at c11
  have hltR := h.ltR
  have HLOG : Hid (∀ W, Below w.heap.size w W → W.ownsRow 0 5 1 (.slice adl D.bytes.length capl) D.bytes.length (bcells D.bytes)) := fun W hW => by rw [← hvl]; exact owns_below h.p.log.own hW
  have HGR : Hid (∀ w1 w2 g cap2 H bs, Below w.heap.size w w1 → w2.ownsRow 0 5 1 (.slice (some ⟨g, 0, none⟩) (D.bytes.length + bs.length) cap2) (D.bytes.length + bs.length) (bcells D.bytes ++ bcells bs) → w1.grownBy w2 (Value.slice adl D.bytes.length capl).ownBlock → ((Value.slice adl D.bytes.length capl).ownBlock = some g ∨ g = H) → w1.heap.size = H →
      w2.cell? ⟨K.R, i * 14 + 11, none⟩ = some (.slice adl D.bytes.length capl) ∧ w2.frozen? ⟨K.R, i * 14 + 11, none⟩ = false ∧ TearMid w col o x i K D bs (w2.setCell ⟨K.R, i * 14 + 11, none⟩ (.slice (some ⟨g, 0, none⟩) (D.bytes.length + bs.length) cap2))) := by
    intro w1 w2 g cap2 H bs a1 a2 a3 a4 a5
    rw [← hvl] at a3 a4
    obtain ⟨b1, b2, b3, b4⟩ := h.growLog a1 rfl a2 a3 a4 a5
    rw [hvl] at b3
    exact ⟨b3, b4, _, _, b1, b2⟩
  have HZ : Hid (∀ w1, Below w.heap.size w w1 → w1.cell? ⟨K.R, i * 14 + 11, none⟩ = some (.slice adl D.bytes.length capl) ∧ w1.frozen? ⟨K.R, i * 14 + 11, none⟩ = false ∧ TearMid w col o x i K D [] (w1.setCell ⟨K.R, i * 14 + 11, none⟩ (.slice adl D.bytes.length capl))) := by
    intro w1 a1
    have h1 := h.same a1
    refine ⟨by have := h1.cells.c11; rwa [hvl] at this, h1.cells.fz _, ?_⟩
    obtain ⟨h2, h3⟩ := h1.put (k := 11) (u := .slice adl D.bytes.length capl) (by omega) D (by rw [← hvl]; rfl) rfl rfl rfl rfl rfl rfl rfl
    exact ⟨col, D.vl, by rw [List.append_nil]; exact h2, (frC_same a1).trans h3⟩
  clear h hv hT hmay
  generalize hbsE : recBytes ⟨1, D.num + 1, l⟩ = bs at *
  have HBS : Hid (recBytes ⟨1, D.num + 1, l⟩ = bs) := hbsE
  clear hbsE hvl
  go_enter Tryz.func65, Tryz.ntmps65
  go_wp2_with fail
  refine hnx.mono ?_
  rintro e w1 ⟨v1, rfl, hb1, hbw1⟩
  obtain ⟨b1, cp1, hv1, hn1⟩ := buf_at hb1.out hbp
  subst hv1
  have hcp1 : bs.length ≤ cp1 := (own_cells hb1.out.1).2.1
  have hcm1 : cp1 ≤ 9223372036854775807 := by have := (own_cells hb1.out.1).2.2.1; unfold maxLen at this; omega
  obtain ⟨k, hk, hkl⟩ : ∃ k : Nat, max 0 (min keep (bs.length : Int)) = (k : Int) ∧ k ≤ bs.length := ⟨(max 0 (min keep (bs.length : Int))).toNat, by omega, by omega⟩
  have hkc : k ≤ cp1 := by omega
  have HKT : Hid (bs.take keep.toNat = bs.take k) := by
    rw [Hid]
    by_cases hle : keep ≤ bs.length
    · rw [show keep.toNat = k by omega]
    · rw [List.take_of_length_le (by omega), List.take_of_length_le (by omega)]
  have hD1 : Below w.heap.size w w1.drew := ⟨hbw1.os, hbw1.tape, hbw1.output, hbw1.size, hbw1.block⟩
  have k11 := (hbw1.cell (p := ⟨K.R, i * 14 + 11, none⟩) hltR).trans c11
  go_wp2_with fail
  go_cut [] from 7 (fun wc => Hid (TearMid w col o x i K D (bs.take k) wc))
  case first =>
    by_cases hk0 : k = 0
    · subst hk0
      obtain ⟨z0, z1, z2⟩ := HZ.out w1.drew hD1
      go_region_law (refine step_append_zero rfl _ _ 124 rfl 5 i0 Tryz.underlying124 hi _ 0 1 D.bytes.length (bcells D.bytes) rfl (HLOG.out _ hD1) (some ⟨b1, 0, none⟩) cp1 rfl ?_)
      all_goals go_wp2
      all_goals go_meet
      all_goals (case rel => rw [List.take_zero]; exact z2)
    · have hkp : 0 < k := by omega
      have hlk : (bs.take k).length = k := by rw [List.length_take]; omega
      have HLK : Hid ((bs.take k).length = k) := hlk
      have hnk : ∀ j u, (bcells (bs.take k))[j]? = some u → w1.drew.cell? ((⟨b1, 0, none⟩ : Addr).add j) = some u := fun j u hu => hn1 j u (bcells_take hu)
      generalize bs.take k = bt at *
      have HNK : Hid (∀ j u, (bcells bt)[j]? = some u → w1.drew.cell? ((⟨b1, 0, none⟩ : Addr).add j) = some u) := hnk
      clear hnk hlk
      go_region_law (refine step_append_lies _ rfl (.tmp 19) (.tmp 22) 124 rfl 0 5 i0 _ 1 1 Tryz.underlying124 hi hz0 hz1 hz2 rfl (by decide) _ D.bytes.length _ rfl (HLOG.out _ hD1) ⟨b1, 0, none⟩ k cp1 (bcells bt) rfl (by rw [bcells_length, Nat.mul_one, HLK.out]) HNK.out (bcells_one bt) hkp (by unfold maxLen; omega) (by omega) (Nat.zero_le _) w1.heap.size rfl ?_; intro g2 cap2 w2 hown2 hgrow2 hat2 hlt2; obtain ⟨q11, q11f, hmid⟩ := HGR.out w1.drew w2 g2 cap2 w1.heap.size bt hD1 (by rw [HLK.out]; exact hown2) hgrow2 hat2 rfl; rw [HLK.out] at hmid)
      all_goals go_wp2
      all_goals go_meet
      all_goals (case rel => exact hmid)
  case rest =>
    obtain ⟨col2, vl2, hI2, hF2⟩ := hcut
    generalize wc = w2 at *
    have hfa := prgFall hI2.b hI2.h6 hI2.hi hI2.p
    have HQ : Hid (∀ vl, ({ D with vl := vl, bytes := D.bytes ++ bs.take k } : PrD) = { D with vl := vl, bytes := D.bytes ++ bs.take keep.toNat }) := fun vl => by rw [HKT.out]
    have HF2 : Hid (FrC (ofPrg o i) col col2 w w2) := hF2
    have H6 : Hid (K.Ds.length ≤ 6 ∧ i < K.Ds.length) := ⟨hI2.h6, hI2.hi⟩
    clear hI2 hF2 HGR HZ HLOG k11 hk hkc
    go_wp2_with fail
    refine hfa.mono ?_
    rintro e w3 ⟨rfl, a1, a2, a3⟩
    have HIF : Hid (PrI w3 col2 o x i K { D with vl := vl2, bytes := D.bytes ++ bs.take k }.fall) := ⟨a1, a2, H6.out.1, H6.out.2⟩
    have HF3 : Hid (FrC (ofPrg o i) col col2 w w3) := HF2.out.trans a3
    clear a1 a2 a3 hfa
    rw [HQ.out] at HIF
    go_wp2
    go_end0
    exact ⟨rfl, col2, vl2, HIF, HF3⟩
end Go.Proofs.YtahdlejgjcjeoabGreatDoor

namespace Go.Proofs.YtahdlejgjcjeoabGreatDoor
open Go.RowKit Go.MuLone

theorem PrD.is.tear {D : PrD} {p : Rep} (h : D.is p) (hup : p.torn = []) (l : List At) (keep : Int) (vl : Value) : ({ D with vl := vl, bytes := D.bytes ++ (recBytes ⟨1, D.num + 1, l⟩).take keep.toNat } : PrD).is (p.tear l keep) := by
  have hb : D.bytes ++ (recBytes ⟨1, D.num + 1, l⟩).take keep.toNat = logBytes (p.tear l keep) := by
    rw [h.bytes, h.num]
    unfold Rep.tear
    split
    · simp [logBytes, hup]
    · rename_i hk
      rw [List.take_of_length_le (by omega)]
      simp [logBytes, hup]
  refine ⟨?_, ?_, ?_, ?_, ?_, ?_, hb, ?_, ?_⟩ <;> unfold Rep.tear <;> split
  · exact h.up
  · exact h.up
  · exact h.num
  · exact h.num
  · exact h.base
  · exact h.base
  · exact h.M
  · exact h.M
  · exact h.buf
  · exact h.buf
  · exact h.ak
  · exact h.ak
  · exact h.frames
  · exact h.frames
  · exact h.weight
  · exact h.weight

set_option maxRecDepth 100000 in
set_option maxHeartbeats 1000000 in
theorem prgTorn {w : World} {col : Col} {o x N : Nat} {U : List At} {K : PrK} {c : Clu} (h : PrgAt w col o x K c) (ho : o ≠ 0) (hT : Tab w col) (hok : c.ok U N) (hL : Lim U N) (r : Int) (op : OpV) (hop : op.short) (keep : Int) :
    Calls Tryz.prog 24 #[.pointer (some ⟨x, 0, none⟩), .int .i64 r, op.val, .int .i64 keep] w fun e w' => e = .returned (.int .i64 (c.opErr r op)) ∧ ∃ K' col', Hid (PrgAt w' col' o x K' (c.tornOp r op keep)) ∧ Hid (FrC (ofOwn o) col col' w w') := by
  have hb0 : ∀ ob, Below w.heap.size w (w.alloc ob) := fun ob => below_alloc (Below.refl _ _) ob
  have hx := blk_lt h.at_.blk
  have HCL : Hid (∀ ob, ClAt (w.alloc ob) x K.R K.Ds.length K.Ds.length) := fun ob => (h.same (hb0 ob)).at_.clAt h.is.lk
  have HLK : Hid (∀ ob, PrAt ((w.setCell ⟨x, 0, none⟩ (.int .i32 1)).alloc ob) col o x { K with lk := 1 } ∧ FrC (ofOwn o) col col w ((w.setCell ⟨x, 0, none⟩ (.int .i32 1)).alloc ob) ∧ Tab ((w.setCell ⟨x, 0, none⟩ (.int .i32 1)).alloc ob) col) := fun ob => by
    obtain ⟨h1, h2⟩ := h.at_.lock 1
    have hb1 := below_alloc (Below.refl _ (w.setCell ⟨x, 0, none⟩ (.int .i32 1))) ob
    have h3 : FrC (ofOwn o) col col w ((w.setCell ⟨x, 0, none⟩ (.int .i32 1)).alloc ob) := (h2.mono ofOwn_lock).trans (frC_same hb1)
    exact ⟨h1.same hb1, h3, hT.kept h3 (fun e => ho e.symm)⟩
  have HCH : Hid (∀ ob, Calls Tryz.prog 61 #[.pointer (some ⟨x, 0, none⟩), .int .i64 r, op.val] ((w.setCell ⟨x, 0, none⟩ (.int .i32 1)).alloc ob) fun e w' => Below ((w.setCell ⟨x, 0, none⟩ (.int .i32 1)).alloc ob).heap.size ((w.setCell ⟨x, 0, none⟩ (.int .i32 1)).alloc ob) w' ∧ Hid ((c.opErr r op ≠ 0 ∧ e = .returned (.tuple #[.pointer none, .slice none 0 0, .int .i64 (c.opErr r op)])) ∨ (c.opErr r op = 0 ∧ ∃ i b : Nat, r = i ∧ i < c.reps.length ∧ ((w.setCell ⟨x, 0, none⟩ (.int .i32 1)).alloc ob).heap.size ≤ b ∧ e = .returned (.tuple #[.pointer (some ⟨K.R, i * 14, none⟩), .slice (some ⟨b, 0, none⟩) 1 1, .int .i64 0]) ∧ w'.heap[b]? = some (.cells (enc (opAtom (c.rep i).atoms i op)).toArray 76 (0, 0))))) := fun ob =>
    change_in (K := { K with lk := 1 }) (HLK.out ob).1 (HLK.out ob).2.2 h.is.len h.is.reps hok r op hop
  by_cases he : c.opErr r op = 0
  · obtain ⟨hw, hf, hn⟩ := opErr_zero he
    have HUP : Hid (∀ i : Nat, r = i → i < c.reps.length → c.tornOp r op keep = c.setRep i ((c.rep i).tear [opAtom (c.rep i).atoms i op] keep).fall) := by
      intro i hi _
      subst hi
      unfold Clu.tornOp
      rw [if_pos he]
      rfl
    have HTK : Hid (∀ (ob : Obj) (w2 : World) (i b : Nat), r = i → i < c.reps.length → Below ((w.setCell ⟨x, 0, none⟩ (.int .i32 1)).alloc ob).heap.size ((w.setCell ⟨x, 0, none⟩ (.int .i32 1)).alloc ob) w2 → ((w.setCell ⟨x, 0, none⟩ (.int .i32 1)).alloc ob).heap.size ≤ b → w2.heap[b]? = some (.cells (enc (opAtom (c.rep i).atoms i op)).toArray 76 (0, 0)) →
        Calls Tryz.prog 65 #[.pointer (some ⟨K.R, i * 14, none⟩), .slice (some ⟨b, 0, none⟩) 1 1, .int .i64 keep] w2 fun e w' => e = .returned (.tuple #[]) ∧ Hid (w'.cell? ⟨x, 0, none⟩ = some (.int .i32 1) ∧ w'.frozen? ⟨x, 0, none⟩ = false ∧ ∃ K' col', PrgAt (w'.setCell ⟨x, 0, none⟩ (.int .i32 0)) col' o x K' (c.tornOp r op keep) ∧ FrC (ofOwn o) col col' w (w'.setCell ⟨x, 0, none⟩ (.int .i32 0)))) := by
      intro ob w2 i b hri hi hb2 hbb hcell
      obtain ⟨k1, k2, k3⟩ := HLK.out ob
      have hi6 := Nat.lt_of_lt_of_le hi hok.n6
      have hi' : i < ({ K with lk := 1 } : PrK).Ds.length := by show i < K.Ds.length; rw [h.is.len]; exact hi
      have p2 := k1.below hb2 (o, 1)
      have f2 : FrC (ofOwn o) col (paint col ((w.setCell ⟨x, 0, none⟩ (.int .i32 1)).alloc ob).heap.size (o, 1)) w w2 := k2.trans (frC_below hb2 (o, 1))
      have t2 := hT.kept f2 (fun e => ho e.symm)
      have hh := held_atom (col := col) (κ := (o, 1)) hbb hcell
      have hI := PrAt.inside p2 (by show K.Ds.length ≤ 6; rw [h.is.len]; exact hok.n6) hi'
      have hDi := h.is.reps i hi'
      have hrep := hok.rep hi
      have hmay : ∀ a ∈ [opAtom (c.rep i).atoms i op], mayB a = true := fun a ha => by
        rw [List.mem_singleton] at ha
        subst ha hri
        exact opAtom_may hi6 hf hn
      refine (prgTear hI ho t2 _ [opAtom (c.rep i).atoms i op] hh hmay (by simp) keep (by show (K.Ds[i]).num ≤ _; rw [hDi.num]; have := hrep.num; have := hL.1; omega) (by show (K.Ds[i]).bytes.length ≤ _; rw [hDi.bytes]; have := log_len hrep hL; omega)).mono ?_
      rintro e w3 ⟨rfl, col3, vl, hI3, hF3⟩
      refine ⟨rfl, ?_⟩
      obtain ⟨u0, u1, u2, u3⟩ := PrI.unlock hI3.out h.is.lk
      have hdn : (c.rep i).down = false := by
        have := (works_zero hw).2
        subst hri
        simpa using this
      have hto : (c.rep i).torn = [] := by
        rcases hrep.torn with e | ⟨e, _⟩
        · exact e
        · rw [hdn] at e; cases e
      have hD3 := (hDi.tear hto [opAtom (c.rep i).atoms i op] keep vl).fall
      obtain ⟨K', hK', _⟩ := u2.done (V := U) h.is h.n hD3 (fun a ha => by cases ha) (by have := hL.2; omega)
      rw [← HUP.out i hri hi] at hK'
      exact ⟨u0, u1, K', col3, hK', (f2.trans (hF3.out.mono ofOwn_prg)).trans u3⟩
    rw [he] at HCH ⊢
    clear h hT hok hL hw hf hn he
    obtain ⟨ty, key, side, elem, n⟩ := op
    unfold OpV.val at *
    dsimp only at *
    go_enter_defers Tryz.func24, Tryz.ntmps24
    go_wp2_with (go_at_call 44; refine (lock_free muLib ⟨x, 0, none⟩ _ (HCL.out _).c0 (HCL.out _).f0).mono ?_; rintro e w' ⟨rfl, rfl⟩)
    refine (HCH.out _).mono ?_
    rintro e w2 ⟨hb2, hcase⟩
    obtain ⟨h1, _⟩ | ⟨_, i, b, rfl, hi, hbb, rfl, hcell⟩ := hcase
    · exact absurd rfl h1
    have htk := HTK.out _ w2 i b rfl hi hb2 hbb hcell
    clear HTK HCH HUP HLK
    go_wp2_with fail
    refine htk.mono ?_
    rintro e w3 ⟨rfl, hq⟩
    obtain ⟨u0, u1, K', col', hK', hF'⟩ := hq.out
    have HK' := hid_of hK'
    have HF' := hid_of hF'
    clear htk hq hK' hF' hb2 hbb hcell
    go_wp2
    refine leaves_cons (f := 45) (args := #[.pointer (some ⟨x, 0, none⟩)]) (by simp) (by simp [go_sem]) ?_
    refine (unlock_deferred muLib ⟨x, 0, none⟩ .returning _ u0 u1).mono ?_
    rintro e u' w'' ⟨rfl, rfl, rfl⟩
    exact ⟨_, results_tmp rfl _ _ _, rfl, K', col', HK', HF'⟩
  · have hup : c.tornOp r op keep = c := by unfold Clu.tornOp; rw [if_neg he]
    have hcl := h.at_.clAt h.is.lk
    have HK := hid_of h
    rw [hup]
    clear h hT hok hL hup HLK
    generalize c.opErr r op = er at *
    obtain ⟨ty, key, side, elem, n⟩ := op
    unfold OpV.val at *
    dsimp only at *
    go_enter_defers Tryz.func24, Tryz.ntmps24
    go_wp2_with (go_at_call 44; refine (lock_free muLib ⟨x, 0, none⟩ _ (HCL.out _).c0 (HCL.out _).f0).mono ?_; rintro e w' ⟨rfl, rfl⟩)
    refine (HCH.out _).mono ?_
    rintro e w2 ⟨hb2, hcase⟩
    obtain ⟨_, rfl⟩ | ⟨h1, _⟩ := hcase
    rotate_left
    · exact absurd h1 he
    have hb3 : Below w.heap.size (w.setCell ⟨x, 0, none⟩ (.int .i32 1)) w2 := by
      have := (below_alloc (Below.refl _ (w.setCell ⟨x, 0, none⟩ (.int .i32 1))) (.cells #[.int .i64 ty, .string key, .int .i64 side, .string elem, .int .i64 n] 31)).trans (hb2.mono (by simp))
      rwa [lock_size] at this
    obtain ⟨u0, u1, u2⟩ := hcl.unlock hb3
    clear hb2 HCH
    go_wp2
    refine leaves_cons (f := 45) (args := #[.pointer (some ⟨x, 0, none⟩)]) (by simp) (by simp [go_sem]) ?_
    refine (unlock_deferred muLib ⟨x, 0, none⟩ .returning _ u0 u1).mono ?_
    rintro e u' w'' ⟨rfl, rfl, rfl⟩
    exact ⟨_, results_tmp rfl _ _ _, rfl, K, col, HK.out.same u2, frC_same u2⟩
end Go.Proofs.YtahdlejgjcjeoabGreatDoor

namespace Go.Proofs.YtahdlejgjcjeoabGreatDoor
open Go.RowKit Go.MuLone

set_option maxRecDepth 100000 in
set_option maxHeartbeats 1000000 in
theorem prgCrash2 {w : World} {col : Col} {o x N : Nat} {U : List At} {K : PrK} {c : Clu} (h : PrgAt w col o x K c) (hok : c.ok U N) (hL : Lim U N) (r : Int) :
    Calls Tryz.prog 26 #[.pointer (some ⟨x, 0, none⟩), .int .i64 r] w fun e w' => e = .returned (.int .i64 (c.works r)) ∧ ∃ K' col', Hid (PrgAt w' col' o x K' (c.crash r)) ∧ Hid (FrC (ofOwn o) col col' w w') := by
  have hcl := h.at_.clAt h.is.lk
  have k41 := hcl.l41
  rcases works_cases c r with ⟨hw, hr⟩ | ⟨i, rfl, hi, ⟨hw, hd⟩ | ⟨hw, hd⟩⟩
  · have hcr : c.crash r = c := by simp [Clu.crash, hw]
    rw [hcr, hw]
    have HK := hid_of h
    have hlen := h.is.len
    clear h hok hL
    go_enter_defers Tryz.func26, Tryz.ntmps26
    go_wp2_with (go_at_call 44; refine (lock_free muLib ⟨x, 0, none⟩ _ hcl.c0 hcl.f0).mono ?_; rintro e w' ⟨rfl, rfl⟩)
    refine (upOne_no x r _ _ _ _ k41 (by rw [hlen]; exact hr)).mono ?_
    rintro e w1 ⟨rfl, rfl⟩
    go_wp2
    refine leaves_cons (f := 45) (args := #[.pointer (some ⟨x, 0, none⟩)]) (by simp) (by simp [go_sem]) ?_
    obtain ⟨u0, u1, u2⟩ := hcl.unlock (w2 := _) (Below.refl _ _)
    refine (unlock_deferred muLib ⟨x, 0, none⟩ .returning _ u0 u1).mono ?_
    rintro e u' w'' ⟨rfl, rfl, rfl⟩
    exact ⟨_, results_tmp rfl _ _ _, rfl, K, col, HK.out.same u2, frC_same u2⟩
  · have hi' : i < K.Ds.length := by rw [h.is.len]; exact hi
    have kup := hcl.lR (h.at_.cells hi').c0
    rw [h.is.down hi', hd] at kup
    have hcr : c.crash (i : Int) = c := by simp [Clu.crash, hw]
    rw [hcr, hw]
    have HK := hid_of h
    clear h hok hL
    go_enter_defers Tryz.func26, Tryz.ntmps26
    go_wp2_with (go_at_call 44; refine (lock_free muLib ⟨x, 0, none⟩ _ hcl.c0 hcl.f0).mono ?_; rintro e w' ⟨rfl, rfl⟩)
    refine (upOne_yes x K.R i K.Ds.length K.Ds.length false _ k41 hi' kup).mono ?_
    rintro e w1 ⟨rfl, rfl⟩
    go_wp2
    refine leaves_cons (f := 45) (args := #[.pointer (some ⟨x, 0, none⟩)]) (by simp) (by simp [go_sem]) ?_
    obtain ⟨u0, u1, u2⟩ := hcl.unlock (w2 := _) (Below.refl _ _)
    refine (unlock_deferred muLib ⟨x, 0, none⟩ .returning _ u0 u1).mono ?_
    rintro e u' w'' ⟨rfl, rfl, rfl⟩
    exact ⟨_, results_tmp rfl _ _ _, rfl, K, col, HK.out.same u2, frC_same u2⟩
  · have hi' : i < K.Ds.length := by rw [h.is.len]; exact hi
    have kup := hcl.lR (h.at_.cells hi').c0
    rw [h.is.down hi', hd] at kup
    have hcr : c.crash (i : Int) = c.setRep i (c.rep i).fall := by simp [Clu.crash, hw]
    obtain ⟨hl, hlf⟩ := h.at_.lock 1
    have hI := PrAt.inside hl (i := i) (by show K.Ds.length ≤ 6; rw [h.is.len]; exact hok.n6) hi'
    have hDi := h.is.reps i hi'
    have hfa := prgFall hI.b hI.h6 hI.hi hI.p
    have HFIN : Hid (∀ w2, PrB w2 col o x (some i) (({ K with lk := 1 } : PrK).setD i (K.Ds[i]).fall) → PrRep w2 col o i (K.Ds[i]).fall → FrC (ofPrg o i) col col (w.setCell ⟨x, 0, none⟩ (.int .i32 1)) w2 → w2.cell? ⟨x, 0, none⟩ = some (.int .i32 1) ∧ w2.frozen? ⟨x, 0, none⟩ = false ∧ ∃ K', PrgAt (w2.setCell ⟨x, 0, none⟩ (.int .i32 0)) col o x K' (c.crash i) ∧ FrC (ofOwn o) col col w (w2.setCell ⟨x, 0, none⟩ (.int .i32 0))) := by
      intro w2 a1 a2 a3
      obtain ⟨u0, u1, u2, u3⟩ := PrI.unlock (D := (K.Ds[i]).fall) ⟨a1, a2, hI.h6, hI.hi⟩ h.is.lk
      obtain ⟨K', hK', _⟩ := u2.done (V := U) h.is h.n hDi.fall (fun a ha => by cases ha) (by have := hL.2; omega)
      rw [← hcr] at hK'
      exact ⟨u0, u1, K', hK', ((hlf.mono ofOwn_lock).trans (a3.mono ofOwn_prg)).trans u3⟩
    rw [hw]
    clear h hok hL hl hlf hI hDi hcr hw hd
    go_enter_defers Tryz.func26, Tryz.ntmps26
    go_wp2_with (go_at_call 44; refine (lock_free muLib ⟨x, 0, none⟩ _ hcl.c0 hcl.f0).mono ?_; rintro e w' ⟨rfl, rfl⟩)
    refine (upOne_yes x K.R i K.Ds.length K.Ds.length true _ k41 hi' kup).mono ?_
    rintro e w1 ⟨rfl, rfl⟩
    go_wp2_with fail
    refine hfa.mono ?_
    rintro e w2 ⟨rfl, a1, a2, a3⟩
    obtain ⟨u0, u1, K', hK', hF'⟩ := HFIN.out w2 a1 a2 a3
    have HK' := hid_of hK'
    have HF' := hid_of hF'
    clear hfa a1 a2 a3 hK' hF' HFIN
    go_wp2
    refine leaves_cons (f := 45) (args := #[.pointer (some ⟨x, 0, none⟩)]) (by simp) (by simp [go_sem]) ?_
    refine (unlock_deferred muLib ⟨x, 0, none⟩ .returning _ u0 u1).mono ?_
    rintro e u' w'' ⟨rfl, rfl, rfl⟩
    exact ⟨_, results_tmp rfl _ _ _, rfl, K', col, HK', HF'⟩
end Go.Proofs.YtahdlejgjcjeoabGreatDoor

namespace Go.Proofs.YtahdlejgjcjeoabGreatDoor
open Go.RowKit

theorem num_app (l r : List UInt8) : num l ≤ num (l ++ r) := by
  induction r generalizing l with
  | nil => simp
  | cons b r ih =>
    have := ih (l ++ [b])
    rw [List.append_assoc] at this
    have h2 := num_snoc l b
    have h3 : l ++ ([b] ++ r) = l ++ b :: r := rfl
    rw [h3] at this
    omega
theorem num_mono (t : List UInt8) (i : Nat) : num (t.take i) ≤ num t := by
  have := num_app (t.take i) (t.drop i)
  rwa [List.take_append_drop] at this

set_option maxRecDepth 100000 in
set_option maxHeartbeats 1000000 in
theorem take_big (rb : Nat) (l : List UInt8) (n : Nat) (w : World) (hr : RdAt w rb l) (hl : l.length ≤ 70368744177664) (hn : n ≤ 4611686018427387904) :
    Calls Tryz.prog 164 #[.pointer (some ⟨rb, 0, none⟩), .int .i64 n] w fun e w' => e = .returned (.string (bstr (l.take n))) ∧ Hid (RdAt w' rb (l.drop n)) ∧ w.grownBy w' (some rb) := by
  obtain ⟨c0, f0⟩ := hr
  have hsz := bstr_size l
  go_enter Tryz.func164, Tryz.ntmps164
  go_wp2
  go_ret
  have hm : (max (0 : Int) (min (n : Int) (l.length : Int))).toNat = min n l.length := by omega
  rw [hm]
  have e1 : (bstr l).extract 0 (min n l.length) = bstr (l.take n) := by
    rw [bstr_extract, List.drop_zero, Nat.sub_zero]
    congr 1
    rw [← List.take_take, List.take_length]
  have e2 : (bstr l).extract (min n l.length) l.length = bstr (l.drop n) := by
    rw [bstr_extract]
    congr 1
    by_cases h : n ≤ l.length
    · rw [Nat.min_eq_left h]
      exact List.take_of_length_le (by simp)
    · rw [Nat.min_eq_right (by omega), List.drop_length, List.drop_of_length_le (by omega)]
      simp
  refine ⟨by rw [← e1]; rfl, ?_, grownBy_set _ _ _⟩
  rw [e2]
  exact ⟨World.cell?_setCell_same _ _ _ c0, by rw [World.frozen?_setCell]; exact f0⟩
set_option maxRecDepth 100000 in
set_option maxHeartbeats 1000000 in
theorem number_big (rb : Nat) (l : List UInt8) (wd : Nat) (w : World) (hr : RdAt w rb l) (hl : l.length ≤ 70368744177664) (hw : wd ≤ 8) (hv : num (l.take wd) < 4611686018427387904) :
    Calls Tryz.prog 162 #[.pointer (some ⟨rb, 0, none⟩), .int .i64 wd] w fun e w' => e = .returned (.int .i64 (num (l.take wd))) ∧ Hid (RdAt w' rb (l.drop wd)) ∧ w.grownBy w' (some rb) := by
  have hc := take_big rb l wd w hr hl (by omega)
  have hlt : (l.take wd).length ≤ 8 := by rw [List.length_take]; omega
  clear hr
  generalize l.take wd = t at *
  have hcv : ∀ W, (convert 9 124 (.string (bstr t))).run Tryz.prog W = .ok (.slice (some ⟨W.heap.size, 0, none⟩) t.length (grownCap W t.length 0 5)) (Go.Lib.bytesWorld W 5 (bstr t)) := fun W => by
    rw [← bstr_size t]
    exact Go.Lib.run_convert_string_bytes W 9 124 5 (bstr t) Tryz.underlying9 Tryz.underlying124 Tryz.underlying5
  go_enter Tryz.func162, Tryz.ntmps162
  go_wp2_with fail
  refine hc.mono ?_
  rintro e w1 ⟨rfl, hrd, hg⟩
  clear hc
  go_wp2
  go_loopw [5, 13] (fun s5 j wr => ∃ i : Nat, i ≤ t.length ∧ j = .int .i64 i ∧ s5 = .int .i64 (num (t.take i)) ∧ wr = Go.Lib.bytesWorld w1 5 (bstr t)) (fun _ j _ => t.length - (intOf j).toNat)
  case atStart => exact ⟨0, Nat.zero_le _, rfl, rfl, rfl⟩
  case round =>
    obtain ⟨i, hi, rfl, rfl, rfl⟩ := hrel
    by_cases hil : i < t.length
    · have hcell := Go.Lib.bytesWorld_cell w1 5 (bstr t) i (by rw [bstr_size]; exact hil)
      rw [bstr_data] at hcell
      have hts : t.take (i + 1) = t.take i ++ [t.getD i 0] := by
        rw [List.take_succ_eq_append_getElem hil]
        simp [List.getD, hil]
      have hm := num_mono t (i + 1)
      have hsn := num_snoc (t.take i) (t.getD i 0)
      rw [← hts] at hsn
      have HSN : Hid (num (t.take (i + 1)) = num (t.take i) * 256 + (t.getD i 0).toNat) := hsn
      have hb256 : (t.getD i 0).toNat < 256 := (t.getD i 0).toNat_lt
      rw [hsn] at hm
      generalize t.getD i 0 = b at *
      generalize num (t.take i) = m at *
      generalize b.toNat = bn at *
      have HOR : Hid (bits .or .i64 ((m : Int) * 256) (bn : Int) = (m : Int) * 256 + bn) := bits_join .i64 63 (by decide) (fun n h0 h1 => wrap_small2 h0 h1) 8 _ _ (by omega) (by omega) (by omega) (by omega) (by omega) (by omega)
      clear hts hsn
      go_wp2
      exact ⟨⟨i + 1, by omega, by go_num, by rw [HSN.out, HOR.out]; simp, trivial⟩, by simp [intOf]; omega⟩
    · have hie : i = t.length := by omega
      subst hie
      rw [List.take_length]
      have hrd2 : RdAt (Go.Lib.bytesWorld w1 5 (bstr t)) rb (l.drop wd) := hrd.out.bytes
      have hg2 : w.grownBy (Go.Lib.bytesWorld w1 5 (bstr t)) (some rb) := grown_trans hg (bytes_grown _ _ _ _)
      have HRD : Hid (RdAt (Go.Lib.bytesWorld w1 5 (bstr t)) rb (l.drop wd)) := hrd2
      clear hrd hrd2 hg
      generalize Go.Lib.bytesWorld w1 5 (bstr t) = wz at *
      go_wp2
      go_ret
      exact ⟨rfl, HRD, hg2⟩

theorem str_neB {a b : ByteArray} (h : a ≠ b) : (a.toList == b.toList) = false := by
  rw [beq_eq_false_iff_ne, Go.Lib.toList_data, Go.Lib.toList_data]
  exact fun e => h (ByteArray.ext (Array.toList_inj.1 e))
theorem bstr_inj {l r : List UInt8} (h : bstr l = bstr r) : l = r := by
  have := congrArg (fun b : ByteArray => b.data.toList) h
  simpa [bstr] using this

set_option maxRecDepth 100000 in
theorem hasPrefixIn (l p : List UInt8) (w : World) (_hl : l.length ≤ 70368744177664) (_hp : p.length ≤ 70368744177664) :
    Calls Tryz.prog 197 #[.string (bstr l), .string (bstr p)] w fun e w' => e = .returned (.bool (decide (p <+: l))) ∧ Below w.heap.size w w' := by
  have hsl := bstr_size l
  have hsp := bstr_size p
  by_cases hle : p.length ≤ l.length
  · have hex : (bstr l).extract 0 p.length = bstr (l.take p.length) := by rw [bstr_extract, List.drop_zero, Nat.sub_zero]
    have q1 : (p.length : Int) ≤ (l.length : Int) := by omega
    by_cases he : l.take p.length = p
    · have hd : decide (p <+: l) = true := decide_eq_true (by rw [← he]; exact List.take_prefix _ _)
      rw [hd]
      rw [he] at hex
      go_enter Tryz.func197, Tryz.ntmps197
      go_wp2
      all_goals go_ret
      all_goals exact ⟨by first | rfl | simp, by first | exact Below.refl _ _ | exact (Below.refl _ _).drew⟩
    · have hd : decide (p <+: l) = false := decide_eq_false (fun h => he (by rw [List.prefix_iff_eq_take.1 h]; simp))
      rw [hd]
      have hne := str_neB (a := bstr (l.take p.length)) (b := bstr p) (fun e => he (bstr_inj e))
      go_enter Tryz.func197, Tryz.ntmps197
      go_wp2
      all_goals go_ret
      all_goals exact ⟨by first | rfl | simp, by first | exact Below.refl _ _ | exact (Below.refl _ _).drew⟩
  · have hd : decide (p <+: l) = false := decide_eq_false (fun h => hle h.length_le)
    rw [hd]
    have q1 : (l.length : Int) < (p.length : Int) := by omega
    go_enter Tryz.func197, Tryz.ntmps197
    go_wp2
    all_goals go_ret
    all_goals exact ⟨by first | rfl | simp, by first | exact Below.refl _ _ | exact (Below.refl _ _).drew⟩
theorem hasPrefix (l p : List UInt8) (w : World) (hl : l.length ≤ 70368744177664) (hp : p.length ≤ 70368744177664) :
    Calls Tryz.prog 165 #[.string (bstr l), .string (bstr p)] w fun e w' => e = .returned (.bool (decide (p <+: l))) ∧ Below w.heap.size w w' := by
  have hc := hasPrefixIn l p w hl hp
  generalize decide (p <+: l) = d at *
  generalize bstr l = a at *
  generalize bstr p = b at *
  go_enter Tryz.func165, Tryz.ntmps165
  go_wp2_with fail
  refine hc.mono ?_
  rintro e w1 ⟨rfl, hb⟩
  go_wp2
  go_ret
  exact ⟨rfl, hb⟩
end Go.Proofs.YtahdlejgjcjeoabGreatDoor
