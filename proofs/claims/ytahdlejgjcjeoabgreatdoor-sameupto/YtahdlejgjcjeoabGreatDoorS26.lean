/- The program's Deliver: plain matters of what arrives. -/
import Derived.Test.YtahdlejgjcjeoabGreatDoorS25
namespace Go.Proofs.YtahdlejgjcjeoabGreatDoor
open Go.RowKit Go.MuLone

theorem zeroCells_len (cs : Array Value) (m : Nat) : (Builtin.zeroCells cs m).size = m * cs.size := by simp [Builtin.zeroCells]
theorem zeroCells_one (cs : Array Value) (m : Nat) (h1 : ∀ u ∈ cs, u.oneCell' = true) (h0 : 0 < cs.size) : ∀ u ∈ (Builtin.zeroCells cs m).toList, u.oneCell' = true := by
  intro u hu
  obtain ⟨i, hi, rfl⟩ := List.mem_iff_getElem.1 hu
  have hm : i % cs.size < cs.size := Nat.mod_lt _ h0
  simp only [Builtin.zeroCells]
  simp
  rw [getElem!_pos cs _ hm]
  exact h1 _ (Array.getElem_mem hm)
/-- clear of any number of elements. -/
theorem clear_any (w : World) (t e : TypeId) (z : List Value) (ht : Tryz.prog.underlying t = some (.slice e)) (hv : ∀ w, (zeroValue e).run Tryz.prog w = .ok (.agg z.toArray) w) (h1 : ∀ u ∈ z, u.oneCell' = true) (h0 : 0 < z.length) (b o m c : Nat) (hm : 0 < m)
    (hc : ∀ j, j < m * z.length → (w.cell? ⟨b, o + j, none⟩).isSome = true) (hf : ∀ j, j < m * z.length → w.frozen? ⟨b, o + j, none⟩ = false) :
    ∃ zl : List Value, zl.length = m * z.length ∧ ∀ ty, (Builtin.clear_ #[t] ty #[.slice (some ⟨b, o, none⟩) m c]).run Tryz.prog w = .ok (.tuple #[]) (w.setCells b o zl) := by
  have hl : (Builtin.zeroCells (Value.agg z.toArray).cells m).toList.length = m * z.length := by
    rw [Array.length_toList, zeroCells_len]
    simp [Value.cells]
  refine ⟨(Builtin.zeroCells (Value.agg z.toArray).cells m).toList, hl, fun ty => ?_⟩
  have hst := run_storeCells_cells (P := Tryz.prog) b o (Builtin.zeroCells (Value.agg z.toArray).cells m).toList 0 w (fun j hj => by rw [hl] at hj; simpa using hc j hj) (fun j hj => by rw [hl] at hj; first | exact hf j hj | simp) (zeroCells_one _ m (by simpa [Value.cells] using h1) (by simpa [Value.cells] using h0))
  simp only [Nat.add_zero] at hst
  obtain ⟨k, rfl⟩ : ∃ k, m = k + 1 := ⟨m - 1, by omega⟩
  simp [Builtin.clear_, run_underlying ht, hv, hst]
/-- A row cut behind its first i, the rest written over. -/
theorem RowC.cut {w : World} {col : Col} {κ : Nat × Nat} {e : TypeId} {s n g cap i : Nat} {xs zl : List Value} (h : RowC w col κ e s (.slice (some ⟨g, 0, none⟩) n cap) n xs) (hi : i ≤ n) (hz : zl.length = (n - i) * s) :
    RowC (w.setCells g (i * s) zl) col κ e s (.slice (some ⟨g, 0, none⟩) i cap) i (xs.take (i * s)) ∧ FrC (fun x => x = κ) col col w (w.setCells g (i * s) zl) := by
  have hcg : col g = κ := h.col g rfl
  have hgr : w.grownBy (w.setCells g (i * s) zl) (some g) := grown_setCells _ _ _
  refine ⟨⟨?_, fun q hq => by cases hq; exact hcg⟩, ⟨(Fr.refl _ w).step hgr (fun q hq => by cases hq; exact .inr hcg), fun _ _ => rfl⟩⟩
  rcases h.own.2 with ⟨h0, _⟩ | ⟨g', cap', cur, hv, hg, hh, h1, h2, h3, h4⟩
  · cases h0
  cases hv
  have hxl := h.own.1
  have e1 : i * s + (n - i) * s = n * s := by rw [← Nat.add_mul]; congr 1; omega
  have e4 : n * s ≤ cap * s := Nat.mul_le_mul_right s h1
  refine ⟨by rw [List.length_take, hxl]; omega, .inr ⟨g, cap, _, rfl, hg, heap_putA zl _ hh, by omega, h2, by rw [putA_size]; exact h3, ?_⟩⟩
  apply List.ext_getElem?
  intro k
  by_cases hk : k < i * s
  · rw [List.getElem?_take_of_lt hk, Array.getElem?_toList, putA_get _ _ _ _ (by omega), if_neg (by omega), List.getElem?_take_of_lt hk, ← h4, List.getElem?_take_of_lt (by omega), Array.getElem?_toList]
  · rw [List.getElem?_eq_none (by rw [List.length_take]; omega), List.getElem?_eq_none (by rw [List.length_take]; omega)]
/-- One entry of a row is written. -/
theorem RowC.store3 {w : World} {col : Col} {κ : Nat × Nat} {n g cap i : Nat} {xs : List Pe} (h : RowC w col κ 85 3 (.slice (some ⟨g, 0, none⟩) n cap) n (xs.flatMap Pe.cells)) (hi : i < xs.length) (e : Pe) :
    RowC (((w.setCell ⟨g, i * 3, none⟩ (.int .i64 e.num)).setCell ⟨g, i * 3 + 1, none⟩ (.int .i64 e.org)).setCell ⟨g, i * 3 + 2, none⟩ e.v) col κ 85 3 (.slice (some ⟨g, 0, none⟩) n cap) n ((xs.set i e).flatMap Pe.cells) ∧ FrC (fun x => x = κ) col col w (((w.setCell ⟨g, i * 3, none⟩ (.int .i64 e.num)).setCell ⟨g, i * 3 + 1, none⟩ (.int .i64 e.org)).setCell ⟨g, i * 3 + 2, none⟩ e.v) := by
  obtain ⟨a1, b1⟩ := h.store (i * 3) (.int .i64 e.num)
  obtain ⟨a2, b2⟩ := a1.store (i * 3 + 1) (.int .i64 e.org)
  obtain ⟨a3, b3⟩ := a2.store (i * 3 + 2) e.v
  refine ⟨?_, (b1.trans b2).trans b3⟩
  have s1 := flatMap_set Pe.cells 3 Pe.cells_length xs i 0 (.int .i64 e.num) { xs[i] with num := e.num } hi (by omega) rfl
  have s2 := flatMap_set Pe.cells 3 Pe.cells_length (xs.set i { xs[i] with num := e.num }) i 1 (.int .i64 e.org) { xs[i] with num := e.num, org := e.org } (by simpa using hi) (by omega) (by simp [Pe.cells])
  have s3 := flatMap_set Pe.cells 3 Pe.cells_length ((xs.set i { xs[i] with num := e.num }).set i { xs[i] with num := e.num, org := e.org }) i 2 e.v e (by simpa using hi) (by omega) (by simp [Pe.cells])
  rw [Nat.add_zero] at s1
  rw [s1, s2, s3] at a3
  simpa using a3

def keepE (L : Nat) (e : Pe) : Bool := decide (L < e.num)
/-- Where DeleteFunc stands: xs lies in the row, its first i are what stays of the first j. -/
structure DelAt (w wr : World) (col : Col) (κ : Nat × Nat) (g cap b L : Nat) (es xs : List Pe) (i j : Nat) : Prop where
  row : RowC wr col κ 85 3 (.slice (some ⟨g, 0, none⟩) es.length cap) es.length (xs.flatMap Pe.cells)
  len : xs.length = es.length
  fst : xs.take i = (es.take j).filter (keepE L)
  snd : xs.drop j = es.drop j
  fr : FrC (fun x => x = κ) col col w wr
  box : wr.cell? ⟨b, 0, none⟩ = some (.int .i64 L)
section
variable {w wr w' : World} {col : Col} {κ : Nat × Nat} {g cap b L i j : Nat} {es xs : List Pe}
theorem DelAt.same (h : DelAt w wr col κ g cap b L es xs i j) (hb : Below wr.heap.size wr w') : DelAt w w' col κ g cap b L es xs i j :=
  ⟨h.row.kept (S := fun _ => False) (frC_same hb) id, h.len, h.fst, h.snd, h.fr.trans (frC_same hb), (hb.cell (p := ⟨b, 0, none⟩) (World.block_lt_of_cell? wr ⟨b, 0, none⟩ h.box)).trans h.box⟩
theorem DelAt.ent (h : DelAt w wr col κ g cap b L es xs i j) (hj : j < es.length) (hjx : j < xs.length) : xs[j] = es[j] := by
  have h1 : (xs.drop j)[0]? = (es.drop j)[0]? := by rw [h.snd]
  rw [List.getElem?_drop, List.getElem?_drop, Nat.add_zero, List.getElem?_eq_getElem hjx, List.getElem?_eq_getElem hj] at h1
  exact Option.some.inj h1
theorem drop_more {α : Type} {a c : List α} {j : Nat} (h : a.drop j = c.drop j) : a.drop (j + 1) = c.drop (j + 1) := by
  rw [← List.drop_drop, ← List.drop_drop, h]
theorem DelAt.no (h : DelAt w wr col κ g cap b L es xs i j) (hj : j < es.length) (hg : (es[j]).num ≤ L) : DelAt w wr col κ g cap b L es xs i (j + 1) :=
  ⟨h.row, h.len, by rw [h.fst, List.take_succ_eq_append_getElem hj, List.filter_append, List.filter_cons_of_neg (by simp [keepE]; exact hg)]; simp, drop_more h.snd, h.fr, h.box⟩
theorem DelAt.yes (h : DelAt w wr col κ g cap b L es xs i j) (hbg : b ≠ g) (hij : i < j) (hj : j < es.length) (hg : L < (es[j]).num) :
    DelAt w (((wr.setCell ⟨g, i * 3, none⟩ (.int .i64 (es[j]).num)).setCell ⟨g, i * 3 + 1, none⟩ (.int .i64 (es[j]).org)).setCell ⟨g, i * 3 + 2, none⟩ (es[j]).v) col κ g cap b L es (xs.set i es[j]) (i + 1) (j + 1) := by
  have hix : i < xs.length := by rw [h.len]; omega
  obtain ⟨a1, a2⟩ := h.row.store3 hix es[j]
  refine ⟨a1, by rw [List.length_set, h.len], ?_, ?_, h.fr.trans a2, ?_⟩
  · rw [List.take_succ_eq_append_getElem (by simpa using hix), List.take_succ_eq_append_getElem hj, List.filter_append, List.filter_cons_of_pos (by simp [keepE]; exact hg), ← h.fst, List.take_set_of_le (Nat.le_refl _)]
    simp
  · rw [List.drop_set_of_lt (by omega)]
    exact drop_more h.snd
  · rw [World.cell?_setCell_other _ _ _ _ (by simp), World.cell?_setCell_other _ _ _ _ (by simp), World.cell?_setCell_other _ _ _ _ (by simp)]
    exact h.box
end
set_option maxRecDepth 100000 in
set_option maxHeartbeats 2000000 in
theorem delFunc_any {κ : Nat × Nat} {col : Col} (g cap b L : Nat) (es : List Pe) (w : World) (hrow : RowC w col κ 85 3 (.slice (some ⟨g, 0, none⟩) es.length cap) es.length (es.flatMap Pe.cells)) (hv : ∀ e ∈ es, ∃ ad cp, e.v = .slice ad e.d.length cp) (hb : w.cell? ⟨b, 0, none⟩ = some (.int .i64 L)) (hbg : b ≠ g) (hn : es.length ≤ 1024) :
    Calls Tryz.prog 181 #[.slice (some ⟨g, 0, none⟩) es.length cap, .func (.func 182) #[] #[.pointer (some ⟨b, 0, none⟩)]] w fun e w' => e = .returned (.slice (some ⟨g, 0, none⟩) (es.filter (keepE L)).length cap) ∧ Hid (RowC w' col κ 85 3 (.slice (some ⟨g, 0, none⟩) (es.filter (keepE L)).length cap) (es.filter (keepE L)).length ((es.filter (keepE L)).flatMap Pe.cells)) ∧ Hid (FrC (fun x => x = κ) col col w w') := by
  have HIX := Hid.mk (idx_any g cap b L es w hrow.own hv hb hn)
  have HROW := Hid.mk hrow
  have HV := Hid.mk hv
  have hbl := World.block_lt_of_cell? w ⟨b, 0, none⟩ hb
  clear hrow hv
  go_enter Tryz.func181, Tryz.ntmps181
  go_wp2_with fail
  refine HIX.out.mono ?_
  rintro e w1 ⟨hb1, k, hk, rfl⟩
  obtain ⟨hk1, hk2, hk3⟩ := hk.out
  by_cases hlt : k < es.length
  · rw [if_pos hlt]
    have hne : ((k : Int) == (-1 : Int)) = false := beq_eq_false_iff_ne.2 (by omega)
    have HD0 : Hid (DelAt w w1 col κ g cap b L es es k (k + 1)) := ⟨HROW.out.kept (S := fun _ => False) (frC_same hb1) id, rfl, by
      rw [List.take_succ_eq_append_getElem hlt, List.filter_append, List.filter_cons_of_neg (by simp [keepE]; exact hk3 hlt), List.filter_nil, List.append_nil]
      refine (List.filter_eq_self.2 fun e he => ?_).symm
      obtain ⟨j, hj, rfl⟩ := List.mem_iff_getElem.1 he
      rw [List.length_take] at hj
      rw [List.getElem_take]
      exact decide_eq_true (hk2 j (by omega) (by omega)), rfl, frC_same hb1, (hb1.cell (p := ⟨b, 0, none⟩) hbl).trans hb⟩
    clear HIX hk hk1 hk2 hk3 hb1 HROW
    go_wp2
    go_loopw [5, 6] (fun si sj wr => ∃ (i j : Nat) (xs : List Pe), i < j ∧ j ≤ es.length ∧ si = .int .i64 i ∧ sj = .int .i64 j ∧ Hid (DelAt w wr col κ g cap b L es xs i j)) (fun _ sj _ => es.length - (intOf sj).toNat)
    case atStart => exact ⟨k, k + 1, es, by omega, by omega, rfl, by go_num, HD0⟩
    case round =>
      clear HD0 hne
      obtain ⟨i, j, xs, hij, hj, rfl, rfl, hD⟩ := hrel
      obtain ⟨hc, hcap, hmax, hxl, hfz⟩ := own_cells hD.out.row.own
      by_cases hjl : j < es.length
      · have hjx : j < xs.length := by rw [hD.out.len]; exact hjl
        have hx := hD.out.ent hjl hjx
        have e0 : wr.cell? ⟨g, j * 3, none⟩ = some (.int .i64 (es[j]).num) := hc _ _ (by rw [← Nat.add_zero (j * 3), flatMap_get Pe.cells 3 Pe.cells_length xs j 0 hjx (by omega), hx]; rfl)
        have e1 : wr.cell? ⟨g, j * 3 + 1, none⟩ = some (.int .i64 (es[j]).org) := hc _ _ (by rw [flatMap_get Pe.cells 3 Pe.cells_length xs j 1 hjx (by omega), hx]; rfl)
        have e2 : wr.cell? ⟨g, j * 3 + 2, none⟩ = some (es[j]).v := hc _ _ (by rw [flatMap_get Pe.cells 3 Pe.cells_length xs j 2 hjx (by omega), hx]; rfl)
        have hix : i < xs.length := by rw [hD.out.len]; omega
        have hgl : g < wr.heap.size := World.block_lt_of_cell? wr ⟨g, j * 3, none⟩ e0
        obtain ⟨adv, cpv, hvv⟩ := HV.out _ (List.getElem_mem hjl)
        have HNO : Hid ((es[j]).num ≤ L → ∀ W, Below wr.heap.size wr W → DelAt w W col κ g cap b L es xs i (j + 1)) := fun hL W hW => (hD.out.same hW).no hjl hL
        have HYS : Hid (L < (es[j]).num → ∀ W, Below wr.heap.size wr W → (W.cell? ⟨g, i * 3, none⟩).isSome = true ∧ (W.cell? ⟨g, i * 3 + 1, none⟩).isSome = true ∧ (W.cell? ⟨g, i * 3 + 2, none⟩).isSome = true ∧ (∀ o, W.frozen? ⟨g, o, none⟩ = false) ∧ g < W.heap.size ∧ DelAt w (((W.setCell ⟨g, i * 3, none⟩ (.int .i64 (es[j]).num)).setCell ⟨g, i * 3 + 1, none⟩ (.int .i64 (es[j]).org)).setCell ⟨g, i * 3 + 2, none⟩ (es[j]).v) col κ g cap b L es (xs.set i es[j]) (i + 1) (j + 1)) := fun hL W hW => by
          have hD' := hD.out.same hW
          obtain ⟨hc', -, -, hxl', hfz'⟩ := own_cells hD'.row.own
          have hs : ∀ t, t < 3 → (W.cell? ⟨g, i * 3 + t, none⟩).isSome = true := fun t ht => by
            have hlt' : i * 3 + t < (xs.flatMap Pe.cells).length := by rw [hxl']; omega
            rw [hc' _ _ (List.getElem?_eq_getElem hlt')]
            rfl
          exact ⟨hs 0 (by omega), hs 1 (by omega), hs 2 (by omega), hfz', Nat.lt_of_lt_of_le hgl hW.size, hD'.yes hbg hij hjl hL⟩
        have HGO := Hid.mk (fun W (hW : Below wr.heap.size wr W) => gone_any (es[j]).num (es[j]).org adv (es[j]).d.length cpv b L W (hD.out.same hW).box)
        rw [hvv] at HYS e2
        clear hD hc hxl hx hvv
        generalize (es[j]).num = tn at *
        generalize (es[j]).org = tg at *
        generalize (es[j]).d.length = tl at *
        have q1 : (j : Int) < (es.length : Int) := by omega
        have q2 : (0 : Int) ≤ (j : Int) := by omega
        have q3 : (0 : Int) ≤ (i : Int) := by omega
        have q4 : (i : Int) < (es.length : Int) := by omega
        by_cases hL : tn ≤ L
        · rw [decide_eq_true hL] at HGO
          have HN := Hid.mk (HNO.out hL)
          clear HYS HNO
          go_wp2_with fail
          refine (HGO.out _ (below_alloc (Below.refl _ _) _)).mono ?_
          rintro e w2 ⟨rfl, hb2⟩
          have HN2 := Hid.mk (HN.out w2 ((below_alloc (Below.refl _ _) _).trans (hb2.mono (by simp))))
          clear hb2 HN HGO
          go_wp2
          exact ⟨⟨i, j + 1, xs, by omega, by omega, rfl, by go_num, HN2⟩, by simp [intOf]; omega⟩
        · rw [decide_eq_false hL] at HGO
          have HY := Hid.mk (HYS.out (by omega))
          clear HYS HNO
          go_wp2_with fail
          refine (HGO.out _ (below_alloc (Below.refl _ _) _)).mono ?_
          rintro e w2 ⟨rfl, hb2⟩
          obtain ⟨s0, s1, s2, sf, sg, hN⟩ := HY.out w2 ((below_alloc (Below.refl _ _) _).trans (hb2.mono (by simp)))
          have HN2 := Hid.mk hN
          obtain ⟨u0, c0⟩ := Option.isSome_iff_exists.1 s0
          obtain ⟨u1, c1⟩ := Option.isSome_iff_exists.1 s1
          obtain ⟨u2, c2⟩ := Option.isSome_iff_exists.1 s2
          have vb := (hb2.block wr.heap.size (by simp)).trans (heap_alloc_new wr _)
          have v0 := blk_cell vb 0
          have v1 := blk_cell vb 1
          have v2 := blk_cell vb 2
          simp at v0 v1 v2
          clear hb2 HY HGO hN s0 s1 s2 vb
          go_wp2
          exact ⟨⟨i + 1, j + 1, _, by omega, by omega, by go_num, by go_num, HN2⟩, by simp [intOf]; omega⟩
      · have hje : j = es.length := by omega
        subst hje
        have q1 : ¬ (es.length : Int) < (es.length : Int) := by omega
        have hxt : xs.take i = es.filter (keepE L) := by rw [hD.out.fst, List.take_of_length_le (Nat.le_refl _)]
        have hil : (es.filter (keepE L)).length = i := by rw [← hxt, List.length_take, hD.out.len]; omega
        obtain ⟨zl, hzl, hcl⟩ := clear_any wr 81 85 zeroE Tryz.underlying81 zeroEnt (by decide) (by decide) g (i * 3) (es.length - i) (cap - i) (by omega) (fun t ht => by
          have ht' : t < (es.length - i) * 3 := ht
          have hlt' : i * 3 + t < (xs.flatMap Pe.cells).length := by rw [hxl]; omega
          rw [hc _ _ (List.getElem?_eq_getElem hlt')]
          rfl) (fun t _ => hfz _)
        obtain ⟨r1, r2⟩ := hD.out.row.cut (i := i) (zl := zl) (by omega) hzl
        have hfl : (xs.flatMap Pe.cells).take (i * 3) = (es.filter (keepE L)).flatMap Pe.cells := by
          rw [← hxt]
          have := flatMap_len Pe.cells 3 Pe.cells_length (xs.take i)
          conv => lhs; rw [← List.take_append_drop i xs, List.flatMap_append]
          rw [List.take_append_of_le_length (by rw [this, List.length_take, hD.out.len]; omega), List.take_of_length_le (by rw [this, List.length_take, hD.out.len]; omega)]
        rw [hfl] at r1
        have HR := Hid.mk r1
        have HF := Hid.mk (hD.out.fr.trans r2)
        have q3 : (0 : Int) ≤ (i : Int) := by omega
        have q4 : (i : Int) ≤ (es.length : Int) := by omega
        have q5 : (i : Int) ≤ (cap : Int) := by omega
        have q6 : i ≤ es.length := by omega
        have q7 : i ≤ cap := by omega
        have q8 : ¬ cap = i := by omega
        have q9 : (es.length : Int) ≤ (cap : Int) := by omega
        clear hD hc hfz hxl r1 r2 hfl hxt
        go_wp2
        go_ret
        exact ⟨rfl, HR, HF⟩
  · rw [if_neg hlt]
    have hf : es.filter (keepE L) = es := List.filter_eq_self.2 fun e he => by
      obtain ⟨j, hj, rfl⟩ := List.mem_iff_getElem.1 he
      exact decide_eq_true (hk2 j hj (by omega))
    have HR1 : Hid (RowC w1 col κ 85 3 (.slice (some ⟨g, 0, none⟩) (es.filter (keepE L)).length cap) (es.filter (keepE L)).length ((es.filter (keepE L)).flatMap Pe.cells)) := by rw [hf]; exact HROW.out.kept (S := fun _ => False) (frC_same hb1) id
    have HF1 : Hid (FrC (fun x => x = κ) col col w w1) := frC_same hb1
    clear hk hk1 hk2 hk3 HIX HROW hb1
    go_wp2
    go_ret
    exact ⟨by rw [hf]; rfl, HR1, HF1⟩
end Go.Proofs.YtahdlejgjcjeoabGreatDoor

namespace Go.Proofs.YtahdlejgjcjeoabGreatDoor
open Go.RowKit Go.MuLone

def ackP (ak : Nat → Nat) (q u : Nat) : Nat → Nat := fun j => if j = q then max (ak q) u else ak j
def leastN (nb : Nat → Bool) (ak : Nat → Nat) (m k : Nat) : Nat := (List.range k).foldl (fun m q => if nb q && decide (ak q < m) then ak q else m) m
theorem leastN_succ (nb : Nat → Bool) (ak : Nat → Nat) (m k : Nat) : leastN nb ak m (k + 1) = if nb k && decide (ak k < leastN nb ak m k) then ak k else leastN nb ak m k := by
  unfold leastN
  rw [List.range_succ, List.foldl_append]
  rfl

theorem leastN_le (nb : Nat → Bool) (ak : Nat → Nat) (m : Nat) : ∀ k, leastN nb ak m k ≤ m
  | 0 => Nat.le_refl _
  | k + 1 => by
    have ih := leastN_le nb ak m k
    rw [leastN_succ]
    split
    · rename_i h
      simp only [Bool.and_eq_true, decide_eq_true_eq] at h
      omega
    · exact ih
theorem idx_nil (b : Nat) (w : World) :
    Calls Tryz.prog 201 #[.slice none 0 0, .func (.func 182) #[] #[.pointer (some ⟨b, 0, none⟩)]] w fun e w' => e = .returned (.int .i64 (-1)) ∧ w' = w := by
  go_enter Tryz.func201, Tryz.ntmps201
  go_wp2
  go_loopw [8] (fun s wr => s = .int .i64 0 ∧ wr = w) (fun _ _ => 0)
  case atStart => exact ⟨rfl, rfl⟩
  case round =>
    obtain ⟨rfl, rfl⟩ := hrel
    go_wp2
    go_ret
    exact ⟨rfl, rfl⟩
theorem delFunc_nil (b : Nat) (w : World) :
    Calls Tryz.prog 181 #[.slice none 0 0, .func (.func 182) #[] #[.pointer (some ⟨b, 0, none⟩)]] w fun e w' => e = .returned (.slice none 0 0) ∧ w' = w := by
  go_enter Tryz.func181, Tryz.ntmps181
  go_wp2_with fail
  refine (idx_nil b w).mono ?_
  rintro e w1 ⟨rfl, rfl⟩
  go_wp2
  go_ret
  exact ⟨rfl, rfl⟩
/-- What is not wanted any more goes out of the buffer. -/
theorem PrI.delF {w : World} {col : Col} {o x i b L : Nat} {K : PrK} {D : PrD} (h : PrI w col o x i K D) (hb : w.cell? ⟨b, 0, none⟩ = some (.int .i64 L)) (hcb : col b = (o, 1)) (hes : D.es.length ≤ 1024) :
    Calls Tryz.prog 181 #[D.vb, .func (.func 182) #[] #[.pointer (some ⟨b, 0, none⟩)]] w fun e w' => ∃ vb', e = .returned vb' ∧ w'.cell? ⟨K.R, i * 14 + 4, none⟩ = some D.vb ∧ w'.frozen? ⟨K.R, i * 14 + 4, none⟩ = false ∧ (w'.setCell ⟨K.R, i * 14 + 4, none⟩ vb').cell? ⟨b, 0, none⟩ = some (.int .i64 L) ∧
      Hid (PrI (w'.setCell ⟨K.R, i * 14 + 4, none⟩ vb') col o x i K { D with vb := vb', es := D.es.filter (keepE L) }) ∧ Hid (FrC (ofPrg o i) col col w (w'.setCell ⟨K.R, i * 14 + 4, none⟩ vb')) := by
  have hbl := World.block_lt_of_cell? w ⟨b, 0, none⟩ hb
  have hi6 : i < 6 := Nat.lt_of_lt_of_le h.hi h.h6
  have hbR : K.R ≠ b := fun e => by
    have h1 : col K.R = (o, 2) := h.b.cR
    rw [e, hcb] at h1
    cases h1
  have fin : ∀ (w' : World) (vb' : Value), FrC (fun x => x = (o, 20 + i)) col col w w' → RowC w' col (o, 20 + i) 85 3 vb' (D.es.filter (keepE L)).length ((D.es.filter (keepE L)).flatMap Pe.cells) → w'.cell? ⟨K.R, i * 14 + 4, none⟩ = some D.vb ∧ w'.frozen? ⟨K.R, i * 14 + 4, none⟩ = false ∧ (w'.setCell ⟨K.R, i * 14 + 4, none⟩ vb').cell? ⟨b, 0, none⟩ = some (.int .i64 L) ∧
      Hid (PrI (w'.setCell ⟨K.R, i * 14 + 4, none⟩ vb') col o x i K { D with vb := vb', es := D.es.filter (keepE L) }) ∧ Hid (FrC (ofPrg o i) col col w (w'.setCell ⟨K.R, i * 14 + 4, none⟩ vb')) := fun w' vb' hf hr => by
    have hblk : w'.heap[K.R]? = w.heap[K.R]? := hf.fr.block _ h.ltR (by rw [show col K.R = (o, 2) from h.b.cR]; exact neκ (by omega))
    have hbb : w'.heap[b]? = w.heap[b]? := hf.fr.block _ hbl (by rw [hcb]; exact neκ (by omega))
    obtain ⟨h4, h5⟩ := h.newBuf (vb := vb') (es := D.es.filter (keepE L)) hf hr (fun e he => (h.p.ed e (List.mem_filter.1 he).1).kept hf (neκ (by omega)))
    refine ⟨(World.cell?_of_block (w := w) hblk).trans h.cells.c4, by have := h.cells.fz (i * 14 + 4); simpa [World.frozen?, hblk] using this, ?_, h4, h5⟩
    rw [World.cell?_setCell_other _ _ _ _ (by simp [])]
    exact (World.cell?_of_block (w := w) (a := ⟨b, 0, none⟩) hbb).trans hb
  have hrow := h.p.buf
  rcases hrow.own.2 with ⟨h0, hl0⟩ | ⟨g, cap, cur, hv, -⟩
  · have hl : D.es = [] := List.length_eq_zero_iff.1 hl0
    rw [h0]
    refine (delFunc_nil b w).mono ?_
    rintro e w' ⟨rfl, rfl⟩
    have := fin w' (.slice none 0 0) (FrC.refl _ _ _) (by rw [hl]; exact rowC_nil _ _ _ _ _)
    rw [h0] at this
    exact ⟨_, rfl, this⟩
  · rw [hv] at hrow ⊢
    have hbg : b ≠ g := fun e => by
      have h1 := hrow.col g rfl
      rw [← e, hcb] at h1
      have := congrArg Prod.snd h1
      simp only at this
      omega
    refine (delFunc_any g cap b L D.es w hrow (fun e he => by obtain ⟨ad, cp, hv, -⟩ := h.p.ed e he; exact ⟨ad, cp, hv⟩) hb hbg hes).mono ?_
    rintro e w' ⟨rfl, hr, hf⟩
    have := fin w' _ hf.out hr.out
    rw [hv] at this
    exact ⟨_, rfl, this⟩

set_option maxRecDepth 100000 in
set_option maxHeartbeats 2000000 in
theorem prgLearn {w : World} {col : Col} {o x i : Nat} {K : PrK} {D : PrD} (h : PrI w col o x i K D) (fr u : Nat) (hf : fr < 6) (hu : u ≤ 4194304) (hak : ∀ q, q < 6 → D.ak q ≤ 4194304) (_hbs : D.base ≤ 4194304) (nb : Nat → Bool) (hes : D.es.length ≤ 1024) :
    Calls Tryz.prog 146 #[.pointer (some ⟨K.R, i * 14, none⟩), .int .i64 fr, .int .i64 u, .agg #[.bool (nb 0), .bool (nb 1), .bool (nb 2), .bool (nb 3), .bool (nb 4), .bool (nb 5)]] w fun e w' => e = .returned (.tuple #[]) ∧ ∃ col' vb', Hid (PrI w' col' o x i K { D with ak := ackP D.ak fr u, vb := vb', es := D.es.filter (keepE (leastN nb (ackP D.ak fr u) (ackP D.ak fr u fr) 6)), base := max D.base (leastN nb (ackP D.ak fr u) (ackP D.ak fr u fr) 6) }) ∧ Hid (FrC (ofPrg o i) col col' w w') := by
  have hR0 := h.ltR
  have hbA := below_alloc (Below.refl _ w) (.cells #[.bool (nb 0), .bool (nb 1), .bool (nb 2), .bool (nb 3), .bool (nb 4), .bool (nb 5)] 102)
  have hnb := heap_alloc_new w (.cells #[.bool (nb 0), .bool (nb 1), .bool (nb 2), .bool (nb 3), .bool (nb 4), .bool (nb 5)] 102)
  have h1 := h.same hbA
  have HF1 : Hid (FrC (ofPrg o i) col col w _) := frC_same hbA
  have ca := h1.cells.ak fr hf
  have e5 : i * 14 + (5 + fr) = i * 14 + 5 + fr := by omega
  rw [e5] at ca
  have hfi : (fr : Int) < 6 := by omega
  have hf0 : (0 : Int) ≤ fr := by omega
  have hfz := h1.cells.fz
  have hR := h1.ltR
  have zf := hfz (i * 14 + 5 + fr)
  have hafr := hak fr hf
  have HI1 := Hid.mk h1
  have HNB := Hid.mk hnb
  clear h h1 hbA hnb hfz
  go_enter Tryz.func146, Tryz.ntmps146
  go_wp2
  generalize w.alloc (.cells #[.bool (nb 0), .bool (nb 1), .bool (nb 2), .bool (nb 3), .bool (nb 4), .bool (nb 5)] 102) = w1 at *
  go_cut [] from 11 (fun wc => Hid (PrI wc col o x i K { D with ak := ackP D.ak fr u } ∧ FrC (ofPrg o i) col col w wc ∧ wc.heap[w.heap.size]? = some (.cells #[.bool (nb 0), .bool (nb 1), .bool (nb 2), .bool (nb 3), .bool (nb 4), .bool (nb 5)] 102 (0, 0))))
  case first =>
    have HPT : Hid (∀ W, Below w1.heap.size w1 W → PrI (W.setCell ⟨K.R, i * 14 + 5 + fr, none⟩ (.int .i64 (max (D.ak fr : Int) (u : Int)))) col o x i K { D with ak := ackP D.ak fr u } ∧ FrC (ofPrg o i) col col w (W.setCell ⟨K.R, i * 14 + 5 + fr, none⟩ (.int .i64 (max (D.ak fr : Int) (u : Int)))) ∧ (W.setCell ⟨K.R, i * 14 + 5 + fr, none⟩ (.int .i64 (max (D.ak fr : Int) (u : Int)))).heap[w.heap.size]? = some (.cells #[.bool (nb 0), .bool (nb 1), .bool (nb 2), .bool (nb 3), .bool (nb 4), .bool (nb 5)] 102 (0, 0))) := fun W hW => by
      have hI := HI1.out.same hW
      obtain ⟨a1, a2⟩ := hI.put (k := 5 + fr) (u := .int .i64 (max (D.ak fr : Int) (u : Int))) (by omega) { D with ak := ackP D.ak fr u } (by
        have hmx : ((max (D.ak fr) u : Nat) : Int) = max (D.ak fr : Int) (u : Int) := by omega
        rcases (by omega : fr = 0 ∨ fr = 1 ∨ fr = 2 ∨ fr = 3 ∨ fr = 4 ∨ fr = 5) with rfl | rfl | rfl | rfl | rfl | rfl <;> simp [PrD.cells, ackP, ← hmx]) rfl rfl rfl rfl rfl rfl rfl
      rw [e5] at a1 a2
      refine ⟨a1, (HF1.out.trans (frC_same hW)).trans a2, ?_⟩
      have hb := blk_lt HNB.out
      refine ((grown_setCell W _ _).block _ (Nat.lt_of_lt_of_le hb hW.size) (fun e => ?_)).trans ((hW.block _ hb).trans HNB.out)
      have he : w.heap.size = K.R := Option.some.inj e
      omega
    clear HI1 HNB HF1
    go_region
    all_goals go_wp2
    all_goals go_meet
    all_goals (case rel => first | exact HPT.out _ (Below.refl _ _).drew | exact HPT.out _ (Below.refl _ _))
  case rest =>
    obtain ⟨hI2, hF2, hN2⟩ := hcut.out
    generalize wc = w2 at *
    clear HI1 HNB HF1 ca zf hcut
    have hA := fun q hq => hI2.cells.ak q hq
    have hakA : ∀ q, q < 6 → ackP D.ak fr u q ≤ 4194304 := fun q hq => by
      have := hak q hq
      unfold ackP
      split <;> omega
    simp only at hA
    generalize hAA : ackP D.ak fr u = A at *
    have a0 := hA 0 (by omega)
    have a1 := hA 1 (by omega)
    have a2 := hA 2 (by omega)
    have a3 := hA 3 (by omega)
    have a4 := hA 4 (by omega)
    have a5 := hA 5 (by omega)
    have af := hA fr hf
    rw [e5] at af
    have hR2 : K.R < w2.heap.size := hI2.ltR
    have hne1 : K.R ≠ w2.heap.size := by omega
    have hne2 : ¬ w2.heap.size = K.R := by omega
    have hNl : w.heap.size < w2.heap.size := blk_lt hN2
    have hne3 : ¬ w2.heap.size = w.heap.size := by omega
    have hne4 : ¬ w.heap.size = w2.heap.size := by omega
    have HI2 := Hid.mk hI2
    have HF2 := Hid.mk hF2
    have HN2 := Hid.mk hN2
    clear hA hI2 hF2 hN2
    simp only [Nat.add_zero, ← Nat.add_assoc] at a0 a1 a2 a3 a4 a5
    go_wp2
    have hB3 := heap_alloc_new w2 (.cells #[.int .i64 (A fr)] 3)
    have HB3 := Hid.mk (below_alloc (Below.refl _ w2) (.cells #[.int .i64 (A fr)] 3))
    generalize w2.alloc (.cells #[.int .i64 (A fr)] 3) = w3 at *
    clear a0 a1 a2 a3 a4 a5 af
    go_loopw [34] (fun s wr => ∃ k : Nat, k ≤ 6 ∧ s = .int .i64 k ∧ Hid (Below w2.heap.size w2 wr ∧ wr.heap[w2.heap.size]? = some (.cells #[.int .i64 (leastN nb A (A fr) k)] 3 (0, 0)))) (fun s _ => 6 - (intOf s).toNat)
    case atStart => exact ⟨0, by omega, rfl, HB3.out, hB3⟩
    case round =>
      clear HB3 hB3
      obtain ⟨k, hk, rfl, hst⟩ := hrel
      have bx : wr.cell? ⟨w2.heap.size, 0, none⟩ = some (.int .i64 (leastN nb A (A fr) k)) := blk_cell hst.out.2 0
      have bf := blk_thaw hst.out.2 0
      have hbl := blk_lt hst.out.2
      have hNr := (hst.out.1.block _ hNl).trans HN2.out
      by_cases hk6 : k < 6
      · have hsuc := leastN_succ nb A (A fr) k
        have hAk := hakA k hk6
        have HST : Hid (∀ v : Nat, leastN nb A (A fr) (k + 1) = v → Below w2.heap.size w2 (wr.setCell ⟨w2.heap.size, 0, none⟩ (.int .i64 v)) ∧ (wr.setCell ⟨w2.heap.size, 0, none⟩ (.int .i64 v)).heap[w2.heap.size]? = some (.cells #[.int .i64 (leastN nb A (A fr) (k + 1))] 3 (0, 0))) := fun v hv => by
          subst hv
          exact ⟨hst.out.1.setCell (p := ⟨w2.heap.size, 0, none⟩) (Nat.le_refl _) _, heap_set (o := 0) hst.out.2 _⟩
        have HSM : Hid (leastN nb A (A fr) (k + 1) = leastN nb A (A fr) k → Below w2.heap.size w2 wr ∧ wr.heap[w2.heap.size]? = some (.cells #[.int .i64 (leastN nb A (A fr) (k + 1))] 3 (0, 0))) := fun hv => by
          rw [hv]
          exact hst.out
        have n0 := blk_cell hNr 0
        have n1 := blk_cell hNr 1
        have n2 := blk_cell hNr 2
        have n3 := blk_cell hNr 3
        have n4 := blk_cell hNr 4
        have n5 := blk_cell hNr 5
        simp at n0 n1 n2 n3 n4 n5
        clear hst hNr
        generalize leastN nb A (A fr) k = l0 at *
        have ix0 : ∀ w, (Instr.index 123 (.agg #[.int .i64 (A 0), .int .i64 (A 1), .int .i64 (A 2), .int .i64 (A 3), .int .i64 (A 4), .int .i64 (A 5)]) (.int .i64 0)).run Tryz.prog w = .ok (.int .i64 (A 0)) w := fun _ => by kernel_rfl
        have ix1 : ∀ w, (Instr.index 123 (.agg #[.int .i64 (A 0), .int .i64 (A 1), .int .i64 (A 2), .int .i64 (A 3), .int .i64 (A 4), .int .i64 (A 5)]) (.int .i64 1)).run Tryz.prog w = .ok (.int .i64 (A 1)) w := fun _ => by kernel_rfl
        have ix2 : ∀ w, (Instr.index 123 (.agg #[.int .i64 (A 0), .int .i64 (A 1), .int .i64 (A 2), .int .i64 (A 3), .int .i64 (A 4), .int .i64 (A 5)]) (.int .i64 2)).run Tryz.prog w = .ok (.int .i64 (A 2)) w := fun _ => by kernel_rfl
        have ix3 : ∀ w, (Instr.index 123 (.agg #[.int .i64 (A 0), .int .i64 (A 1), .int .i64 (A 2), .int .i64 (A 3), .int .i64 (A 4), .int .i64 (A 5)]) (.int .i64 3)).run Tryz.prog w = .ok (.int .i64 (A 3)) w := fun _ => by kernel_rfl
        have ix4 : ∀ w, (Instr.index 123 (.agg #[.int .i64 (A 0), .int .i64 (A 1), .int .i64 (A 2), .int .i64 (A 3), .int .i64 (A 4), .int .i64 (A 5)]) (.int .i64 4)).run Tryz.prog w = .ok (.int .i64 (A 4)) w := fun _ => by kernel_rfl
        have ix5 : ∀ w, (Instr.index 123 (.agg #[.int .i64 (A 0), .int .i64 (A 1), .int .i64 (A 2), .int .i64 (A 3), .int .i64 (A 4), .int .i64 (A 5)]) (.int .i64 5)).run Tryz.prog w = .ok (.int .i64 (A 5)) w := fun _ => by kernel_rfl
        rcases (by omega : k = 0 ∨ k = 1 ∨ k = 2 ∨ k = 3 ∨ k = 4 ∨ k = 5) with rfl | rfl | rfl | rfl | rfl | rfl
        · cases hb : nb 0 with
          | false =>
            rw [hb] at n0 hsuc
            have HX := Hid.mk (HSM.out (by simpa using hsuc))
            clear HSM HST hsuc
            go_wp2
            exact ⟨⟨1, by omega, by rfl, HX⟩, by simp [intOf]⟩
          | true =>
            rw [hb] at n0 hsuc
            have hv : leastN nb A (A fr) (0 + 1) = min l0 (A 0) := by
              rw [hsuc]
              simp only [Bool.true_and, decide_eq_true_eq]
              split <;> omega
            have hvi : ((min l0 (A 0) : Nat) : Int) = min (l0 : Int) (A 0 : Int) := by omega
            have HX := Hid.mk (HST.out _ hv)
            rw [hvi] at HX
            clear HSM HST hsuc hv hvi
            go_wp2
            exact ⟨⟨1, by omega, by rfl, HX⟩, by simp [intOf]⟩
        · cases hb : nb 1 with
          | false =>
            rw [hb] at n1 hsuc
            have HX := Hid.mk (HSM.out (by simpa using hsuc))
            clear HSM HST hsuc
            go_wp2
            exact ⟨⟨2, by omega, by rfl, HX⟩, by simp [intOf]⟩
          | true =>
            rw [hb] at n1 hsuc
            have hv : leastN nb A (A fr) (1 + 1) = min l0 (A 1) := by
              rw [hsuc]
              simp only [Bool.true_and, decide_eq_true_eq]
              split <;> omega
            have hvi : ((min l0 (A 1) : Nat) : Int) = min (l0 : Int) (A 1 : Int) := by omega
            have HX := Hid.mk (HST.out _ hv)
            rw [hvi] at HX
            clear HSM HST hsuc hv hvi
            go_wp2
            exact ⟨⟨2, by omega, by rfl, HX⟩, by simp [intOf]⟩
        · cases hb : nb 2 with
          | false =>
            rw [hb] at n2 hsuc
            have HX := Hid.mk (HSM.out (by simpa using hsuc))
            clear HSM HST hsuc
            go_wp2
            exact ⟨⟨3, by omega, by rfl, HX⟩, by simp [intOf]⟩
          | true =>
            rw [hb] at n2 hsuc
            have hv : leastN nb A (A fr) (2 + 1) = min l0 (A 2) := by
              rw [hsuc]
              simp only [Bool.true_and, decide_eq_true_eq]
              split <;> omega
            have hvi : ((min l0 (A 2) : Nat) : Int) = min (l0 : Int) (A 2 : Int) := by omega
            have HX := Hid.mk (HST.out _ hv)
            rw [hvi] at HX
            clear HSM HST hsuc hv hvi
            go_wp2
            exact ⟨⟨3, by omega, by rfl, HX⟩, by simp [intOf]⟩
        · cases hb : nb 3 with
          | false =>
            rw [hb] at n3 hsuc
            have HX := Hid.mk (HSM.out (by simpa using hsuc))
            clear HSM HST hsuc
            go_wp2
            exact ⟨⟨4, by omega, by rfl, HX⟩, by simp [intOf]⟩
          | true =>
            rw [hb] at n3 hsuc
            have hv : leastN nb A (A fr) (3 + 1) = min l0 (A 3) := by
              rw [hsuc]
              simp only [Bool.true_and, decide_eq_true_eq]
              split <;> omega
            have hvi : ((min l0 (A 3) : Nat) : Int) = min (l0 : Int) (A 3 : Int) := by omega
            have HX := Hid.mk (HST.out _ hv)
            rw [hvi] at HX
            clear HSM HST hsuc hv hvi
            go_wp2
            exact ⟨⟨4, by omega, by rfl, HX⟩, by simp [intOf]⟩
        · cases hb : nb 4 with
          | false =>
            rw [hb] at n4 hsuc
            have HX := Hid.mk (HSM.out (by simpa using hsuc))
            clear HSM HST hsuc
            go_wp2
            exact ⟨⟨5, by omega, by rfl, HX⟩, by simp [intOf]⟩
          | true =>
            rw [hb] at n4 hsuc
            have hv : leastN nb A (A fr) (4 + 1) = min l0 (A 4) := by
              rw [hsuc]
              simp only [Bool.true_and, decide_eq_true_eq]
              split <;> omega
            have hvi : ((min l0 (A 4) : Nat) : Int) = min (l0 : Int) (A 4 : Int) := by omega
            have HX := Hid.mk (HST.out _ hv)
            rw [hvi] at HX
            clear HSM HST hsuc hv hvi
            go_wp2
            exact ⟨⟨5, by omega, by rfl, HX⟩, by simp [intOf]⟩
        · cases hb : nb 5 with
          | false =>
            rw [hb] at n5 hsuc
            have HX := Hid.mk (HSM.out (by simpa using hsuc))
            clear HSM HST hsuc
            go_wp2
            exact ⟨⟨6, by omega, by rfl, HX⟩, by simp [intOf]⟩
          | true =>
            rw [hb] at n5 hsuc
            have hv : leastN nb A (A fr) (5 + 1) = min l0 (A 5) := by
              rw [hsuc]
              simp only [Bool.true_and, decide_eq_true_eq]
              split <;> omega
            have hvi : ((min l0 (A 5) : Nat) : Int) = min (l0 : Int) (A 5 : Int) := by omega
            have HX := Hid.mk (HST.out _ hv)
            rw [hvi] at HX
            clear HSM HST hsuc hv hvi
            go_wp2
            exact ⟨⟨6, by omega, by rfl, HX⟩, by simp [intOf]⟩
      · have hk7 : k = 6 := by omega
        subst hk7
        obtain ⟨hB4, hX4⟩ := hst.out
        clear hst hNr
        have hI4 := HI2.out.below hB4 (o, 1)
        have hcb : paint col w2.heap.size (o, 1) w2.heap.size = (o, 1) := paint_new col _ (Nat.le_refl _)
        have hF4 : FrC (ofPrg o i) col (paint col w2.heap.size (o, 1)) w wr := HF2.out.trans (frC_below hB4 (o, 1))
        generalize paint col w2.heap.size (o, 1) = col4 at *
        generalize hLL : leastN nb A (A fr) 6 = L at *
        have hLle : L ≤ 4194304 := by
          rw [← hLL]
          exact Nat.le_trans (leastN_le nb A (A fr) 6) (hakA fr hf)
        have c4 := hI4.cells.c4
        have HDF := Hid.mk (fun W (hW : Below wr.heap.size wr W) => (hI4.same hW).delF ((hW.cell (p := ⟨w2.heap.size, 0, none⟩) hbl).trans bx) hcb hes)
        have HF4 := Hid.mk hF4
        obtain ⟨adb, cpb, hvb, -⟩ := hI4.p.buf.form
        clear hI4 hF4 hB4 hX4 HI2 HF2 HN2
        rw [hvb] at HDF c4
        go_wp2_with fail
        refine (HDF.out _ (Below.refl _ _)).mono ?_
        rintro e w5 ⟨vb5, rfl, y4, yf4, ybx, hI5, hF5⟩
        obtain ⟨ad5, cp5, hv5, -⟩ := hI5.out.p.buf.form
        simp only at hv5
        subst hv5
        have y2 := hI5.out.cells.c2
        have yf2 := hI5.out.cells.fz (i * 14 + 2)
        have yR : K.R < _ := hI5.out.ltR
        simp only at y2
        have HPT : Hid (∀ W, Below (w5.setCell ⟨K.R, i * 14 + 4, none⟩ (.slice ad5 (D.es.filter (keepE L)).length cp5)).heap.size (w5.setCell ⟨K.R, i * 14 + 4, none⟩ (.slice ad5 (D.es.filter (keepE L)).length cp5)) W → PrI (W.setCell ⟨K.R, i * 14 + 2, none⟩ (.int .i64 (max (D.base : Int) (L : Int)))) col4 o x i K { D with ak := A, vb := .slice ad5 (D.es.filter (keepE L)).length cp5, es := D.es.filter (keepE L), base := max D.base L } ∧ FrC (ofPrg o i) col col4 w (W.setCell ⟨K.R, i * 14 + 2, none⟩ (.int .i64 (max (D.base : Int) (L : Int))))) := fun W hW => by
          have hmx : ((max D.base L : Nat) : Int) = max (D.base : Int) (L : Int) := by omega
          obtain ⟨p1, p2⟩ := (hI5.out.same hW).put (k := 2) (u := .int .i64 (max (D.base : Int) (L : Int))) (by omega) { D with ak := A, vb := .slice ad5 (D.es.filter (keepE L)).length cp5, es := D.es.filter (keepE L), base := max D.base L } (by simp [PrD.cells, ← hmx]) rfl rfl rfl rfl rfl rfl rfl
          exact ⟨p1, ((HF4.out.trans hF5.out).trans (frC_same hW)).trans p2⟩
        clear hI5 hF5 HDF HF4
        go_wp2
        generalize w5.setCell ⟨K.R, i * 14 + 4, none⟩ (.slice ad5 (D.es.filter (keepE L)).length cp5) = w6 at *
        go_region
        all_goals go_wp2
        all_goals go_end0
        all_goals rw [hAA, hLL]
        all_goals first
          | exact ⟨rfl, col4, _, (HPT.out _ (Below.refl _ _)).1.same (Below.refl _ _).drew, (HPT.out _ (Below.refl _ _)).2.trans (frC_same (Below.refl _ _).drew)⟩
          | exact ⟨rfl, col4, _, (HPT.out _ (Below.refl _ _).drew).1, (HPT.out _ (Below.refl _ _).drew).2⟩
          | exact ⟨rfl, col4, _, (HPT.out _ (Below.refl _ _)).1, (HPT.out _ (Below.refl _ _)).2⟩
end Go.Proofs.YtahdlejgjcjeoabGreatDoor

namespace Go.Proofs.YtahdlejgjcjeoabGreatDoor
open Go.RowKit Go.MuLone

theorem fold_skip (nb : Nat → Bool) (ak : Nat → Nat) (m n : Nat) (hn : ∀ j, n ≤ j → nb j = false) : ∀ k, n ≤ k → leastN nb ak m k = leastN nb ak m n
  | 0, h => by rw [Nat.le_zero.1 h]
  | k + 1, h => by
    by_cases e : n = k + 1
    · rw [e]
    · rw [leastN_succ, hn k (by omega)]
      simp only [Bool.false_and, Bool.false_eq_true, if_false]
      exact fold_skip nb ak m n hn k (by omega)
theorem leastN_congr {nb nb' : Nat → Bool} {ak ak' : Nat → Nat} {m : Nat} : ∀ k, (∀ q, q < k → nb q = nb' q ∧ ak q = ak' q) → leastN nb ak m k = leastN nb' ak' m k
  | 0, _ => rfl
  | k + 1, h => by
    rw [leastN_succ, leastN_succ, leastN_congr k (fun q hq => h q (by omega)), (h k (by omega)).1, (h k (by omega)).2]
theorem leastN_acked (near : Nat → Bool) (a : List Nat) (m : Nat) : leastN near (fun q => a.getD q 0) m a.length = leastAcked near a m := rfl
theorem getD_set (l : List Nat) (q j v : Nat) (hq : q < l.length) : (l.set q v).getD j 0 = if j = q then v else l.getD j 0 := by
  rw [List.getD_eq_getElem?_getD, List.getD_eq_getElem?_getD, List.getElem?_set]
  by_cases e : q = j
  · subst e; simp [hq]
  · rw [if_neg e, if_neg (fun h => e h.symm)]
/-- What learn leaves is what the model says. -/
theorem PrD.is.ack {D : PrD} {p : Rep} {U : List At} {N n room : Nat} (h : D.is p) (hp : p.ok U N n room) (hn6 : n ≤ 6) (near nb : Nat → Bool) (hnb : ∀ j, j < 6 → nb j = near j) (hfar : ∀ j, n ≤ j → near j = false) (q u : Nat) (hq : q < n) (vb : Value) :
    ({ D with ak := ackP D.ak q u, vb := vb, es := D.es.filter (keepE (leastN nb (ackP D.ak q u) (ackP D.ak q u q) 6)), base := max D.base (leastN nb (ackP D.ak q u) (ackP D.ak q u q) 6) } : PrD).is (p.ack near q u) := by
  have hl : p.acked.length = n := hp.ackL
  have hA : ∀ j, j < 6 → ackP D.ak q u j = (p.acked.set q (max (p.acked.getD q 0) u)).getD j 0 := fun j hj => by
    rw [getD_set _ _ _ _ (by omega)]
    unfold ackP
    rw [h.ak q (by omega), h.ak j hj]
  have hLL : leastN nb (ackP D.ak q u) (ackP D.ak q u q) 6 = leastAcked near (p.acked.set q (max (p.acked.getD q 0) u)) ((p.acked.set q (max (p.acked.getD q 0) u)).getD q 0) := by
    rw [hA q (by omega), ← leastN_acked, List.length_set, hl, ← fold_skip near _ _ n hfar 6 hn6]
    exact leastN_congr 6 fun j hj => ⟨hnb j hj, hA j hj⟩
  rw [hLL]
  unfold Rep.ack
  simp only
  generalize leastAcked near (p.acked.set q (max (p.acked.getD q 0) u)) ((p.acked.set q (max (p.acked.getD q 0) u)).getD q 0) = L
  refine ⟨h.up, h.num, by show max D.base L = max p.base L; rw [h.base], h.M, ?_, hA, h.bytes, h.frames, h.weight⟩
  show (D.es.filter (keepE L)).map Pe.ent = p.buf.filter (fun e => decide (L < e.num))
  rw [← h.buf, List.filter_map]
  rfl
/-- A replica's call is over, the lock still taken. -/
theorem PrI.norm2 {w : World} {col : Col} {o x i : Nat} {K : PrK} {D : PrD} {p : Rep} {U : List At} (h : PrI w col o x i K D) (hD : D.is p) (hs : ∀ a ∈ p.atoms, a ∈ U) (hU : U.length ≤ 131072) : ∃ D2 : PrD, D2.is p ∧ D2.n ≤ 4194304 ∧ PrAt w col o x (K.setD i D2) :=
  ⟨{ D with n := U.length }, ⟨hD.up, hD.num, hD.base, hD.M, hD.buf, hD.ak, hD.bytes, hD.frames, hD.weight⟩, by show U.length ≤ _; omega, (h.norm hD.M hs).close⟩
theorem setD_n2 {K : PrK} {D : PrD} {m : Nat} (h : ∀ i (h : i < K.Ds.length), (K.Ds[i]).n ≤ 4194304) (hD : D.n ≤ 4194304) : ∀ i (h : i < (K.setD m D).Ds.length), ((K.setD m D).Ds[i]).n ≤ 4194304 := by
  intro j hj
  by_cases e : j = m
  · subst e
    rw [K.setD_at]
    exact hD
  · have hj' : j < K.Ds.length := by rw [← K.setD_len m D]; exact hj
    have h1 : (K.setD m D).Ds[j] = K.Ds[j] := List.getElem_set_ne (fun e' => e e'.symm) _
    rw [h1]
    exact h j hj'
end Go.Proofs.YtahdlejgjcjeoabGreatDoor
