/- Lists of edges of one's own; copy. -/
import Derived.Test.YtahdlejgjcjeoaaGreatDoorP45
namespace Go.Proofs.YtahdlejgjcjeoaaGreatDoor
open Go.RowKit

def edC (p : Int × Int) : List Value := [.int .i64 p.1, .int .i64 p.2]
theorem edC_len (p : Int × Int) : (edC p).length = 2 := rfl
/-- A row of edges that fills its block. -/
def InAt (w : World) (g : Nat) (l : List (Int × Int)) : Prop := w.heap[g]? = some (.cells (l.flatMap edC).toArray 53 (0, 0))
theorem ed_get (l : List (Int × Int)) (k j : Nat) (h : k < l.length) (hj : j < 2) : (l.flatMap edC)[k * 2 + j]? = (edC l[k])[j]? := flatMap_get edC 2 edC_len l k j h hj
theorem ed_len (l : List (Int × Int)) : (l.flatMap edC).length = l.length * 2 := flatMap_len edC 2 edC_len l
theorem InAt.cells {w : World} {g : Nat} {l : List (Int × Int)} (h : InAt w g l) (k : Nat) (hk : k < l.length) : w.cell? ⟨g, k * 2, none⟩ = some (.int .i64 l[k].1) ∧ w.cell? ⟨g, k * 2 + 1, none⟩ = some (.int .i64 l[k].2) ∧ ∀ j, w.frozen? ⟨g, j, none⟩ = false := by
  have h0 := ed_get l k 0 hk (by omega)
  have h1 := ed_get l k 1 hk (by omega)
  refine ⟨?_, ?_, fun j => blk_thaw h j⟩
  · rw [blk_cell h, List.getElem?_toArray, ← Nat.add_zero (k * 2), h0]
    rfl
  · rw [blk_cell h, List.getElem?_toArray, h1]
    rfl
theorem InAt.set {w : World} {g : Nat} {l : List (Int × Int)} (h : InAt w g l) (k : Nat) (hk : k < l.length) (p : Int × Int) : InAt ((w.setCell ⟨g, k * 2, none⟩ (.int .i64 p.1)).setCell ⟨g, k * 2 + 1, none⟩ (.int .i64 p.2)) g (l.set k p) := by
  have := heap_setCell_at (o := k * 2 + 1) (heap_setCell_at (o := k * 2) h (.int .i64 p.1)) (.int .i64 p.2)
  unfold InAt
  rw [this]
  congr 2
  apply Array.ext_getElem?
  intro t
  rw [Array.getElem?_setIfInBounds, Array.getElem?_setIfInBounds, List.getElem?_toArray, List.getElem?_toArray]
  have hs1 : (l.flatMap edC).length = l.length * 2 := ed_len l
  have hs2 : ((l.set k p).flatMap edC).length = l.length * 2 := by rw [ed_len]; simp
  have hz : ((l.flatMap edC).toArray.setIfInBounds (k * 2) (Value.int .i64 p.1)).size = l.length * 2 := by simp [hs1]
  have hz0 : (l.flatMap edC).toArray.size = l.length * 2 := by simp [hs1]
  by_cases ht : t < l.length * 2
  · have hq : t / 2 < (l.set k p).length := by simp; omega
    have hg := ed_get (l.set k p) (t / 2) (t % 2) hq (Nat.mod_lt _ (by decide))
    rw [show t / 2 * 2 + t % 2 = t by omega] at hg
    rw [hg]
    by_cases e1 : k * 2 + 1 = t
    · rw [if_pos e1, if_pos (by omega)]
      have h1 : t / 2 = k := by omega
      have h2 : t % 2 = 1 := by omega
      rw [h2]
      simp [h1, edC]
    · rw [if_neg e1]
      by_cases e2 : k * 2 = t
      · rw [if_pos e2, if_pos (by omega)]
        have h1 : t / 2 = k := by omega
        have h2 : t % 2 = 0 := by omega
        rw [h2]
        simp [h1, edC]
      · rw [if_neg e2]
        have h1 : k ≠ t / 2 := by omega
        have hg2 := ed_get l (t / 2) (t % 2) (by omega) (Nat.mod_lt _ (by decide))
        rw [show t / 2 * 2 + t % 2 = t by omega] at hg2
        rw [hg2]
        simp [h1]
  · rw [if_neg (by omega), if_neg (by omega), List.getElem?_eq_none (by omega), List.getElem?_eq_none (by omega)]
theorem InAt.below {w w' : World} {g : Nat} {l : List (Int × Int)} (h : InAt w g l) (hb : Below w.heap.size w w') : InAt w' g l := (hb.block g (blk_lt h)).trans h
/-- The first n of them, as a slice. -/
theorem InAt.edges {w : World} {g cap : Nat} {l es : List (Int × Int)} (h : InAt w g l) (hl : es.length ≤ l.length) (he : l.take es.length = es) (hc : es.length ≤ cap) : EdgesOf w (.slice (some ⟨g, 0, none⟩) es.length cap) es := by
  refine ⟨_, cap, rfl, hc, fun _ => ⟨g, 0, rfl, blk_lt h, fun i hi => ?_⟩⟩
  have hil : i < l.length := by omega
  have hx : l[i] = es[i] := by
    have : (l.take es.length)[i]? = es[i]? := by rw [he]
    rw [List.getElem?_take, if_pos hi, List.getElem?_eq_getElem hil, List.getElem?_eq_getElem hi] at this
    exact Option.some.inj this
  obtain ⟨h1, h2, -⟩ := h.cells i hil
  rw [hx] at h1 h2
  rw [Nat.zero_add]
  exact ⟨h1, h2⟩

theorem infoEdge : (Tryz.prog.info? 53).map (fun i => (i.zero, i.size, i.bytes)) = some (some (.agg #[.int .i64 0, .int .i64 0]), 2, 16) := by kernel_rfl
theorem sizeEdge : (Tryz.prog.info? 53).map (·.size) = some 2 := by kernel_rfl
theorem make_edges (n : Nat) (h : n ≤ 1048577) (W : World) : (Instr.makeSlice 22 (.int .i64 (n : Int)) (.int .i64 (n : Int))).run Tryz.prog W = .ok (.slice (some ⟨W.heap.size, 0, none⟩) n n) (W.alloc (.cells ((List.replicate n ((0 : Int), (0 : Int))).flatMap edC).toArray 53)) := by
  obtain ⟨i, hi, hz0, hz1, hz2⟩ := info_parts infoEdge
  have hr := run_make (P := Tryz.prog) W 22 53 i _ Tryz.underlying22 hi hz0 .i64 .i64 n n (by omega) (Int.le_refl _) (by rw [hz2]; omega) (by omega)
  simp only [Int.toNat_natCast] at hr
  have hm : madeCells (Value.cells (.agg #[.int .i64 0, .int .i64 0])) (n * 2) = ((List.replicate n ((0 : Int), (0 : Int))).flatMap edC).toArray := by
    suffices hL : (madeCells (Value.cells (.agg #[.int .i64 0, .int .i64 0])) (n * 2)).toList = (List.replicate n ((0 : Int), (0 : Int))).flatMap edC by
      rw [← hL]
    apply List.ext_getElem?
    intro t
    by_cases ht : t < n * 2
    · have hg := ed_get (List.replicate n ((0 : Int), (0 : Int))) (t / 2) (t % 2) (by simp; omega) (Nat.mod_lt _ (by decide))
      rw [show t / 2 * 2 + t % 2 = t by omega] at hg
      rw [hg, List.getElem_replicate]
      have hcase : t % 2 = 0 ∨ t % 2 = 1 := by omega
      rcases hcase with e | e <;> simp [madeCells, Value.cells, ht, e, edC]
    · have h1 : ((List.replicate n ((0 : Int), (0 : Int))).flatMap edC).length ≤ t := by rw [ed_len]; simp; omega
      rw [List.getElem?_eq_none h1, List.getElem?_eq_none (by simp [madeCells]; omega)]
  rw [hr, hz1, hm]

theorem run_copy_row2 {P : Program} (w : World) (dT sT ty elem : TypeId) (g o dLen dCap : Nat) (a : Addr) (sLen sCap : Nat) (cur : Array Value) (t : TypeId) (cs : List Value)
    (hu : P.underlying dT = some (.slice elem)) (hs : (P.info? elem).map (·.size) = some 2)
    (hg : w.heap[g]? = some (.cells cur t (0, 0))) (hn : cs.length = Nat.min sLen dLen * 2)
    (hsrc : ∀ j v, cs[j]? = some v → w.cell? (a.add j) = some v) (hfit : o + cs.length ≤ cur.size) (h1 : ∀ v ∈ cs, v.oneCell' = true) :
    (Builtin.copy_ #[dT, sT] ty #[.slice (some ⟨g, o, none⟩) dLen dCap, .slice (some a) sLen sCap]).run P w =
      .ok (goInt (Nat.min sLen dLen)) (w.setRow g (cur.toList.take o ++ cs ++ cur.toList.drop (o + cs.length)).toArray) := by
  have hl := run_loadCells_list (P := P) w a cs hsrc
  have hst := run_storeCells_at P g o t cs 0 cur w hg (by simpa using hfit) h1
  cases hq : P.info? elem with
  | none => simp [hq] at hs
  | some i =>
    have hi : i.size = 2 := by simpa [hq] using hs
    simp [Builtin.copy_, run_underlying hu, Builtin.lenOf, Builtin.firstCells, sizeOf, typeInfo, hq, hi, ← hn, hl, hst]
theorem run_copy_none2 {P : Program} (w : World) (dT sT ty elem : TypeId) (g o dLen dCap : Nat) (ad : Option Addr) (sCap : Nat)
    (hu : P.underlying dT = some (.slice elem)) (hs : (P.info? elem).map (·.size) = some 2) :
    (Builtin.copy_ #[dT, sT] ty #[.slice (some ⟨g, o, none⟩) dLen dCap, .slice ad 0 sCap]).run P w = .ok (goInt 0) w := by
  cases hq : P.info? elem with
  | none => simp [hq] at hs
  | some i =>
    have hi : i.size = 2 := by simpa [hq] using hs
    have hl : ∀ (x : Addr), (loadCells x 0).run P w = .ok #[] w := fun x => by simpa using run_loadCells_list (P := P) w x [] (by simp)
    cases ad <;> simp [Builtin.copy_, run_underlying hu, Builtin.lenOf, Builtin.firstCells, sizeOf, typeInfo, hq, storeCells, hl]
theorem wpList_copy_edges {P : Program} {w : World} {ops : Array Oper} {rest : List Oper} {o : Oper} {a : Act} {Q : Exit → Act → World → Prop} (hgd : o.guard = none) (d s : Operand) (dT sT : TypeId)
    (ho : o.op = .call { callee := .builtin .copy, args := #[d, s], argTypes := #[dT, sT] }) (hu : P.underlying dT = some (.slice 53)) (hsz : (P.info? 53).map (·.size) = some 2)
    (g cap N : Nat) (l : List (Int × Int)) (hN : l.length = N) (hd : a.eval d = .slice (some ⟨g, 0, none⟩) N cap) (hin : InAt w g l)
    (v : Value) (hs : a.eval s = v) (es : List (Int × Int)) (hv : EdgesOf w v es) (hle : es.length ≤ l.length)
    (h : ∀ w', InAt w' g (es ++ l.drop es.length) → w.grownBy w' (some g) → wpList P ops Q rest (a.put o.dst (goInt es.length)) w') : wpList P ops Q (o :: rest) a w := by
  refine wpList_plain hgd fun K hK => ?_
  subst hN
  obtain ⟨ad, capS, rfl, hcap, H⟩ := hv
  by_cases h0 : 0 < es.length
  · obtain ⟨b, off, rfl, hb, hrow⟩ := H h0
    have hmin : Nat.min es.length l.length = es.length := Nat.min_eq_left hle
    have hfit : 0 + (es.flatMap edC).length ≤ (l.flatMap edC).toArray.size := by rw [List.size_toArray, ed_len, ed_len]; have := Nat.mul_le_mul_right 2 hle; omega
    have hsrc : ∀ j u, (es.flatMap edC)[j]? = some u → w.cell? ((⟨b, off, none⟩ : Addr).add j) = some u := by
      intro j u hu'
      have hadd : (⟨b, off, none⟩ : Addr).add j = ⟨b, off + j, none⟩ := by unfold Addr.add; split <;> simp_all
      have hj : j < (es.flatMap edC).length := (List.getElem?_eq_some_iff.1 hu').1
      rw [ed_len] at hj
      have hg := ed_get es (j / 2) (j % 2) (by omega) (Nat.mod_lt _ (by decide))
      rw [show j / 2 * 2 + j % 2 = j by omega, hu'] at hg
      obtain ⟨r0, r1⟩ := hrow (j / 2) (by omega)
      rw [hadd]
      rcases (show j % 2 = 0 ∨ j % 2 = 1 by omega) with e | e
      · rw [e] at hg
        rw [show off + j = off + j / 2 * 2 by omega, r0, hg]
        rfl
      · rw [e] at hg
        rw [show off + j = off + j / 2 * 2 + 1 by omega, r1, hg]
        rfl
    have h1 : ∀ u ∈ es.flatMap edC, u.oneCell' = true := by
      intro u hu'
      obtain ⟨p, _, hp⟩ := List.mem_flatMap.1 hu'
      simp only [edC, List.mem_cons, List.not_mem_nil, or_false] at hp
      rcases hp with rfl | rfl <;> rfl
    have hrun := run_copy_row2 (P := P) w dT sT o.type 53 g 0 l.length cap ⟨b, off, none⟩ es.length capS _ _ (es.flatMap edC) hu hsz hin (by rw [hmin, ed_len]) hsrc hfit h1
    rw [hmin] at hrun
    unfold Oper.wp
    simp only [execOp, ho, resolve, invoke, builtin, Sem.run_bind, Sem.run_pure, Result.andThen_ok, List.map_toArray, List.map_cons, List.map_nil, hd, hs, hrun]
    refine hK _ _ (h _ ?_ ?_)
    · unfold InAt
      rw [setRow_heap w g _ _ _ _ hin]
      congr 3
      simp only [List.take_zero, List.nil_append, Nat.zero_add, List.flatMap_append]
      congr 1
      rw [ed_len]
      apply List.ext_getElem?
      intro t
      rw [List.getElem?_drop]
      by_cases ht : t < (l.drop es.length).length * 2
      · have hg1 := ed_get (l.drop es.length) (t / 2) (t % 2) (by omega) (Nat.mod_lt _ (by decide))
        rw [show t / 2 * 2 + t % 2 = t by omega] at hg1
        have ht2 : t < (l.length - es.length) * 2 := by simpa using ht
        have hg2 := ed_get l (es.length + t / 2) (t % 2) (by omega) (Nat.mod_lt _ (by decide))
        rw [show (es.length + t / 2) * 2 + t % 2 = es.length * 2 + t by omega] at hg2
        rw [hg1, hg2, List.getElem_drop]
      · have ht2 : ¬ t < (l.length - es.length) * 2 := by simpa using ht
        rw [List.getElem?_eq_none (by rw [ed_len]; omega), List.getElem?_eq_none (by rw [ed_len]; omega)]
    · exact ⟨rfl, rfl, rfl, by simp [World.setRow], fun k _ hne => setRow_other w g k _ (fun e => hne (by rw [e]))⟩
  · obtain rfl := List.length_eq_zero_iff.1 (by omega : es.length = 0)
    have hrun := run_copy_none2 (P := P) w dT sT o.type 53 g 0 l.length cap ad capS hu hsz
    unfold Oper.wp
    simp only [execOp, ho, resolve, invoke, builtin, Sem.run_bind, Sem.run_pure, Result.andThen_ok, List.map_toArray, List.map_cons, List.map_nil, hd, hs, List.length_nil, hrun]
    exact hK _ _ (h w (by simpa using hin) ⟨rfl, rfl, rfl, Nat.le_refl _, fun _ _ _ => rfl⟩)
end Go.Proofs.YtahdlejgjcjeoaaGreatDoor
