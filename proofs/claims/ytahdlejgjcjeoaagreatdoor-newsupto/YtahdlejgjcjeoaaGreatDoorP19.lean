/- Walks of the document's cluster: Replica. -/
import Derived.Test.YtahdlejgjcjeoaaGreatDoorP18
import Derived.RegionTactic
import Derived.BigRegion
import Derived.Deep.RegionLaw
import Derived.Deep.RegionHeldLaw
namespace Go.Proofs.YtahdlejgjcjeoaaGreatDoor
open Go.RowKit

/-- A replica that there may be. -/
def Clu.repAt (c : Clu) (r : Int) : Rep := if c.there r then c.rep r.toNat else ⟨true, [], 0, 0, [], [], [], [], 0, 0⟩
def Clu.thereErr (c : Clu) (r : Int) : Int := if c.there r then 0 else 5

theorem infoInt : (Tryz.prog.info? 3).map (fun i => (i.zero, i.size, i.bytes)) = some (some (.int .i64 0), 1, 8) := by kernel_rfl
theorem ints_snoc (l : List Nat) (k : Nat) (h : k < l.length) : ints (l.take (k + 1)) = ints (l.take k) ++ [.int .i64 (l[k] : Nat)] := by
  unfold ints
  rw [List.take_succ_eq_append_getElem h, List.map_append]
  rfl
theorem two_blocks (w : World) (a b : Obj) : ((w.alloc a).alloc b).heap[w.heap.size + 1]? = some b ∧ ((w.alloc a).alloc b).heap[w.heap.size]? = some a := by
  have h1 := heap_alloc_new (w.alloc a) b
  rw [show (w.alloc a).heap.size = w.heap.size + 1 by simp] at h1
  exact ⟨h1, (Below.heap_alloc (w.alloc a) b w.heap.size (by simp)).trans (heap_alloc_new w a)⟩
/-- The document's answer to Replica while it is made. -/
structure RepInv (w wr : World) (R : Array Value) (A : Array Value) (v : Value) (k : Nat) (l : List Nat) : Prop where
  out : wr.heap[w.heap.size + 1]? = some (.cells A 197 (0, 0))
  res : wr.heap[w.heap.size]? = some (.cells R 197 (0, 0))
  own : wr.ownsRow (w.heap.size + 2) 3 1 v k (ints (l.take k))
  bel : Below w.heap.size w wr
  size : w.heap.size + 2 ≤ wr.heap.size

theorem heap_set {w : World} {g o : Nat} {cur : Array Value} {e : TypeId} {fz : Nat × Nat} (h : w.heap[g]? = some (.cells cur e fz)) (u : Value) : (w.setCell ⟨g, o, none⟩ u).heap[g]? = some (.cells (cur.setIfInBounds o u) e fz) := heap_setCell_at h u
theorem Hid.mk {p : Prop} (h : p) : Hid p := h
/-- Six cells written anew in one block. -/
def set6 (w : World) (q : Nat) (a b c d e f : Value) : World := (((((w.setCell ⟨q, 0, none⟩ a).setCell ⟨q, 1, none⟩ b).setCell ⟨q, 2, none⟩ c).setCell ⟨q, 3, none⟩ d).setCell ⟨q, 4, none⟩ e).setCell ⟨q, 5, none⟩ f
theorem RepInv.done {w wr : World} {A : Array Value} {v : Value} {l : List Nat} {x0 x1 x2 x3 x4 x5 : Value} (h : RepInv w wr #[x0, x1, x2, x3, x4, x5] A v l.length l) (a b c d e f : Value) :
    (set6 wr w.heap.size a b c d e f).heap[w.heap.size]? = some (.cells #[a, b, c, d, e, f] 197 (0, 0)) ∧ (set6 wr w.heap.size a b c d e f).ownsRow w.heap.size 3 1 v l.length (ints l) ∧ Below w.heap.size w (set6 wr w.heap.size a b c d e f) := by
  refine ⟨?_, ?_, ?_⟩
  · exact heap_set (o := 5) (heap_set (o := 4) (heap_set (o := 3) (heap_set (o := 2) (heap_set (o := 1) (heap_set (o := 0) h.res a) b) c) d) e) f
  · have hown := h.own
    rw [List.take_of_length_le (Nat.le_refl _)] at hown
    exact owns_mono (owns_put (owns_put (owns_put (owns_put (owns_put (owns_put hown (by omega)) (by omega)) (by omega)) (by omega)) (by omega)) (by omega)) (by omega : w.heap.size ≤ w.heap.size + 2)
  · exact (((((h.bel.setCell (Nat.le_refl _) _).setCell (Nat.le_refl _) _).setCell (Nat.le_refl _) _).setCell (Nat.le_refl _) _).setCell (Nat.le_refl _) _).setCell (Nat.le_refl _) _
/-- One number more. -/
theorem RepInv.more {w wr w3 : World} {R : Array Value} {x0 x1 x2 x4 x5 v v3 : Value} {k ax : Nat} {l : List Nat} {tmp : Obj} (h : RepInv w wr R #[x0, x1, x2, v, x4, x5] v k l) (h3 : (wr.alloc tmp).drew.grownBy w3 v.ownBlock) (ho3 : w3.ownsRow (w.heap.size + 2) 3 1 v3 (k + 1) (ints (l.take k) ++ [.int .i64 ax])) (hs : ints (l.take (k + 1)) = ints (l.take k) ++ [.int .i64 ax]) :
    RepInv w (w3.setCell ⟨w.heap.size + 1, 3, none⟩ v3) R #[x0, x1, x2, v3, x4, x5] v3 (k + 1) l ∧ w3.cell? ⟨w.heap.size + 1, 3, none⟩ = some v ∧ w3.frozen? ⟨w.heap.size + 1, 3, none⟩ = false ∧ ∀ a u, a.block < w.heap.size → wr.cell? a = some u → w3.cell? a = some u ∧ ∀ z, (w3.setCell ⟨w.heap.size + 1, 3, none⟩ z).cell? a = some u := by
  have hsz := h.size
  have hb : ∀ q, q < w.heap.size + 2 → some q ≠ v.ownBlock := fun q hq e => by
    have := owns_base h.own _ e.symm
    omega
  have hg := grown_trans (World.grownBy_alloc wr tmp v.ownBlock) (grown_dry h3)
  have hO := (hg.block (w.heap.size + 1) (by omega) (hb _ (by omega))).trans h.out
  have hR := (hg.block w.heap.size (by omega) (hb _ (by omega))).trans h.res
  refine ⟨⟨heap_set (o := 3) hO v3, (Below.heap_setCell _ _ _ _ (by simp)).trans hR, ?_, ?_, ?_⟩, blk_cell hO 3, blk_thaw hO 3, fun a u ha hc => ?_⟩
  · rw [hs]
    exact owns_put ho3 (by omega)
  · exact (h.bel.grown hg (by omega) (fun q hq => by have := owns_base h.own q hq; omega)).setCell (by simp) _
  · have := hg.size
    simp
    omega
  · have h1 := hg.cell hc (hb _ (by omega))
    refine ⟨h1, fun z => (World.cell?_setCell_other _ _ _ _ (fun e => ?_)).trans h1⟩
    have : w.heap.size + 1 = a.block := by rw [← e]
    omega

set_option maxRecDepth 100000 in
set_option maxHeartbeats 4000000 in
theorem refReplica {w : World} {col : Col} {o x N : Nat} {U : List At} {K : RefC} {c : Clu} (h : RefAt w col o x K c) (hok : c.ok U N) (r : Int) :
    Calls Tryz.prog 134 #[.pointer (some ⟨x, 0, none⟩), .int .i64 r] w fun e w' => ∃ v, e = .returned (.tuple #[.agg #[.bool (!(c.repAt r).down), .int .i64 (c.repAt r).num, .int .i64 (c.repAt r).base, v, .int .i64 (c.repAt r).frames, .int .i64 (c.repAt r).weight], .int .i64 (c.thereErr r)]) ∧ w'.ownsRow w.heap.size 3 1 v (c.repAt r).acked.length (ints (c.repAt r).acked) ∧ Below w.heap.size w w' := by
  have HW : Hid (∀ W, Below w.heap.size w W → Calls Tryz.prog 69 #[.pointer (some ⟨x, 0, none⟩), .int .i64 r] W fun e w' => e = .returned (.bool (c.there r)) ∧ w' = W) := fun W hW => refThere (h.same hW) r
  have hx := blk_lt h.blk
  unfold Clu.repAt Clu.thereErr
  cases hh : c.there r
  · rw [hh] at HW
    go_enter Tryz.func134, Tryz.ntmps134
    go_wp2_with fail
    refine (HW.out _ (below_alloc (Below.refl _ _) _)).mono ?_
    rintro e w' ⟨rfl, rfl⟩
    go_wp2
    refine bodyPost_ret (v := .tuple #[.agg #[.bool false, .int .i64 0, .int .i64 0, .slice none 0 0, .int .i64 0, .int .i64 0], .int .i64 5]) ?_ rfl ⟨.slice none 0 0, rfl, by simp [World.ownsRow, ints], ?_⟩
    · simp [results, Tryz.results134, go_sem]
    · exact below_alloc (Below.refl _ _) _
  · obtain ⟨h0, hr⟩ := there_lt hh
    obtain ⟨n, rfl⟩ : ∃ n : Nat, r = n := ⟨r.toNat, by omega⟩
    simp only [Int.toNat_natCast] at hr ⊢
    obtain ⟨g, cap, D, hv, hc, hD, hp, hR⟩ := h.ptr hr
    have c5 := h.cells.2.2.2.2.2.1
    rw [hv] at c5
    obtain ⟨d0, d1, d2, d3, d4, d5, d6, d7, d8, d9, _⟩ := hR.cells
    have hl6 := (hok.rep hr).ackL
    have hn6 := hok.n6
    have hg : g < w.heap.size := World.block_lt_of_cell? w ⟨g, n, none⟩ hp
    have hρ := blk_lt hR.blk
    rw [hh] at HW
    clear h hok hh hD hv
    obtain ⟨adk, capk, hvk, _⟩ := hR.acked.form
    rw [hvk] at d6
    have hAK := hR.acked
    rw [hvk] at hAK
    have HAK : Hid (RowC w col (o, 40 + n) 3 1 (.slice adk (c.rep n).acked.length capk) (c.rep n).acked.length (ints (c.rep n).acked)) := hAK
    clear hAK hR hvk d1 d4 d5 d7
    generalize D.ρ = ρ at *
    generalize c.rep n = p at *
    obtain ⟨dn, at', nm, bs, bf, ak, lg, tn, fr, wt⟩ := p
    simp only at *
    generalize c.reps.length = L at *
    subst hl6
    have q1 : (n : Int) < (ak.length : Int) := by omega
    go_enter Tryz.func134, Tryz.ntmps134
    go_wp2_with fail
    refine (HW.out _ (below_alloc (Below.refl _ _) _)).mono ?_
    rintro e w' ⟨rfl, rfl⟩
    go_wp2
    go_region_held3 (fun w' => w'.cell? ⟨ρ, 0, none⟩ = some (.bool dn) ∧ w'.cell? ⟨ρ, 2, none⟩ = some (.int .i64 nm) ∧ w'.cell? ⟨ρ, 3, none⟩ = some (.int .i64 bs) ∧ w'.cell? ⟨ρ, 8, none⟩ = some (.int .i64 fr) ∧ w'.cell? ⟨ρ, 9, none⟩ = some (.int .i64 wt)) (go_keep) (fail)
    obtain ⟨w0, hw0⟩ : ∃ w0, w0 = ((w.alloc (.cells #[.bool false, .int .i64 0, .int .i64 0, .slice none 0 0, .int .i64 0, .int .i64 0] 197)).alloc (.cells #[.bool !dn, .int .i64 nm, .int .i64 bs, .slice none 0 0, .int .i64 fr, .int .i64 wt] 197)).drew := ⟨_, rfl⟩
    have HI : Hid (RepInv w w0 #[.bool false, .int .i64 0, .int .i64 0, .slice none 0 0, .int .i64 0, .int .i64 0] #[.bool !dn, .int .i64 nm, .int .i64 bs, .slice none 0 0, .int .i64 fr, .int .i64 wt] (.slice none 0 0) 0 ak) := by
      subst hw0
      refine ⟨?_, ?_, by simp [World.ownsRow, ints], (below_alloc (below_alloc (Below.refl _ _) _) _).drew, by simp⟩
      · exact (two_blocks w _ _).1
      · exact (two_blocks w _ _).2
    rw [← hw0]
    clear hw0
    obtain ⟨i0, hi, hz0, hz1, hz2⟩ := info_parts infoInt
    clear hp c5 d0 d2 d3 d8 d9 HW
    go_wp2
    go_loopw [9] (fun j wr => ∃ (k : Nat) (v : Value), k ≤ ak.length ∧ j = .int .i64 k ∧ Hid (RepInv w wr #[.bool false, .int .i64 0, .int .i64 0, .slice none 0 0, .int .i64 0, .int .i64 0] #[.bool !dn, .int .i64 nm, .int .i64 bs, v, .int .i64 fr, .int .i64 wt] v k ak)) (fun j _ => ak.length - (intOf j).toNat)
    case atStart => exact ⟨0, _, Nat.zero_le _, rfl, HI⟩
    case round =>
      obtain ⟨k, v, hk, rfl, hinv⟩ := hrel
      have hbel := hinv.out.bel
      have d6r : wr.cell? ⟨ρ, 6, none⟩ = some (.slice adk ak.length capk) := by rw [hbel.cell (p := ⟨ρ, 6, none⟩) hρ]; exact d6
      have e3 : wr.cell? ⟨w.heap.size + 1, 3, none⟩ = some v := blk_cell hinv.out.out 3
      have f3 : wr.frozen? ⟨w.heap.size + 1, 3, none⟩ = false := blk_thaw hinv.out.out 3
      have hsz := hinv.out.size
      obtain ⟨adv, cpv, rfl⟩ := own_form hinv.out.own
      by_cases hl : k < ak.length
      · obtain ⟨gk, capk', hvk, _, _, hgk, _, hck, _⟩ := HAK.out.at (by omega)
        cases hvk
        have a0 : wr.cell? ⟨gk, k, none⟩ = some (.int .i64 (ak[k] : Nat)) := by rw [hbel.cell (p := ⟨gk, k, none⟩) hgk]; exact hck k _ (by simp [ints, hl])
        have hown := hinv.out.own
        have HSN : Hid (ints (ak.take (k + 1)) = ints (ak.take k) ++ [.int .i64 (ak[k] : Nat)]) := ints_snoc ak k hl
        clear HAK hck hbel d6
        generalize ak[k] = ax at *
        have hlq : w.heap.size + 1 < wr.heap.size := by omega
        have hgk' : gk < wr.heap.size := by omega
        have hρ' : ρ < wr.heap.size := by omega
        have HM : Hid (∀ w3 v3, (wr.alloc (.cells #[.int .i64 ax] 3)).drew.grownBy w3 (Value.slice adv k cpv).ownBlock → w3.ownsRow (w.heap.size + 2) 3 1 v3 (k + 1) (ints (ak.take k) ++ [.int .i64 ax]) → _) := fun w3 v3 h3 h4 => hinv.out.more h3 h4 HSN.out
        have HI2 : Hid (RepInv w wr #[.bool false, .int .i64 0, .int .i64 0, .slice none 0 0, .int .i64 0, .int .i64 0] #[.bool !dn, .int .i64 nm, .int .i64 bs, .slice adv k cpv, .int .i64 fr, .int .i64 wt] (.slice adv k cpv) k ak) := hinv
        have hkb : k ≤ 6 := by omega
        clear hinv
        go_wp2
        go_region_law (refine step_append_lies _ rfl _ _ 79 rfl (w.heap.size + 2) 3 i0 _ 1 8 Tryz.underlying79 hi hz0 hz1 hz2 rfl (by decide) _ k _ rfl (hown.alloc _) ⟨wr.heap.size, 0, none⟩ 1 1 [.int .i64 ax] rfl rfl (World.news_of_block (heap_alloc_new wr _)) (by simp [Value.oneCell']) (by decide) (by unfold maxLen; omega) (by omega) (by simp; omega) (wr.heap.size + 1) (by simp) ?_; intro g3' capn w3 hown3 hgrow3 hat3 hlt3; obtain ⟨hinv3, e1, f1, hold⟩ := HM.out w3 _ hgrow3 hown3)
        all_goals go_wp2
        all_goals exact ⟨⟨k + 1, _, by omega, by go_num, hinv3⟩, by simp [intOf]; omega⟩
      · have hkl : k = ak.length := by omega
        subst hkl
        obtain ⟨r0, r1, r2, r3, r4, r5⟩ : wr.cell? ⟨w.heap.size, 0, none⟩ = some (.bool false) ∧ wr.cell? ⟨w.heap.size, 1, none⟩ = some (.int .i64 0) ∧ wr.cell? ⟨w.heap.size, 2, none⟩ = some (.int .i64 0) ∧ wr.cell? ⟨w.heap.size, 3, none⟩ = some (.slice none 0 0) ∧ wr.cell? ⟨w.heap.size, 4, none⟩ = some (.int .i64 0) ∧ wr.cell? ⟨w.heap.size, 5, none⟩ = some (.int .i64 0) := ⟨blk_cell hinv.out.res 0, blk_cell hinv.out.res 1, blk_cell hinv.out.res 2, blk_cell hinv.out.res 3, blk_cell hinv.out.res 4, blk_cell hinv.out.res 5⟩
        have rf := blk_thaw hinv.out.res
        obtain ⟨o0, o1, o2, o4, o5⟩ : wr.cell? ⟨w.heap.size + 1, 0, none⟩ = some (.bool !dn) ∧ wr.cell? ⟨w.heap.size + 1, 1, none⟩ = some (.int .i64 nm) ∧ wr.cell? ⟨w.heap.size + 1, 2, none⟩ = some (.int .i64 bs) ∧ wr.cell? ⟨w.heap.size + 1, 4, none⟩ = some (.int .i64 fr) ∧ wr.cell? ⟨w.heap.size + 1, 5, none⟩ = some (.int .i64 wt) := ⟨blk_cell hinv.out.out 0, blk_cell hinv.out.out 1, blk_cell hinv.out.out 2, blk_cell hinv.out.out 4, blk_cell hinv.out.out 5⟩
        have hdone := hinv.out.done (.bool !dn) (.int .i64 nm) (.int .i64 bs) (.slice adv ak.length cpv) (.int .i64 fr) (.int .i64 wt)
        unfold set6 at hdone
        have HD := Hid.mk hdone
        clear hdone hinv
        go_wp2
        clear r0 r1 r2 r3 r4 r5 rf o0 o1 o2 o4 o5 e3 f3 d6r
        generalize ((((((wr.setCell ⟨w.heap.size, 0, none⟩ (.bool !dn)).setCell ⟨w.heap.size, 1, none⟩ (.int .i64 nm)).setCell ⟨w.heap.size, 2, none⟩ (.int .i64 bs)).setCell ⟨w.heap.size, 3, none⟩ (.slice adv ak.length cpv)).setCell ⟨w.heap.size, 4, none⟩ (.int .i64 fr)).setCell ⟨w.heap.size, 5, none⟩ (.int .i64 wt)) = W at HD ⊢
        obtain ⟨hB, hO, hW⟩ := HD.out
        refine bodyPost_ret (v := .tuple #[.agg #[.bool !dn, .int .i64 nm, .int .i64 bs, .slice adv ak.length cpv, .int .i64 fr, .int .i64 wt], .int .i64 0]) ?_ rfl ⟨_, rfl, hO, hW⟩
        have r0 := blk_cell hB 0
        have r1 := blk_cell hB 1
        have r2 := blk_cell hB 2
        have r3 := blk_cell hB 3
        have r4 := blk_cell hB 4
        have r5 := blk_cell hB 5
        simp only [List.getElem?_toArray, List.getElem?_cons_zero, List.getElem?_cons_succ] at r0 r1 r2 r3 r4 r5
        simp [results, Tryz.results134, go_sem, r0, r1, r2, r3, r4, r5]

end Go.Proofs.YtahdlejgjcjeoaaGreatDoor
