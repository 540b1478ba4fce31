/- Walks of the document's cluster: Buffer. -/
import Derived.Test.YtahdlejgjcjeoaaGreatDoorP33
namespace Go.Proofs.YtahdlejgjcjeoaaGreatDoor
open Go.RowKit

/-- An entry as it lies. -/
structure En where
  e : Ent
  v : Value
def En.cells (n : En) : List Value := [.int .i64 n.e.num, .int .i64 n.e.org, n.v]
theorem en_len (n : En) : n.cells.length = 3 := rfl
theorem infoEntry : (Tryz.prog.info? 86).map (fun i => (i.zero, i.size, i.bytes)) = some (some (.agg #[.int .i64 0, .int .i64 0, .slice none 0 0]), 3, 40) := by kernel_rfl
theorem three_one {a b : Int} {v : Value} (h : v.oneCell' = true) : ∀ u ∈ [Value.int .i64 a, .int .i64 b, v], u.oneCell' = true := by
  intro u hu
  simp only [List.mem_cons, List.not_mem_nil, or_false] at hu
  rcases hu with rfl | rfl | rfl
  · rfl
  · rfl
  · exact h

theorem row3_keep {w w' : World} {g k : Nat} {a b c : Value} (h : w.cell? ⟨g, k, none⟩ = some a ∧ w.cell? ⟨g, k + 1, none⟩ = some b ∧ w.cell? ⟨g, k + 2, none⟩ = some c) (hb : w'.heap[g]? = w.heap[g]?) : w'.cell? ⟨g, k, none⟩ = some a ∧ w'.cell? ⟨g, k + 1, none⟩ = some b ∧ w'.cell? ⟨g, k + 2, none⟩ = some c :=
  ⟨(World.cell?_of_block hb).trans h.1, (World.cell?_of_block hb).trans h.2.1, (World.cell?_of_block hb).trans h.2.2⟩

/-- The document's answer to Buffer while it is made. -/
structure BufInv (w1 wr : World) (v : Value) (ns : List En) : Prop where
  row : ∃ col' : Col, RowC wr col' (2, 2) 86 3 v ns.length (ns.flatMap En.cells) ∧ ∀ n ∈ ns, Held wr col' (1, 1) n.v n.e.d
  new : ∀ q, v.ownBlock = some q → w1.heap.size ≤ q
  bel : Below w1.heap.size w1 wr
theorem BufInv.more {w1 wr w2 w3 : World} {v v2 : Value} {ns : List En} {e : Ent} {g3 capn : Nat} {tmp : Obj} (h : BufInv w1 wr v ns) (hb2 : Below wr.heap.size wr w2) (hown2 : w2.ownsRow wr.heap.size 77 6 v2 e.d.length (flat e.d))
    (hown3 : w3.ownsRow 0 86 3 (.slice (some ⟨g3, 0, none⟩) (ns.length + 1) capn) (ns.length + 1) (ns.flatMap En.cells ++ [.int .i64 e.num, .int .i64 e.org, v2])) (hgrow3 : (w2.alloc tmp).grownBy w3 v.ownBlock) (hat3 : v.ownBlock = some g3 ∨ g3 = w2.heap.size + 1) :
    BufInv w1 w3 (.slice (some ⟨g3, 0, none⟩) (ns.length + 1) capn) (ns ++ [⟨e, v2⟩]) := by
  obtain ⟨col', hrow, hheld⟩ := h.row
  have hs1 := h.bel.size
  have hs2 := hb2.size
  have hr2 := hrow.kept (S := fun _ => False) (frC_below hb2 (1, 1)) id
  have hh2 : ∀ n ∈ ns ++ [⟨e, v2⟩], Held w2 (paint col' wr.heap.size (1, 1)) (1, 1) n.v n.e.d := fun n hn => by
    rcases List.mem_append.1 hn with hn | hn
    · exact (hheld n hn).kept (S := fun _ => False) (frC_below hb2 (1, 1)) id
    · obtain rfl := List.mem_singleton.1 hn
      exact held_made rfl hown2
  obtain ⟨hr3, hf3⟩ := hr2.lies (H := w2.heap.size + 1) (below_alloc (Below.refl _ w2) tmp) hown3 hgrow3 hat3 (by omega)
  refine ⟨⟨_, ?_, fun n hn => (hh2 n hn).kept hf3 (by decide)⟩, fun q hq => ?_, ?_⟩
  · rw [List.length_append, List.flatMap_append]
    simpa [En.cells] using hr3
  · obtain rfl := own_g hq
    rcases hat3 with e | e
    · exact h.new g3 e
    · omega
  · exact ((h.bel.trans (hb2.mono hs1)).alloc (by omega) tmp).grown hgrow3 (by simp; omega) h.new

set_option maxRecDepth 100000 in
set_option maxHeartbeats 2000000 in
theorem refBuffer {w : World} {col : Col} {o x N : Nat} {U : List At} {K : RefC} {c : Clu} (h : RefAt w col o x K c) (hok : c.ok U N) (hL : Lim U N) (r : Int) :
    Calls Tryz.prog 129 #[.pointer (some ⟨x, 0, none⟩), .int .i64 r] w fun e w' => ∃ (v : Value) (ns : List En) (col' : Col), e = .returned (.tuple #[v, .int .i64 (c.works r)]) ∧ Hid (RowC w' col' (2, 2) 86 3 v ns.length (ns.flatMap En.cells)) ∧ Hid (∀ n ∈ ns, Held w' col' (1, 1) n.v n.e.d) ∧ Hid (ns.map En.e = if c.works r = 0 then (c.rep r.toNat).buf else []) ∧ Below w.heap.size w w' := by
  have HW := refWorks h hok.n6 r
  by_cases hw : c.works r = 0
  · obtain ⟨⟨h0, hr⟩, hd⟩ := works_zero hw
    obtain ⟨n, rfl⟩ : ∃ n : Nat, r = n := ⟨r.toNat, by omega⟩
    simp only [Int.toNat_natCast] at hr hd ⊢
    obtain ⟨g, cap, D, hv, hc, hD, hp, hR⟩ := h.ptr hr
    have c5 := h.cells.2.2.2.2.2.1
    rw [hv] at c5
    have hrep := hok.rep hr
    have hN := hL.1
    have hU := hL.2
    have hkeep := keep_any hR (by have := hrep.num; omega)
    have HTK : Hid (∀ t ∈ D.ts.filter (·.kept), SliceOf w t.v t.d ∧ ToldMay t.d ∧ t.d.length ≤ 131072 ∧ t.v.oneCell' = true) := fun t ht => by
      have hm := (List.mem_filter.1 ht).1
      have hb : t.ent ∈ (c.rep n).buf := by rw [← hR.buf]; exact List.mem_map_of_mem ht
      have := hrep.buf _ hb
      exact ⟨(hR.tkd t hm).slice, this.1, Nat.le_trans (ToldMay.length this.1 this.2.1) hU, held_one (hR.tkd t hm)⟩
    have HBF : Hid ((D.ts.filter (·.kept)).map Tk.ent = (c.rep n).buf) := hR.buf
    have hbl : (D.ts.filter (·.kept)).length ≤ 8 := by
      have h1 := hrep.bufL
      have h2 := hok.room8
      rw [← hR.buf, List.length_map] at h1
      omega
    rw [hw] at HW ⊢
    rw [if_pos rfl]
    clear h hR hok hrep hw hD hv hL
    generalize c.reps.length = L at *
    generalize (c.rep n).buf = B at *
    generalize D.ts.filter (·.kept) = ts at *
    have q1 : (n : Int) < (L : Int) := by omega
    obtain ⟨i0, hi, hz0, hz1, hz2⟩ := info_parts infoEntry
    go_enter Tryz.func129, Tryz.ntmps129
    go_wp2_with fail
    refine HW.mono ?_
    rintro e w' ⟨rfl, rfl⟩
    go_wp2_with fail
    refine hkeep.mono ?_
    rintro e w1 ⟨v1, rfl, hown1, hb1⟩
    clear hkeep HW
    have hrow1 : RowC w1 (fun _ => (0, 0)) (0, 0) 156 4 v1 ts.length (ts.flatMap Tk.cells) := ⟨owns_mono hown1 (Nat.zero_le _), fun _ _ => rfl⟩
    obtain ⟨ad1, cp1, hv1, hc1, H1⟩ := hrow1.elem tk_len
    have HR1 : Hid (0 < ts.length → ∃ g, ad1 = some ⟨g, 0, none⟩ ∧ g < w1.heap.size ∧ ∀ k (hk : k < ts.length) j u, (ts[k].cells)[j]? = some u → w1.cell? ⟨g, k * 4 + j, none⟩ = some u) := fun h0 => by
      obtain ⟨g, h1, h2, _, _, h3⟩ := H1 h0
      exact ⟨g, h1, h2, h3⟩
    subst hv1
    clear H1 hrow1 hown1
    go_wp2
    go_loopw [7, 9] (fun v j wr => ∃ (k : Nat) (ns : List En), k ≤ ts.length ∧ ns.length = k ∧ j = .int .i64 k ∧ Hid (BufInv w1 wr v ns) ∧ Hid (ns.map En.e = (ts.take k).map Tk.ent)) (fun _ j _ => ts.length - (intOf j).toNat)
    case atStart => exact ⟨0, [], Nat.zero_le _, rfl, rfl, ⟨⟨fun _ => (0, 0), rowC_nil _ _ _ _ _, (fun n hn => by cases hn)⟩, (fun q hq => by cases hq), Below.refl _ _⟩, rfl⟩
    case round =>
      obtain ⟨k, ns, hk, hnl, rfl, hinv, hmap⟩ := hrel
      have hbw := hinv.out.bel
      obtain ⟨ad0, cp0, hv0⟩ : ∃ ad cp, u7 = .slice ad k cp := by
        obtain ⟨col', hrow, _⟩ := hinv.out.row
        obtain ⟨ad, cp, hv, _⟩ := hrow.form
        exact ⟨ad, cp, by rw [hv, hnl]⟩
      subst hv0
      by_cases hl : k < ts.length
      · obtain ⟨gl, rfl, hgl, hcl⟩ := HR1.out (by omega)
        have e0 : wr.cell? ⟨gl, k * 4, none⟩ = some (.int .i64 ts[k].num) := by rw [hbw.cell (p := ⟨gl, k * 4, none⟩) hgl]; exact hcl k hl 0 _ rfl
        have e1 : wr.cell? ⟨gl, k * 4 + 1, none⟩ = some (.int .i64 ts[k].org) := by rw [hbw.cell (p := ⟨gl, k * 4 + 1, none⟩) hgl]; exact hcl k hl 1 _ rfl
        have e2 : wr.cell? ⟨gl, k * 4 + 2, none⟩ = some ts[k].v := by rw [hbw.cell (p := ⟨gl, k * 4 + 2, none⟩) hgl]; exact hcl k hl 2 _ rfl
        obtain ⟨t1, t2, t3, t4⟩ := HTK.out _ (List.getElem_mem hl)
        have HSN : Hid ((ts.take (k + 1)).map Tk.ent = (ts.take k).map Tk.ent ++ [ts[k].ent]) := by rw [Hid, List.take_succ_eq_append_getElem hl, List.map_append]; rfl
        have t1r := (t1.below hb1).below hbw
        clear HR1 hcl t1
        generalize ts[k] = t at *
        obtain ⟨tn, tg, tv, td, tb⟩ := t
        simp only at *
        obtain ⟨adt, cpt, rfl, hct⟩ := id t1r
        have HT : Hid (∀ W, Below wr.heap.size wr W → Calls Tryz.prog 72 #[.slice adt td.length cpt] W fun e w' => ∃ ad2 cp2, e = .returned (.slice ad2 td.length cp2) ∧ Hid (w'.ownsRow W.heap.size 77 6 (.slice ad2 td.length cp2) td.length (flat td)) ∧ Below W.heap.size W w') := fun W hW => by
          refine (told_any _ td W (t1r.below hW) (fun a ha => fits_of_may (t2.2 a ha)) (by omega)).mono ?_
          rintro e w' ⟨v', out, rfl, hown, hto, hb⟩
          obtain rfl : out = td := hto.out.unique t2.2 t2.1
          obtain ⟨ad, cp, rfl⟩ := own_form hown
          exact ⟨ad, cp, rfl, hown, hb⟩
        have hglr : gl < wr.heap.size := by have := hbw.size; omega
        have hneq : some gl ≠ (Value.slice ad0 k cp0).ownBlock := fun e => by
          have := hinv.out.new gl e.symm
          omega
        have hwr := hbw.size
        have HOW : Hid (wr.ownsRow 0 86 3 (.slice ad0 k cp0) k (ns.flatMap En.cells)) := by
          obtain ⟨col', hrow, _⟩ := hinv.out.row
          rw [hnl] at hrow
          exact hrow.own
        clear t1r hct t2 t3 t4
        go_wp2
        go_region_held_law (fun w' => w'.cell? ⟨gl, k * 4, none⟩ = some (.int .i64 tn) ∧ w'.cell? ⟨gl, k * 4 + 1, none⟩ = some (.int .i64 tg) ∧ w'.cell? ⟨gl, k * 4 + 2, none⟩ = some (.slice adt td.length cpt)) (first | assumption | exact row3_keep (by assumption) (hb2.block gl (by exact hglr)) | exact row3_keep (by assumption) (hgrow3.block gl (by have := hb2.size; simp at this ⊢; omega) hneq) | go_keep) (first | (go_at_call 72; refine (HT.out _ (Below.refl _ _).drew).mono ?_; rintro e w2 ⟨ad2, cp2, rfl, hown2, hb2⟩; have hsz2 := hb2.size; have hg2 : gl < w2.heap.size := (by have := hb2.size; simp at this; omega)) | (refine step_append_lies _ rfl _ _ 82 rfl 0 86 i0 _ 3 40 Tryz.underlying82 hi hz0 hz1 hz2 rfl (by decide) _ k _ rfl ((owns_below HOW.out ((Below.refl _ wr).drew.trans hb2)).alloc _) ⟨w2.heap.size, 0, none⟩ 1 1 [.int .i64 tn, .int .i64 tg, .slice ad2 td.length cp2] rfl rfl (World.news_of_block (heap_alloc_new w2 _)) (three_one rfl) (by decide) (by unfold maxLen; omega) (by omega) (by simp) (w2.heap.size + 1) (by simp) ?_; intro g3 capn w3 hown3 hgrow3 hat3 hlt3))
        go_wp2
        have hi3 := BufInv.more (e := ⟨tn, tg, td⟩) hinv.out ((Below.refl _ wr).drew.trans hb2) hown2.out (by rw [hnl]; exact hown3) hgrow3 hat3
        rw [hnl] at hi3
        exact ⟨⟨k + 1, ns ++ [(⟨⟨tn, tg, td⟩, .slice ad2 td.length cp2⟩ : En)], by omega, by simp [hnl], by go_num, hi3, by rw [Hid, HSN.out, List.map_append, hmap.out]; rfl⟩, by simp [intOf]; omega⟩
      · have hkl : k = ts.length := by omega
        subst hkl
        rw [List.take_of_length_le (Nat.le_refl _)] at hmap
        obtain ⟨col', hrow, hheld⟩ := hinv.out.row
        go_wp2
        go_ret2
        exact ⟨_, ns, col', rfl, by rw [hnl] at hrow ⊢; exact hrow, hheld, hmap.out.trans HBF.out, hb1.trans (hbw.mono hb1.size)⟩
  · generalize c.works r = cd at *
    go_enter Tryz.func129, Tryz.ntmps129
    go_wp2_with fail
    refine HW.mono ?_
    rintro e w' ⟨rfl, rfl⟩
    go_wp2
    go_ret2
    exact ⟨.slice none 0 0, rfl, [], fun _ => (0, 0), rowC_nil _ _ _ _ _, (fun n hn => by cases hn), rfl, Below.refl _ _⟩

end Go.Proofs.YtahdlejgjcjeoaaGreatDoor
