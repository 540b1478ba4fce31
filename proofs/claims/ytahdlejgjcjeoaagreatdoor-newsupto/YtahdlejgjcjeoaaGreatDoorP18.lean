/- Walks of the document's cluster: keep, State, Read, Frame. -/
import Derived.Test.YtahdlejgjcjeoaaGreatDoorP13
namespace Go.Proofs.YtahdlejgjcjeoaaGreatDoor
open Go.RowKit

theorem infoTaken : (Tryz.prog.info? 156).map (fun i => (i.zero, i.size, i.bytes)) = some (some (.agg #[.int .i64 0, .int .i64 0, .slice none 0 0, .bool false]), 4, 48) := by kernel_rfl
theorem tk_len (t : Tk) : t.cells.length = 4 := rfl
theorem filter_snoc {α : Type} (q : α → Bool) (l : List α) (k : Nat) (h : k < l.length) : (l.take (k + 1)).filter q = if q l[k] then (l.take k).filter q ++ [l[k]] else (l.take k).filter q := by
  rw [List.take_succ_eq_append_getElem h, List.filter_append]
  cases hq : q l[k] <;> simp [hq]
theorem held_one {w : World} {col : Col} {κ : Nat × Nat} {v : Value} {l : List At} (h : Held w col κ v l) : v.oneCell' = true := by
  obtain ⟨ad, cap, rfl, _⟩ := h
  rfl

theorem four_one {a b : Int} {v : Value} (h : v.oneCell' = true) (q : Bool) : ∀ u ∈ [Value.int .i64 a, .int .i64 b, v, .bool q], u.oneCell' = true := by
  intro u hu
  simp only [List.mem_cons, List.not_mem_nil, or_false] at hu
  rcases hu with rfl | rfl | rfl | rfl
  · rfl
  · rfl
  · exact h
  · rfl

set_option maxHeartbeats 1000000 in
theorem keep_any {w : World} {col : Col} {o i : Nat} {near : List Bool} {D : RefD} {p : Rep} (h : RefRep w col o i near D p) (hn : p.num ≤ 4294967296) :
    Calls Tryz.prog 111 #[.pointer (some ⟨D.ρ, 0, none⟩)] w fun e w' => ∃ v, e = .returned v ∧ w'.ownsRow w.heap.size 156 4 v (D.ts.filter (·.kept)).length ((D.ts.filter (·.kept)).flatMap Tk.cells) ∧ Below w.heap.size w w' := by
  have d4 := h.cells.2.2.2.2.1
  have hlt := blk_lt h.blk
  obtain ⟨ad, cap, hv, hc, H⟩ := h.taken.elem tk_len
  rw [hv] at d4
  have HR : Hid (0 < D.ts.length → ∃ g, ad = some ⟨g, 0, none⟩ ∧ g < w.heap.size ∧ ∀ k (hk : k < D.ts.length) j u, (D.ts[k].cells)[j]? = some u → w.cell? ⟨g, k * 4 + j, none⟩ = some u) := fun h0 => by
    obtain ⟨g, h1, h2, _, _, h3⟩ := H h0
    exact ⟨g, h1, h2, h3⟩
  have HV : Hid (∀ t ∈ D.ts, t.v.oneCell' = true) := fun t ht => held_one (h.tkd t ht)
  have hl : D.ts.length ≤ 4294967296 := Nat.le_trans h.tsl hn
  clear H h hv
  generalize D.ρ = ρ at *
  generalize D.ts = ts at *
  obtain ⟨i0, hi, hz0, hz1, hz2⟩ := info_parts infoTaken
  go_enter Tryz.func111, Tryz.ntmps111
  go_wp2
  go_loopw [3, 4] (fun v j wr => ∃ (k m : Nat), k ≤ ts.length ∧ m ≤ k ∧ j = .int .i64 k ∧ Hid (m = ((ts.take k).filter (·.kept)).length) ∧ wr.ownsRow w.heap.size 156 4 v m (((ts.take k).filter (·.kept)).flatMap Tk.cells) ∧ Below w.heap.size w wr) (fun _ j _ => ts.length - (intOf j).toNat)
  case atStart => exact ⟨0, 0, Nat.zero_le _, Nat.le_refl _, rfl, by simp [Hid], by simp [World.ownsRow], Below.refl _ _⟩
  case round =>
    obtain ⟨k, m, hk, hmk, rfl, hm, hown, hbw⟩ := hrel
    have d4r : wr.cell? ⟨ρ, 4, none⟩ = some (.slice ad ts.length cap) := by rw [hbw.cell (p := ⟨ρ, 4, none⟩) hlt]; exact d4
    by_cases hl : k < ts.length
    · obtain ⟨g, rfl, hg, hrow⟩ := HR.out (by omega)
      have e0 : wr.cell? ⟨g, k * 4, none⟩ = some (.int .i64 (ts[k].num)) := by rw [hbw.cell (p := ⟨g, k * 4, none⟩) hg]; exact hrow k hl 0 _ rfl
      have e1 : wr.cell? ⟨g, k * 4 + 1, none⟩ = some (.int .i64 (ts[k].org)) := by rw [hbw.cell (p := ⟨g, k * 4 + 1, none⟩) hg]; exact hrow k hl 1 _ rfl
      have e2 : wr.cell? ⟨g, k * 4 + 2, none⟩ = some ts[k].v := by rw [hbw.cell (p := ⟨g, k * 4 + 2, none⟩) hg]; exact hrow k hl 2 _ rfl
      have e3 : wr.cell? ⟨g, k * 4 + 3, none⟩ = some (.bool ts[k].kept) := by rw [hbw.cell (p := ⟨g, k * 4 + 3, none⟩) hg]; exact hrow k hl 3 _ rfl
      have hone := HV.out ts[k] (List.getElem_mem hl)
      have HF : Hid (((ts.take (k + 1)).filter (·.kept)) = if ts[k].kept then (ts.take k).filter (·.kept) ++ [ts[k]] else (ts.take k).filter (·.kept)) := filter_snoc _ ts k hl
      clear hrow HR HV
      have hsz := hbw.size
      generalize ts[k] = t at *
      obtain ⟨tn, tg, tv, td, tb⟩ := t
      simp only at e0 e1 e2 e3 hone
      cases tb
      · go_wp2
        go_roundw
        case rel => exact ⟨k + 1, m, by omega, by omega, by go_num, by rw [Hid, HF.out]; exact hm.out, by rw [HF.out]; exact hown, hbw⟩
        case measure => simp [intOf]; omega
      · go_wp2_with (at_builtin; refine wpList_append_lies _ rfl _ _ 130 rfl w.heap.size 156 i0 _ 4 48 Tryz.underlying130 hi hz0 hz1 hz2 rfl (by decide) _ m _ rfl (hown.alloc _) ⟨wr.heap.size, 0, none⟩ 1 1 [.int .i64 tn, .int .i64 tg, tv, .bool true] rfl rfl (World.news_of_block (heap_alloc_new wr _)) (four_one hone _) (by decide) (by unfold maxLen; omega) (by omega) (by simp; omega) (wr.heap.size + 1) (by simp) ?_; intro g1 capn w1 hown1 hgrow1 hat1 hlt1)
        go_roundw
        case rel => exact ⟨k + 1, m + 1, by omega, by omega, by go_num, by rw [Hid, HF.out, hm.out]; simp, by rw [HF.out]; simpa [Tk.cells] using hown1, (hbw.alloc hsz _).grown hgrow1 (by simp; omega) (owns_base hown)⟩
        case measure => simp [intOf]; omega
    · go_wp2
      go_ret
      rw [List.take_of_length_le (by omega)] at hown hm
      exact ⟨_, rfl, by rw [← hm.out]; exact hown, hbw⟩

/-- As great as a script can make it. -/
def Lim (U : List At) (N : Nat) : Prop := N ≤ 2097152 ∧ U.length ≤ 131072
theorem Lim.prod {U : List At} {N : Nat} (h : Lim U N) : (N + 1) * U.length ≤ 274878038016 := Nat.le_trans (Nat.mul_le_mul (Nat.succ_le_succ h.1) h.2) (by decide)
theorem Rep.ok.may {U : List At} {N n room : Nat} {p : Rep} (h : p.ok U N n room) (hU : ∀ a ∈ U, mayB a = true) : ∀ a ∈ p.atoms, mayB a = true := fun a ha => hU a (h.sub a ha)

set_option maxHeartbeats 1000000 in
theorem refState {w : World} {col : Col} {o x N : Nat} {U : List At} {K : RefC} {c : Clu} (h : RefAt w col o x K c) (hok : c.ok U N) (hL : Lim U N) (r : Int) :
    Calls Tryz.prog 125 #[.pointer (some ⟨x, 0, none⟩), .int .i64 r] w fun e w' => ∃ v out, e = .returned (.tuple #[v, .int .i64 (c.works r)]) ∧ w'.ownsRow w.heap.size 77 6 v out.length (flat out) ∧ Hid (out = if c.works r = 0 then tell (c.rep r.toNat).atoms else []) ∧ Below w.heap.size w w' := by
  have HW := refWorks h hok.n6 r
  by_cases hw : c.works r = 0
  · obtain ⟨⟨h0, hr⟩, hd⟩ := works_zero hw
    obtain ⟨n, rfl⟩ : ∃ n : Nat, r = n := ⟨r.toNat, by omega⟩
    simp only [Int.toNat_natCast] at hr hd ⊢
    obtain ⟨g, cap, D, hv, hc, hD, hp, hR⟩ := h.ptr hr
    have c5 := h.cells.2.2.2.2.2.1
    rw [hv] at c5
    have d1 := hR.cells.2.1
    have hrep := hok.rep hr
    have HT := told_any D.va (c.rep n).atoms w hR.atoms.slice (fun a ha => fits_of_may (hok.may a (hrep.sub a ha))) (by have := hrep.alen; have := hL.prod; omega)
    have HU : Hid (∀ out, IsTold (c.rep n).atoms out → out = tell (c.rep n).atoms) := fun out ho => ho.unique (hrep.may hok.may) (tell_told _)
    obtain ⟨ad, cp, hva, _⟩ := hR.atoms
    rw [hw] at HW ⊢
    rw [hva] at d1 HT
    clear h hR hok hrep hw hD hva hv
    generalize c.reps.length = L at *
    generalize (c.rep n).atoms = A at *
    have q1 : (n : Int) < (L : Int) := by omega
    go_enter Tryz.func125, Tryz.ntmps125
    go_wp2_with fail
    refine HW.mono ?_
    rintro e w' ⟨rfl, rfl⟩
    go_wp2_with fail
    refine HT.mono ?_
    rintro e w' ⟨v', out, rfl, hown, hto, hb⟩
    go_wp2
    go_ret2
    exact ⟨v', rfl, out, hown, HU.out _ hto.out, hb⟩
  · generalize c.works r = cd at *
    go_enter Tryz.func125, Tryz.ntmps125
    go_wp2_with fail
    refine HW.mono ?_
    rintro e w' ⟨rfl, rfl⟩
    go_wp2
    go_ret2
    exact ⟨.slice none 0 0, rfl, [], by simp [flat, World.ownsRow], rfl, Below.refl _ _⟩

theorem fm_len (m : Fm) : m.cells.length = 5 := rfl
/-- What Frame tells. -/
def Clu.frmAt (c : Clu) (k : Int) : Frm := if c.has k then c.frm k.toNat else ⟨0, 0, 0, 0, []⟩

theorem RefAt.frame {w : World} {col : Col} {o x k : Nat} {K : RefC} {c : Clu} (h : RefAt w col o x K c) (hk : k < c.net.length) : ∃ g cap v, K.vN = .slice (some ⟨g, 0, none⟩) c.net.length cap ∧ c.net.length ≤ cap ∧ Held w col (o, 1) v (c.frm k).d ∧ K.ns[k]? = some ⟨c.frm k, v⟩ ∧
    w.cell? ⟨g, k * 5, none⟩ = some (.int .i64 (c.frm k).kind) ∧ w.cell? ⟨g, k * 5 + 1, none⟩ = some (.int .i64 (c.frm k).src) ∧ w.cell? ⟨g, k * 5 + 2, none⟩ = some (.int .i64 (c.frm k).dst) ∧ w.cell? ⟨g, k * 5 + 3, none⟩ = some (.int .i64 (c.frm k).upto) ∧ w.cell? ⟨g, k * 5 + 4, none⟩ = some v := by
  have hl : K.ns.length = c.net.length := by rw [← h.nets, List.length_map]
  have hk' : k < K.ns.length := by omega
  obtain ⟨ad, cap, hv, hc, H⟩ := h.net.elem fm_len
  obtain ⟨g, rfl, hg, _, _, hrow⟩ := H (by omega)
  have hf : c.frm k = (K.ns[k]).f := by
    unfold Clu.frm
    rw [List.getD_eq_getElem?_getD, ← h.nets, List.getElem?_map, List.getElem?_eq_getElem hk']
    rfl
  rw [hl] at hv hc
  refine ⟨g, cap, (K.ns[k]).v, hv, hc, ?_, ?_, ?_, ?_, ?_, ?_, ?_⟩
  · rw [hf]; exact h.netd _ (List.getElem_mem hk')
  · rw [hf, List.getElem?_eq_getElem hk']
  · rw [hf]; exact hrow k hk' 0 _ rfl
  · rw [hf]; exact hrow k hk' 1 _ rfl
  · rw [hf]; exact hrow k hk' 2 _ rfl
  · rw [hf]; exact hrow k hk' 3 _ rfl
  · exact hrow k hk' 4 _ rfl

set_option maxHeartbeats 1000000 in
theorem refFrame {w : World} {col : Col} {o x N : Nat} {U : List At} {K : RefC} {c : Clu} (h : RefAt w col o x K c) (hok : c.ok U N) (k : Int) :
    Calls Tryz.prog 90 #[.pointer (some ⟨x, 0, none⟩), .int .i64 k] w fun e w' => ∃ v, e = .returned (.tuple #[.agg #[.int .i64 (c.frmAt k).kind, .int .i64 (c.frmAt k).src, .int .i64 (c.frmAt k).dst, .int .i64 (c.frmAt k).upto, v], .int .i64 (c.netErr k)]) ∧ SliceOf w' v (c.frmAt k).d ∧ Below w.heap.size w w' := by
  have HW : Hid (∀ W, Below w.heap.size w W → Calls Tryz.prog 122 #[.pointer (some ⟨x, 0, none⟩), .int .i64 k] W fun e w' => e = .returned (.bool (c.has k)) ∧ w' = W) := fun W hW => refHas (h.same hW) k
  have hx := blk_lt h.blk
  unfold Clu.frmAt Clu.netErr
  cases hh : c.has k
  · rw [hh] at HW
    go_enter Tryz.func90, Tryz.ntmps90
    go_wp2_with fail
    refine (HW.out _ (below_alloc (Below.refl _ _) _)).mono ?_
    rintro e w' ⟨rfl, rfl⟩
    go_wp2
    refine bodyPost_ret (v := .tuple #[.agg #[.int .i64 0, .int .i64 0, .int .i64 0, .int .i64 0, .slice none 0 0], .int .i64 10]) ?_ rfl ⟨.slice none 0 0, rfl, sliceOf_nil _, ?_⟩
    · simp [results, Tryz.results90, go_sem]
    · exact below_alloc (Below.refl _ _) _
  · obtain ⟨h0, hlt⟩ := has_lt hh
    obtain ⟨n, rfl⟩ : ∃ n : Nat, k = n := ⟨k.toNat, by omega⟩
    simp only [Int.toNat_natCast] at hlt ⊢
    obtain ⟨g, cap, v, hv, hc, hh1, hh2, e0, e1, e2, e3, e4⟩ := h.frame hlt
    have c6 := h.cells.2.2.2.2.2.2.1
    rw [hv] at c6
    rw [hh] at HW
    have HS : Hid (SliceOf w v (c.frm n).d) := hh1.slice
    have hnl := hok.netL
    obtain ⟨ad, cp, hva, _⟩ := hh1
    have hg : g < w.heap.size := World.block_lt_of_cell? w ⟨g, n * 5, none⟩ e0
    clear h hok hh hh2
    generalize c.frm n = F at *
    obtain ⟨f0, f1, f2, f3, f4⟩ := F
    simp only at *
    generalize c.net.length = L at *
    subst hva
    have q1 : (n : Int) < (L : Int) := by omega
    go_enter Tryz.func90, Tryz.ntmps90
    go_wp2_with fail
    refine (HW.out _ (below_alloc (Below.refl _ _) _)).mono ?_
    rintro e w' ⟨rfl, rfl⟩
    go_wp2
    refine bodyPost_ret (v := .tuple #[.agg #[.int .i64 f0, .int .i64 f1, .int .i64 f2, .int .i64 f3, .slice ad f4.length cp], .int .i64 0]) ?_ rfl ⟨.slice ad f4.length cp, rfl, HS.out.below ?_, ?_⟩
    · simp [results, Tryz.results90, go_sem]
    · exact below_alloc (below_alloc (Below.refl _ _) _) _
    · exact below_alloc (below_alloc (Below.refl _ _) _) _

end Go.Proofs.YtahdlejgjcjeoaaGreatDoor
