/- The program's Buffer. -/
import Derived.Test.YtahdlejgjcjeoaaGreatDoorP22
import Derived.Test.YtahdlejgjcjeoaaGreatDoorP23
import Derived.Test.YtahdlejgjcjeoaaGreatDoorP05
import Derived.Lib.BufferMore
namespace Go.Proofs.YtahdlejgjcjeoaaGreatDoor
open Go.RowKit

set_option maxRecDepth 100000 in
theorem prgNext (R i num : Nat) (v : Value) (l : List At) (w : World) (c1 : w.cell? ⟨R, i * 14 + 1, none⟩ = some (.int .i64 num)) (hr : RulesAt w) (hv : SliceOf w v l) (hmay : ∀ a ∈ l, mayB a = true) (hlen : l.length ≤ 8388608) (hn : num < 1073741824) :
    Calls Tryz.prog 107 #[.pointer (some ⟨R, i * 14, none⟩), v] w fun e w' => ∃ v', e = .returned v' ∧ Hid (Buf w.heap.size w' v' (recBytes ⟨1, num + 1, l⟩)) ∧ Below w.heap.size w w' := by
  have hB := prgBytes 1 (num + 1) v l w hr hv hmay hlen (by omega) (by omega)
  obtain ⟨ad, cap, rfl, hc, H⟩ := hv
  clear H hr hmay
  generalize recBytes ⟨1, num + 1, l⟩ = bs at *
  have e1 : ((num + 1 : Nat) : Int) = (num : Int) + 1 := by omega
  rw [e1] at hB
  go_enter Tryz.func107, Tryz.ntmps107
  go_wp2_with fail
  refine hB.mono ?_
  rintro e w1 ⟨v1, rfl, hb1, hbw1⟩
  go_wp2
  go_ret
  exact ⟨v1, rfl, hb1, hbw1⟩


theorem bcells_one (l : List UInt8) : ∀ u ∈ bcells l, u.oneCell' = true := by
  intro u hu
  obtain ⟨k, -, rfl⟩ := List.mem_map.1 hu
  rfl
theorem buf_at {B : Nat} {w : World} {v : Value} {bs : List UInt8} (h : Buf B w v bs) (hp : 0 < bs.length) : ∃ b cap, v = .slice (some ⟨b, 0, none⟩) bs.length cap ∧ ∀ j u, (bcells bs)[j]? = some u → w.cell? ((⟨b, 0, none⟩ : Addr).add j) = some u := by
  have ho := h.1
  rcases ho.2 with ⟨_, h1⟩ | ⟨g, cap, cur, rfl, _⟩
  · omega
  · exact ⟨g, cap, rfl, ho.cells rfl⟩
theorem recBytes_le (k n : Nat) (l : List At) (h : ∀ a ∈ l, mayB a = true) : (recBytes ⟨k, n, l⟩).length ≤ 29 + 21 * l.length := by
  have ht := tell_told l
  have h1 := length_le_of_sub (sorted_ne ht.sorted) (fun x hx => (ht.great x hx).1)
  have h2 := encL_length (tell l) (fun x hx => fit2_of_may (h x (ht.great x hx).1))
  rw [recBytes_length]
  simp only [encS, List.length_append, be_length]
  omega
/-- What a replica is while a delta is taken in. -/
def TakeMid (w : World) (col : Col) (o x i : Nat) (K : PrK) (v : Value) (l : List At) (Q : PrD → Prop) (wc : World) : Prop :=
  ∃ col1 D1, PrI wc col1 o x i K D1 ∧ Q D1 ∧ FrC (ofPrg o i) col col1 w wc ∧ Held wc col1 (o, 1) v l ∧ Tab wc col1
theorem TakeMid.go {w w1 w2 : World} {col col1 col2 : Col} {o x i : Nat} {K : PrK} {D1 : PrD} {v : Value} {l : List At} {Q : PrD → Prop} (ho : o ≠ 0) (h : PrI w2 col2 o x i K D1) (hq : Q D1) (hf : FrC (ofPrg o i) col col1 w w1) (hf2 : FrC (ofPrg o i) col1 col2 w1 w2) (hv : Held w1 col1 (o, 1) v l) (hT : Tab w1 col1) : TakeMid w col o x i K v l Q w2 :=
  ⟨col2, D1, h, hq, hf.trans hf2, hv.kept hf2 (ofPrg_one (Nat.lt_of_lt_of_le h.hi h.h6)), hT.kept hf2 (ofPrg_tab ho)⟩

/-- The log grows at its end. -/
theorem PrI.growLog {w w1 w2 : World} {col : Col} {o x i g cap m H : Nat} {K : PrK} {D : PrD} {bs : List UInt8} (h : PrI w col o x i K D) (h1 : Below w.heap.size w w1) (hm : m = D.bytes.length + bs.length)
    (hown : w2.ownsRow 0 5 1 (.slice (some ⟨g, 0, none⟩) m cap) m (bcells D.bytes ++ bcells bs)) (hg : w1.grownBy w2 D.vl.ownBlock) (hat : D.vl.ownBlock = some g ∨ g = H) (hH : w1.heap.size = H) :
    PrI (w2.setCell ⟨K.R, i * 14 + 11, none⟩ (.slice (some ⟨g, 0, none⟩) m cap)) (paint col w.heap.size (o, 50 + i)) o x i K { D with vl := .slice (some ⟨g, 0, none⟩) m cap, bytes := D.bytes ++ bs } ∧ FrC (ofPrg o i) col (paint col w.heap.size (o, 50 + i)) w (w2.setCell ⟨K.R, i * 14 + 11, none⟩ (.slice (some ⟨g, 0, none⟩) m cap)) ∧ w2.cell? ⟨K.R, i * 14 + 11, none⟩ = some D.vl ∧ w2.frozen? ⟨K.R, i * 14 + 11, none⟩ = false := by
  have hm' : m = (D.bytes ++ bs).length := by rw [List.length_append]; exact hm
  obtain ⟨h2, h3⟩ := h.p.log.lies h1 hown hg hat (by rw [← hH]; exact h1.size)
  rw [← bcells_append, hm'] at h2
  obtain ⟨h4, h5⟩ := h.newLog h3 h2
  have hR : some K.R ≠ D.vl.ownBlock := fun e => h.apart.2.2 _ e.symm rfl
  have hlt : K.R < w1.heap.size := Nat.lt_of_lt_of_le h.ltR h1.size
  have hblk : w2.heap[K.R]? = w.heap[K.R]? := (hg.block _ hlt hR).trans (h1.block _ h.ltR)
  rw [← hm'] at h4 h5
  exact ⟨h4, h5, (World.cell?_of_block (w := w) hblk).trans h.cells.c11, by have := h.cells.fz (i * 14 + 11); simpa [World.frozen?, hblk] using this⟩

/-- The buffer grows at its end. -/
theorem PrI.growBuf {w w1 w2 : World} {col : Col} {o x i g cap H : Nat} {K : PrK} {D : PrD} (e : Pe) (h : PrI w col o x i K D) (he : Held w col (o, 1) e.v e.d) (h1 : Below w.heap.size w w1)
    (hown : w2.ownsRow 0 86 3 (.slice (some ⟨g, 0, none⟩) (D.es.length + 1) cap) (D.es.length + 1) (D.es.flatMap Pe.cells ++ e.cells)) (hg : w1.grownBy w2 D.vb.ownBlock) (hat : D.vb.ownBlock = some g ∨ g = H) (hH : w1.heap.size = H) :
    PrI (w2.setCell ⟨K.R, i * 14 + 4, none⟩ (.slice (some ⟨g, 0, none⟩) (D.es.length + 1) cap)) (paint col w.heap.size (o, 20 + i)) o x i K { D with vb := .slice (some ⟨g, 0, none⟩) (D.es.length + 1) cap, es := D.es ++ [e] } ∧ FrC (ofPrg o i) col (paint col w.heap.size (o, 20 + i)) w (w2.setCell ⟨K.R, i * 14 + 4, none⟩ (.slice (some ⟨g, 0, none⟩) (D.es.length + 1) cap)) ∧ w2.cell? ⟨K.R, i * 14 + 4, none⟩ = some D.vb ∧ w2.frozen? ⟨K.R, i * 14 + 4, none⟩ = false := by
  have hm' : D.es.length + 1 = (D.es ++ [e]).length := by simp
  obtain ⟨h2, h3⟩ := h.p.buf.lies h1 hown hg hat (by rw [← hH]; exact h1.size)
  rw [hm', show D.es.flatMap Pe.cells ++ e.cells = (D.es ++ [e]).flatMap Pe.cells by simp] at h2
  have hed : ∀ e' ∈ D.es ++ [e], Held w2 (paint col w.heap.size (o, 20 + i)) (o, 1) e'.v e'.d := fun e' he' => by
    rw [List.mem_append, List.mem_singleton] at he'
    rcases he' with he' | rfl
    · exact (h.p.ed e' he').kept h3 (neκ (by omega))
    · exact he.kept h3 (neκ (by omega))
  obtain ⟨h4, h5⟩ := h.newBuf h3 h2 hed
  have hR : some K.R ≠ D.vb.ownBlock := fun e => h.apart.2.1 _ e.symm rfl
  have hlt : K.R < w1.heap.size := Nat.lt_of_lt_of_le h.ltR h1.size
  have hblk : w2.heap[K.R]? = w.heap[K.R]? := (hg.block _ hlt hR).trans (h1.block _ h.ltR)
  rw [← hm'] at h4 h5
  exact ⟨h4, h5, (World.cell?_of_block (w := w) hblk).trans h.cells.c4, by have := h.cells.fz (i * 14 + 4); simpa [World.frozen?, hblk] using this⟩

theorem PrRep.one {w : World} {col : Col} {o i : Nat} {D : PrD} (h : PrRep w col o i D) : ∀ u ∈ D.es.flatMap Pe.cells, u.oneCell' = true := by
  intro u hu
  obtain ⟨e, he, hu⟩ := List.mem_flatMap.1 hu
  obtain ⟨ad, cap, hv, _⟩ := h.ed e he
  simp only [Pe.cells, List.mem_cons, List.not_mem_nil, or_false] at hu
  rcases hu with rfl | rfl | rfl
  · rfl
  · rfl
  · rw [hv]; rfl
theorem flatMap_drop1 (es : List Pe) : (es.flatMap Pe.cells).take (0 * 3) ++ (es.flatMap Pe.cells).drop ((0 + 1) * 3) = (es.drop 1).flatMap Pe.cells := by
  cases es <;> simp [Pe.cells]
/-- The first entry of the buffer goes. -/
theorem PrI.del {w : World} {col : Col} {o x i g cap n : Nat} {K : PrK} {D : PrD} (h : PrI w col o x i K D) (hn : D.es.length = n + 1) (hv : D.vb = .slice (some ⟨g, 0, none⟩) (n + 1) cap) :
    Calls Tryz.prog 108 #[.slice (some ⟨g, 0, none⟩) (n + 1) cap, .int .i64 0, .int .i64 1] w fun e w' => e = .returned (.slice (some ⟨g, 0, none⟩) n cap) ∧ w'.cell? ⟨K.R, i * 14 + 4, none⟩ = some (.slice (some ⟨g, 0, none⟩) (n + 1) cap) ∧ w'.frozen? ⟨K.R, i * 14 + 4, none⟩ = false ∧
      Hid (PrI (w'.setCell ⟨K.R, i * 14 + 4, none⟩ (.slice (some ⟨g, 0, none⟩) n cap)) col o x i K { D with vb := .slice (some ⟨g, 0, none⟩) n cap, es := D.es.drop 1 }) ∧ Hid (FrC (ofPrg o i) col col w (w'.setCell ⟨K.R, i * 14 + 4, none⟩ (.slice (some ⟨g, 0, none⟩) n cap))) := by
  have hrow := h.p.buf
  rw [hv, hn] at hrow
  have hd := delEnt g cap (n + 1) 0 1 _ w hrow.own h.p.one rfl (by omega)
  refine Calls.mono (show Calls Tryz.prog 108 #[.slice (some ⟨g, 0, none⟩) (n + 1) cap, .int .i64 0, .int .i64 1] w _ from hd) ?_
  rintro e w' ⟨rfl, rfl⟩
  obtain ⟨r1, r2⟩ := hrow.del (i := 0) (zl := zeroE) (by omega) rfl
  rw [flatMap_drop1, show n + 1 - 1 = n by omega] at r1
  rw [show n + 1 - 1 = n by omega] at r2
  have hl : n = (D.es.drop 1).length := by rw [List.length_drop]; omega
  have hR : g ≠ K.R := h.apart.2.1 g (by rw [hv]; rfl)
  rw [show n + 1 - 1 = n by omega]
  generalize hW : (w.drew.setCells g (0 * 3) (List.drop (1 * 3) (D.es.flatMap Pe.cells))).setCells g (n * 3) zeroE = W
  have hW' : (w.drew.setCells g (0 * 3) (List.drop ((0 + 1) * 3) (D.es.flatMap Pe.cells))).setCells g (n * 3) zeroE = W := hW
  rw [hW'] at r1 r2
  have hblk : W.heap[K.R]? = w.heap[K.R]? := r2.fr.block _ h.ltR (by rw [show col K.R = (o, 2) from h.b.cR]; exact neκ (by omega))
  have hf := r2.mono (rep_of (Nat.lt_of_lt_of_le h.hi h.h6) (k := 2) (by omega) (o := o))
  obtain ⟨h4, h5⟩ := h.newBuf (vb := .slice (some ⟨g, 0, none⟩) n cap) (es := D.es.drop 1) r2 (by rw [← hl]; exact r1) (fun e he => (h.p.ed e (List.mem_of_mem_drop he)).kept r2 (neκ (by omega)))
  refine ⟨rfl, (World.cell?_of_block (w := w) hblk).trans (by rw [← hv]; exact h.cells.c4), by have := h.cells.fz (i * 14 + 4); simpa [World.frozen?, hblk] using this, h4, h5⟩

/-- A delta is taken in. -/
def PrD.take (D : PrD) (room : Nat) (v : Value) (l : List At) (org : Nat) (vb vl : Value) : PrD :=
  { D with
    num := D.num + 1
    base := if room < D.es.length + 1 then (((D.es ++ [(⟨D.num + 1, org, v, l⟩ : Pe)]).head?.map (·.num)).getD 0) else D.base
    n := D.n + l.length
    M := addTo D.M l
    vb := vb
    es := if room < D.es.length + 1 then (D.es ++ [(⟨D.num + 1, org, v, l⟩ : Pe)]).drop 1 else D.es ++ [(⟨D.num + 1, org, v, l⟩ : Pe)]
    vl := vl
    bytes := D.bytes ++ recBytes ⟨1, D.num + 1, l⟩ }

set_option maxRecDepth 100000 in
set_option maxHeartbeats 1000000 in
theorem prgTake {w : World} {col : Col} {o x i : Nat} {K : PrK} {D : PrD} (h : PrI w col o x i K D) (ho : o ≠ 0) (hT : Tab w col) (v : Value) (l : List At) (hv : Held w col (o, 1) v l) (hmay : ∀ a ∈ l, mayB a = true) (hlen : l.length ≤ 131072) (org room : Nat) (hn : D.num ≤ 16777216) (hby : D.bytes.length ≤ 35184372088832) (hes : D.es.length ≤ 1024) (hbn : D.n ≤ 8388608) :
    Calls Tryz.prog 61 #[.pointer (some ⟨K.R, i * 14, none⟩), v, .int .i64 org, .int .i64 room] w fun e w' => e = .returned (.tuple #[]) ∧ ∃ col' vb vl, Hid (PrI w' col' o x i K (D.take room v l org vb vl)) ∧ Hid (FrC (ofPrg o i) col col' w w') := by
  obtain ⟨i0, hi, hz0, hz1, hz2⟩ := info_parts infoByte
  obtain ⟨ad, cap, rfl, hcp, H⟩ := id hv
  clear H
  have HN : Hid (∀ W, Below w.heap.size w W → Calls Tryz.prog 107 #[.pointer (some ⟨K.R, i * 14, none⟩), .slice ad l.length cap] W fun e w' => ∃ v', e = .returned v' ∧ Hid (Buf W.heap.size w' v' (recBytes ⟨1, D.num + 1, l⟩)) ∧ Below W.heap.size W w') :=
    fun W hW => prgNext K.R i D.num _ l W ((h.same hW).cells.c1) (hT.below hW).rules (hv.slice.below hW) hmay (by omega) (by omega)
  have hbl : (recBytes ⟨1, D.num + 1, l⟩).length ≤ 268435456 := by
    have := recBytes_le 1 (D.num + 1) l hmay
    omega
  have hbp : 0 < (recBytes ⟨1, D.num + 1, l⟩).length := by rw [recBytes_length]; omega
  have HI : Hid (PrI w col o x i K D) := h
  have HMAY : Hid (∀ a ∈ l, mayB a = true) := hmay
  have HV : Hid (Held w col (o, 1) (.slice ad l.length cap) l) := hv
  have HT : Hid (Tab w col) := hT
  have c11 := h.cells.c11
  obtain ⟨adl, capl, hvl, hcl⟩ := h.p.log.form
  rw [hvl] at c11
  have HLOG : Hid (∀ W, Below w.heap.size w W → W.ownsRow 0 5 1 (.slice adl D.bytes.length capl) D.bytes.length (bcells D.bytes)) := fun W hW => by rw [← hvl]; exact owns_below h.p.log.own hW
  have HGR : Hid (∀ w1 w2 g cap2 H bs, Below w.heap.size w w1 → w2.ownsRow 0 5 1 (.slice (some ⟨g, 0, none⟩) (D.bytes.length + bs.length) cap2) (D.bytes.length + bs.length) (bcells D.bytes ++ bcells bs) → w1.grownBy w2 (Value.slice adl D.bytes.length capl).ownBlock → ((Value.slice adl D.bytes.length capl).ownBlock = some g ∨ g = H) → w1.heap.size = H →
      w2.cell? ⟨K.R, i * 14 + 11, none⟩ = some (.slice adl D.bytes.length capl) ∧ w2.frozen? ⟨K.R, i * 14 + 11, none⟩ = false ∧ TakeMid w col o x i K (.slice ad l.length cap) l (fun D1 => D1 = { D with vl := .slice (some ⟨g, 0, none⟩) (D.bytes.length + bs.length) cap2, bytes := D.bytes ++ bs }) (w2.setCell ⟨K.R, i * 14 + 11, none⟩ (.slice (some ⟨g, 0, none⟩) (D.bytes.length + bs.length) cap2))) := by
    intro w1 w2 g cap2 H bs a1 a2 a3 a4 a5
    rw [← hvl] at a3 a4
    obtain ⟨b1, b2, b3, b4⟩ := h.growLog a1 rfl a2 a3 a4 a5
    rw [hvl] at b3
    exact ⟨b3, b4, TakeMid.go ho b1 rfl (FrC.refl _ _ _) b2 hv hT⟩
  have hltR := h.ltR
  clear h hv hT hmay hvl
  generalize hbsE : recBytes ⟨1, D.num + 1, l⟩ = bs at *
  have HBS : Hid (recBytes ⟨1, D.num + 1, l⟩ = bs) := hbsE
  clear hbsE
  have HDR : Hid (Below w.heap.size w w.drew) := ⟨rfl, rfl, rfl, Nat.le_refl _, fun _ _ => rfl⟩
  go_enter Tryz.func61, Tryz.ntmps61
  go_wp2_with fail
  go_cut [] from 8 (fun wc => Hid (TakeMid w col o x i K (.slice ad l.length cap) l (fun D1 => ∃ vl, D1 = { D with vl := vl, bytes := D.bytes ++ bs }) wc))
  case first =>
    go_region_law (first | (go_simp; go_at_call 107; refine (HN.out _ HDR.out).mono ?_; rintro e w1 ⟨v1, rfl, hb1, hbw1⟩; have hB1 : Below w.heap.size w w1 := HDR.out.trans hbw1; obtain ⟨b1, cp1, hv1, hn1⟩ := buf_at hb1.out hbp; subst hv1; have k11 := (hB1.cell (p := ⟨K.R, i * 14 + 11, none⟩) hltR).trans c11) | (refine step_append_lies _ rfl (.tmp 12) (.tmp 15) 124 rfl 0 5 i0 _ 1 1 Tryz.underlying124 hi hz0 hz1 hz2 rfl (by decide) _ D.bytes.length _ rfl (HLOG.out _ hB1) ⟨b1, 0, none⟩ bs.length cp1 (bcells bs) rfl (by rw [bcells_length, Nat.mul_one]) hn1 (bcells_one bs) hbp (by unfold maxLen; omega) (by omega) (Nat.zero_le _) w1.heap.size rfl ?_; intro g2 cap2 w2 hown2 hgrow2 hat2 hlt2; obtain ⟨q11, q11f, hmid⟩ := HGR.out w1 w2 g2 cap2 w1.heap.size bs hB1 hown2 hgrow2 hat2 rfl))
    all_goals go_wp2
    all_goals go_meet
    all_goals (case rel => exact ⟨_, _, hmid.choose_spec.choose_spec.1, ⟨_, hmid.choose_spec.choose_spec.2.1⟩, hmid.choose_spec.choose_spec.2.2⟩)
  case rest =>
    clear HGR HLOG HN HDR
    obtain ⟨col1, D1, hI1, ⟨vl1, rfl⟩, hF1, hV1, hT1⟩ := hcut
    generalize wc = w2 at *
    have q1 := hI1.cells.c1
    have q1f := hI1.cells.fz (i * 14 + 1)
    have q3 := hI1.cells.c3
    simp only at q1 q3
    obtain ⟨hI3, hF3⟩ := hI1.put (k := 1) (u := .int .i64 ((D.num : Int) + 1)) (by omega) { D with vl := vl1, bytes := D.bytes ++ bs, num := D.num + 1 } (by simp [PrD.cells]) rfl rfl rfl rfl rfl rfl rfl
    have hF13 := hF1.trans hF3
    have hV3 := hV1.kept hF3 (ofPrg_one (Nat.lt_of_lt_of_le hI1.hi hI1.h6))
    have hT3 := hT1.kept hF3 (ofPrg_tab ho)
    have hadd := add_any (.slice ad l.length cap) l D.b D.n D.M (w2.setCell ⟨K.R, i * 14 + 1, none⟩ (.int .i64 ((D.num : Int) + 1))) hT3.rules hI3.p.st hV3.slice HMAY.out (by omega)
    have HI3 : Hid (PrI (w2.setCell ⟨K.R, i * 14 + 1, none⟩ (.int .i64 ((D.num : Int) + 1))) col1 o x i K { D with vl := vl1, bytes := D.bytes ++ bs, num := D.num + 1 }) := hI3
    have HF13 : Hid (FrC (ofPrg o i) col col1 w (w2.setCell ⟨K.R, i * 14 + 1, none⟩ (.int .i64 ((D.num : Int) + 1)))) := hF13
    have HV3 : Hid (Held (w2.setCell ⟨K.R, i * 14 + 1, none⟩ (.int .i64 ((D.num : Int) + 1))) col1 (o, 1) (.slice ad l.length cap) l) := hV3
    have HT3 : Hid (Tab (w2.setCell ⟨K.R, i * 14 + 1, none⟩ (.int .i64 ((D.num : Int) + 1))) col1) := hT3
    clear hI1 hF1 hV1 hT1 hI3 hF3 hF13 hV3 hT3
    go_wp2_with fail
    refine hadd.mono ?_
    rintro e w4 ⟨rfl, hst4, hg4⟩
    obtain ⟨hI4, hF4⟩ := HI3.out.newSt hg4 hst4
    have hF14 := HF13.out.trans hF4
    have hV4 := HV3.out.kept hF4 (ofPrg_one (Nat.lt_of_lt_of_le hI4.hi hI4.h6))
    have hT4 := HT3.out.kept hF4 (ofPrg_tab ho)
    clear HI3 HF13 HV3 HT3 hF4 hst4 hg4 hadd q1 q1f q3
    generalize paint col1 (w2.setCell ⟨K.R, i * 14 + 1, none⟩ (.int .i64 ((D.num : Int) + 1))).heap.size (o, 10 + i) = col4 at *
    have q4 := hI4.cells.c4
    have q1 := hI4.cells.c1
    obtain ⟨adb, capb, hvb, hcb⟩ := hI4.p.buf.form
    simp only at q4 q1 hvb
    rw [hvb] at q4
    have q1' : w4.cell? ⟨K.R, i * 14 + 1, none⟩ = some (.int .i64 ((D.num : Int) + 1)) := by simpa using q1
    have HBUF : Hid (w4.ownsRow 0 86 3 (.slice adb D.es.length capb) D.es.length (D.es.flatMap Pe.cells)) := by rw [← hvb]; exact hI4.p.buf.own
    have HGB : Hid (∀ g cap2 w6, w6.ownsRow 0 86 3 (.slice (some ⟨g, 0, none⟩) (D.es.length + 1) cap2) (D.es.length + 1) (D.es.flatMap Pe.cells ++ [.int .i64 ((D.num : Int) + 1), .int .i64 org, .slice ad l.length cap]) → ∀ W : World, Below w4.heap.size w4 W → W.grownBy w6 (Value.slice adb D.es.length capb).ownBlock → ((Value.slice adb D.es.length capb).ownBlock = some g ∨ g = w4.heap.size + 1) → W.heap.size = w4.heap.size + 1 →
        w6.cell? ⟨K.R, i * 14 + 4, none⟩ = some (.slice adb D.es.length capb) ∧ w6.frozen? ⟨K.R, i * 14 + 4, none⟩ = false ∧ TakeMid w col o x i K (.slice ad l.length cap) l (fun D1 => D1 = { D with vl := vl1, bytes := D.bytes ++ bs, num := D.num + 1, n := D.n + l.length, M := addTo D.M l, vb := .slice (some ⟨g, 0, none⟩) (D.es.length + 1) cap2, es := D.es ++ [⟨D.num + 1, org, .slice ad l.length cap, l⟩] }) (w6.setCell ⟨K.R, i * 14 + 4, none⟩ (.slice (some ⟨g, 0, none⟩) (D.es.length + 1) cap2))) := by
      intro g cap2 w6 a1 W a2 a3 a4 a5
      rw [← hvb] at a3 a4
      obtain ⟨b1, b2, b3, b4⟩ := hI4.growBuf ⟨D.num + 1, org, .slice ad l.length cap, l⟩ hV4 a2 a1 a3 a4 a5
      simp only at b3
      rw [hvb] at b3
      exact ⟨b3, b4, TakeMid.go ho b1 rfl hF14 b2 hV4 hT4⟩
    obtain ⟨i1, hi1, hy0, hy1, hy2⟩ := info_parts infoEnt
    have hR4 := hI4.ltR
    have q4a := fun o => (Below.cell (p := ⟨K.R, i * 14 + 4, none⟩) (below_alloc (Below.refl _ w4) o) hR4).trans q4
    have q1a := fun o => (Below.cell (p := ⟨K.R, i * 14 + 1, none⟩) (below_alloc (Below.refl _ w4) o) hR4).trans q1'
    clear hI4 hF14 hV4 hT4 hvb q1
    go_wp2_with fail
    go_cut [] from 8 (fun wc => Hid (TakeMid w col o x i K (.slice ad l.length cap) l (fun D1 => ∃ vl vb, D1 = { D with vl := vl, bytes := D.bytes ++ bs, num := D.num + 1, n := D.n + l.length, M := addTo D.M l, vb := vb, es := D.es ++ [⟨D.num + 1, org, .slice ad l.length cap, l⟩] }) wc))
    case first =>
      go_region_law (refine step_append_lies _ rfl _ _ 82 rfl 0 86 i1 _ 3 40 Tryz.underlying82 hi1 hy0 hy1 hy2 rfl (by decide) _ D.es.length _ rfl (HBUF.out.alloc _) ⟨w4.heap.size, 0, none⟩ 1 1 [.int .i64 ((D.num : Int) + 1), .int .i64 org, .slice ad l.length cap] rfl rfl (World.news_of_block (heap_alloc_new w4 _)) three_oneP (by decide) (by unfold maxLen; omega) (by omega) (by simp) (w4.heap.size + 1) (by simp) ?_; intro g3 capn w6 hown3 hgrow3 hat3 hlt3; obtain ⟨k4, k4f, hmid⟩ := HGB.out g3 capn w6 hown3 (w4.alloc (.cells #[.int .i64 ((D.num : Int) + 1), .int .i64 org, .slice ad l.length cap] 86)) (below_alloc (Below.refl _ _) _) (grown_dry hgrow3) hat3 (by simp))
      all_goals go_wp2
      all_goals go_meet
      all_goals (case rel => exact ⟨_, _, hmid.choose_spec.choose_spec.1, ⟨_, _, hmid.choose_spec.choose_spec.2.1⟩, hmid.choose_spec.choose_spec.2.2⟩)
    case rest =>
      clear HGB HBUF q4 q1' q4a q1a hR4 hcb
      obtain ⟨col6, D6, hI6, ⟨vl6, vb6, rfl⟩, hF6, hV6, hT6⟩ := hcut
      generalize wc = w7 at *
      have hnum0 : ∃ n0, ((D.es ++ [(⟨D.num + 1, org, .slice ad l.length cap, l⟩ : Pe)]).head?.map (·.num)).getD 0 = n0 ∧ ((D.es ++ [(⟨D.num + 1, org, .slice ad l.length cap, l⟩ : Pe)])[0]?.map (·.num)) = some n0 := by
        cases D.es <;> exact ⟨_, rfl, rfl⟩
      obtain ⟨n0, hn0, hn0'⟩ := hnum0
      have HN0 : Hid (((D.es ++ [(⟨D.num + 1, org, .slice ad l.length cap, l⟩ : Pe)]).head?.map (·.num)).getD 0 = n0) := hn0
      have hel : (D.es ++ [(⟨D.num + 1, org, .slice ad l.length cap, l⟩ : Pe)]).length = D.es.length + 1 := by simp
      generalize hes6 : D.es ++ [(⟨D.num + 1, org, .slice ad l.length cap, l⟩ : Pe)] = es6 at *
      have HES : Hid (D.es ++ [(⟨D.num + 1, org, .slice ad l.length cap, l⟩ : Pe)] = es6) := hes6
      clear hes6 hn0
      obtain ⟨g, cap6, hvb, hc6, hm6, hg6, hcg6, hcell6, hfz6⟩ := hI6.p.buf.at (by simp only; omega)
      simp only at hvb hcell6
      subst hvb
      have q4 := hI6.cells.c4
      have q2 := hI6.cells.c2
      have qf := hI6.cells.fz
      simp only at q4 q2
      have hh0 : w7.cell? ⟨g, 0, none⟩ = some (.int .i64 n0) := by
        cases es6 with
        | nil => simp at hel
        | cons e es =>
          simp at hn0'
          subst hn0'
          exact hcell6 0 _ rfl
      rw [hel] at q4
      by_cases hroom : room < D.es.length + 1
      · have q5 : (room : Int) < (D.es.length : Int) + 1 := by omega
        obtain ⟨hI8, hF8⟩ := hI6.put (k := 2) (u := .int .i64 n0) (by omega) { D with vl := vl6, bytes := D.bytes ++ bs, num := D.num + 1, n := D.n + l.length, M := addTo D.M l, vb := .slice (some ⟨g, 0, none⟩) es6.length cap6, es := es6, base := n0 } rfl rfl rfl rfl rfl rfl rfl rfl
        have hdel := hI8.del (n := D.es.length) hel (by simp only; rw [hel])
        have HF8 : Hid (FrC (ofPrg o i) col col6 w (w7.setCell ⟨K.R, i * 14 + 2, none⟩ (.int .i64 n0))) := hF6.trans hF8
        clear hI6 hF6 hV6 hT6 hI8 hF8 hcell6 hn0'
        have HQ : Hid (∀ vb vl, ({ D with vl := vl, bytes := D.bytes ++ bs, num := D.num + 1, n := D.n + l.length, M := addTo D.M l, vb := vb, es := es6.drop 1, base := n0 } : PrD) = D.take room (.slice ad l.length cap) l org vb vl) := by
          intro vb vl
          unfold PrD.take
          rw [if_pos hroom, if_pos hroom, HES.out, HN0.out, HBS.out]
        go_wp2_with fail
        refine hdel.mono ?_
        rintro e w9 ⟨rfl, k4, k4f, hI9, hF9⟩
        clear hdel
        go_wp2
        go_end0
        exact ⟨rfl, col6, _, _, by rw [← HQ.out]; exact hI9.out, HF8.out.trans hF9.out⟩
      · have q5 : (D.es.length : Int) + 1 ≤ (room : Int) := by omega
        have HI6 : Hid (PrI w7 col6 o x i K { D with vl := vl6, bytes := D.bytes ++ bs, num := D.num + 1, n := D.n + l.length, M := addTo D.M l, vb := .slice (some ⟨g, 0, none⟩) es6.length cap6, es := es6 }) := hI6
        have HF6 : Hid (FrC (ofPrg o i) col col6 w w7) := hF6
        clear hI6 hF6 hV6 hT6 hcell6 hn0'
        have HQ : Hid (∀ vb vl, ({ D with vl := vl, bytes := D.bytes ++ bs, num := D.num + 1, n := D.n + l.length, M := addTo D.M l, vb := vb, es := es6 } : PrD) = D.take room (.slice ad l.length cap) l org vb vl) := by
          intro vb vl
          unfold PrD.take
          rw [if_neg hroom, if_neg hroom, HES.out, HBS.out]
        go_wp2
        go_end0
        exact ⟨rfl, col6, ⟨_, _, by rw [← HQ.out]; exact HI6.out⟩, HF6.out⟩
end Go.Proofs.YtahdlejgjcjeoaaGreatDoor

namespace Go.Proofs.YtahdlejgjcjeoaaGreatDoor
open Go.RowKit

theorem append_empty (t e ty : TypeId) (i : TypeInfo) (ht : Tryz.prog.underlying t = some (.slice e)) (hi : Tryz.prog.info? e = some i) (g : Nat) (ad : Option Addr) (c : Nat) (w : World) :
    (Builtin.append_ #[t, t] ty #[.slice (some ⟨g, 0, none⟩) 0 0, .slice ad 0 c]).run Tryz.prog w = .ok (.slice (some ⟨g, 0, none⟩) 0 0) w := by
  cases ad <;> simp [Builtin.append_, run_underlying ht, sizeOf, typeInfo, hi, Builtin.lenOf, Builtin.firstCells, storeCells, loadCells, loadCellsFrom]

set_option maxRecDepth 100000 in
theorem cloneAtoms (v : Value) (l : List At) (w : World) (hv : SliceOf w v l) (hlen : l.length ≤ 16777216) :
    Calls Tryz.prog 137 #[v] w fun e w' => ∃ v', e = .returned v' ∧ w'.ownsRow w.heap.size 77 6 v' l.length (flat l) ∧ Below w.heap.size w w' := by
  obtain ⟨i0, hi, hz0, hz1, hz2⟩ := info_parts infoAtom
  obtain ⟨ad, cap, rfl, hcap, H⟩ := hv
  cases ad with
  | none =>
    have h0 : l.length = 0 := by
      by_cases h : 0 < l.length
      · obtain ⟨b, off, e, _⟩ := H h; cases e
      · omega
    obtain rfl := List.length_eq_zero_iff.1 h0
    have heq := fun W n' c' => Lib.run_eql_slice_nil (P := Tryz.prog) W 56 77 none 0 cap n' c' Tryz.underlying56
    clear H
    go_enter Tryz.func137, Tryz.ntmps137
    go_wp2
    go_ret
    exact ⟨_, rfl, World.ownsRow_nil w _ _ _, Below.refl _ _⟩
  | some A =>
    have heq := fun W => Lib.run_eql_slice_some_nil (P := Tryz.prog) W (t := 56) A l.length cap Tryz.underlying56
    have hown : (w.alloc (.cells #[] 77)).ownsRow w.heap.size 77 6 (.slice (some ⟨w.heap.size, 0, none⟩) 0 0) 0 [] :=
      ⟨rfl, .inr ⟨w.heap.size, 0, #[], rfl, Nat.le_refl _, heap_alloc_new w _, Nat.le_refl _, Nat.zero_le _, rfl, rfl⟩⟩
    have hb0 := below_alloc (Below.refl _ w) (.cells #[] 77)
    by_cases hpos : 0 < l.length
    · obtain ⟨b, off, e, hb, hrow⟩ := H hpos
      cases e
      have hnews : ∀ j u, (flat l)[j]? = some u → (w.alloc (.cells #[] 77)).cell? ((⟨b, off, none⟩ : Addr).add j) = some u :=
        rowAt_cells (hrow.below hb0 hb)
      have HL : Hid ((flat l).length = l.length * 6) := flat_length l
      have HO : Hid (∀ u ∈ flat l, u.oneCell' = true) := flat_oneCell l
      generalize flat l = L at *
      generalize l.length = n at *
      clear H hrow
      go_enter Tryz.func137, Tryz.ntmps137
      go_wp2_with (at_builtin; refine wpList_append_two _ rfl _ _ 56 rfl w.heap.size 77 i0 _ 6 64 Tryz.underlying56 hi hz0 hz1 hz2 rfl (by decide) _ 0 _ rfl hown ⟨b, off, none⟩ n cap L rfl HL.out hnews HO.out hpos (by unfold maxLen; omega) (by omega) (by simp) ?_; intro gA capA wA hownA hcaseA)
      go_ret
      rw [Nat.zero_add] at hownA
      refine ⟨_, rfl, hownA, ?_⟩
      rcases hcaseA with ⟨h1, _⟩ | ⟨h1, h2⟩
      · exact hb0.grown h1 (by simp) (fun k hk => by cases hk)
      · exact hb0.grown h2 (by simp) (fun k hk => by cases hk; have := own_g h1; omega)
    · obtain rfl := List.length_eq_zero_iff.1 (by omega : l.length = 0)
      have happ := fun ty g W => append_empty 56 77 ty i0 Tryz.underlying56 hi g (some A) cap W
      have HOW : Hid ((w.alloc (.cells #[] 77)).ownsRow w.heap.size 77 6 (.slice (some ⟨w.heap.size, 0, none⟩) 0 0) 0 []) := hown
      clear H hown
      simp only [List.length_nil] at heq
      go_enter Tryz.func137, Tryz.ntmps137
      go_wp2
      go_ret
      exact ⟨_, rfl, HOW.out, hb0⟩
end Go.Proofs.YtahdlejgjcjeoaaGreatDoor

namespace Go.Proofs.YtahdlejgjcjeoaaGreatDoor
open Go.RowKit Go.MuLone

/-- All that is one owner's. -/
def ofOwn (o : Nat) : Nat × Nat → Prop := fun κ => κ.1 = o

theorem PrB.unlock {w : World} {col : Col} {o x : Nat} {ex : Option Nat} {K : PrK} (h : PrB w col o x ex { K with lk := 1 }) (h0 : K.lk = 0) : w.cell? ⟨x, 0, none⟩ = some (.int .i32 1) ∧ w.frozen? ⟨x, 0, none⟩ = false ∧ PrB (w.setCell ⟨x, 0, none⟩ (.int .i32 0)) col o x ex K ∧ FrC (fun κ => κ = (o, 0)) col col w (w.setCell ⟨x, 0, none⟩ (.int .i32 0)) := by
  obtain ⟨c0, _, _, _, _, _, fz⟩ := h.cl
  obtain ⟨h1, h2⟩ := h.lock 0
  refine ⟨c0, fz 0, ?_, h2⟩
  have : ({ K with lk := 0 } : PrK) = K := by rw [← h0]
  rw [← this]
  exact h1
theorem ofOwn_lock {o : Nat} : ∀ κ : Nat × Nat, κ = (o, 0) → ofOwn o κ := fun κ e => by rw [e]; rfl
theorem ofOwn_prg {o i : Nat} : ∀ κ, ofPrg o i κ → ofOwn o κ := fun κ e => by
  rcases e with e | e
  · rw [e]; rfl
  · exact e.1
theorem PrK.is.down {K : PrK} {c : Clu} (h : K.is c) {i : Nat} (hi : i < K.Ds.length) : (K.Ds[i]).up = !(c.rep i).down := (h.reps i hi).up

end Go.Proofs.YtahdlejgjcjeoaaGreatDoor

namespace Go.Proofs.YtahdlejgjcjeoaaGreatDoor
open Go.RowKit Go.MuLone

/-- Two rows of one's own lie apart. -/
def Apart (u v : Value) : Prop := ∀ q, u.ownBlock = some q → v.ownBlock ≠ some q
/-- Entries that a call has made, down to their lists. -/
structure EntsOwn (w : World) (B : Nat) (v : Value) (es : List Pe) : Prop where
  row : w.ownsRow B 86 3 v es.length (es.flatMap Pe.cells)
  own : ∀ e ∈ es, w.ownsRow B 77 6 e.v e.d.length (flat e.d)
  off : ∀ e ∈ es, Apart e.v v
  far : es.Pairwise fun a b => Apart a.v b.v

theorem EntsOwn.step {wr w3 w4 : World} {B num org g cap : Nat} {v v1 : Value} {es : List Pe} {d : List At} (h : EntsOwn wr B v es) (hB : B ≤ wr.heap.size) (hb : Below wr.heap.size wr w3) (ho : w3.ownsRow (wr.heap.size + 1) 77 6 v1 d.length (flat d))
    (hw : w4.ownsRow B 86 3 (.slice (some ⟨g, 0, none⟩) (es.length + 1) cap) (es.length + 1) (es.flatMap Pe.cells ++ [.int .i64 num, .int .i64 org, v1])) (hg : w3.grownBy w4 v.ownBlock) (hat : v.ownBlock = some g ∨ g = w3.heap.size) :
    EntsOwn w4 B (.slice (some ⟨g, 0, none⟩) (es.length + 1) cap) (es ++ [⟨num, org, v1, d⟩]) := by
  have hlv : ∀ q, v.ownBlock = some q → q < wr.heap.size := own_lt h.row
  have hl1 := own_lt ho
  have hg1 := owns_base ho
  have hle : ∀ e ∈ es, ∀ q, e.v.ownBlock = some q → q < wr.heap.size := fun e he => own_lt (h.own e he)
  have hsz := hb.size
  refine ⟨by simpa [Pe.cells] using hw, fun e he => ?_, fun e he => ?_, ?_⟩
  · rw [List.mem_append, List.mem_singleton] at he
    rcases he with he | rfl
    · exact owns_grown' (owns_below (h.own e he) hb) hg fun q hq e' => h.off e he q hq e'.symm
    · exact owns_grown' (owns_mono ho (by omega)) hg fun q hq e' => by
        have a1 := hg1 q hq
        have a2 := hlv q e'.symm
        omega
  · intro q hq e'
    have := own_g e'
    subst this
    rw [List.mem_append, List.mem_singleton] at he
    rcases he with he | rfl
    · have a1 := hle e he _ hq
      rcases hat with h1 | h1
      · exact h.off e he _ hq h1
      · omega
    · have a1 := hg1 _ hq
      have a2 := hl1 _ hq
      rcases hat with h1 | h1
      · have := hlv _ h1; omega
      · omega
  · refine List.pairwise_append.2 ⟨h.far, by simp, fun a ha b hb' => ?_⟩
    rw [List.mem_singleton] at hb'
    subst hb'
    intro q hq e'
    have a1 := hle a ha q hq
    have a2 := hg1 q e'
    omega

theorem news_three (w : World) (a b c : Value) (e : TypeId) : ∀ j u, [a, b, c][j]? = some u → (w.alloc (.cells #[a, b, c] e)).cell? ((⟨w.heap.size, 0, none⟩ : Addr).add j) = some u := by
  intro j u hj
  match j, hj with
  | 0, hj => simp at hj; subst hj; simp [Addr.add]
  | 1, hj => simp at hj; subst hj; simp [Addr.add]
  | 2, hj => simp at hj; subst hj; simp [Addr.add]
  | (j + 3), hj => simp at hj

theorem ent_cells {w : World} {base cap : Nat} {ad : Option Addr} {ds : List Pe} (h : w.ownsRow base 86 3 (.slice ad ds.length cap) ds.length (ds.flatMap Pe.cells)) {k : Nat} (hk : k < ds.length) :
    ∃ g, ad = some ⟨g, 0, none⟩ ∧ g < w.heap.size ∧ w.cell? ⟨g, k * 3, none⟩ = some (.int .i64 (ds[k]).num) ∧ w.cell? ⟨g, k * 3 + 1, none⟩ = some (.int .i64 (ds[k]).org) ∧ w.cell? ⟨g, k * 3 + 2, none⟩ = some (ds[k]).v := by
  rcases h.2 with ⟨_, h0⟩ | ⟨g, cap', cur, hv, hg, hb, h1, h2, h3, h4⟩
  · omega
  · cases hv
    have hc : ∀ j u, (ds.flatMap Pe.cells)[j]? = some u → w.cell? ⟨g, j, none⟩ = some u := fun j u hu => by
      have := h.cells (g := g) rfl j u hu
      rwa [Addr.add_lit, Nat.zero_add] at this
    refine ⟨g, rfl, (Array.getElem?_eq_some_iff.1 hb).1, hc _ _ ?_, hc _ _ ?_, hc _ _ ?_⟩
    · exact (flatMap_get Pe.cells 3 Pe.cells_length ds k 0 hk (by omega)).trans rfl
    · exact (flatMap_get Pe.cells 3 Pe.cells_length ds k 1 hk (by omega)).trans rfl
    · exact (flatMap_get Pe.cells 3 Pe.cells_length ds k 2 hk (by omega)).trans rfl

set_option maxRecDepth 100000 in
set_option maxHeartbeats 1000000 in
theorem entries_any (R i : Nat) (D : PrD) (w : World) (c4 : w.cell? ⟨R, i * 14 + 4, none⟩ = some D.vb) (hrow : w.ownsRow 0 86 3 D.vb D.es.length (D.es.flatMap Pe.cells)) (hd : ∀ e ∈ D.es, SliceOf w e.v e.d) (hl : ∀ e ∈ D.es, e.d.length ≤ 16777216) (hn : D.es.length ≤ 1048576) :
    Calls Tryz.prog 177 #[.pointer (some ⟨R, i * 14, none⟩)] w fun e w' => ∃ v es, e = .returned v ∧ Hid (EntsOwn w' w.heap.size v es) ∧ es.map Pe.ent = D.es.map Pe.ent ∧ Below w.heap.size w w' := by
  obtain ⟨i0, hi, hz0, hz1, hz2⟩ := info_parts infoEnt
  have HD : Hid (∀ e ∈ D.es, SliceOf w e.v e.d) := hd
  have HL : Hid (∀ e ∈ D.es, e.d.length ≤ 16777216) := hl
  have HROW : Hid (w.ownsRow 0 86 3 D.vb D.es.length (D.es.flatMap Pe.cells)) := hrow
  clear hd hl
  generalize D.es = ds at *
  generalize D.vb = vb at *
  obtain ⟨ad, cap, rfl⟩ := own_form hrow
  clear hrow
  go_enter Tryz.func177, Tryz.ntmps177
  go_wp2
  go_loopw [3, 11] (fun v s wr => ∃ (k : Nat) (es : List Pe), k ≤ ds.length ∧ s = .int .i64 k ∧ Hid (EntsOwn wr w.heap.size v es) ∧ es.map Pe.ent = (ds.take k).map Pe.ent ∧ Below w.heap.size w wr) (fun _ s _ => ds.length - (intOf s).toNat)
  case atStart => exact ⟨0, [], Nat.zero_le _, rfl, ⟨World.ownsRow_nil _ _ _ _, (fun e he => by cases he), (fun e he => by cases he), .nil⟩, by simp, Below.refl _ _⟩
  case round =>
    obtain ⟨k, es, hk, rfl, hes, hen, hbw⟩ := hrel
    by_cases hlt : k < ds.length
    · obtain ⟨g, rfl, hg, d0, d1, d2⟩ := ent_cells HROW.out hlt
      have hmem := List.getElem_mem hlt
      have hsl := HD.out _ hmem
      have hll := HL.out _ hmem
      have HT : Hid (ds.take (k + 1) = ds.take k ++ [ds[k]]) := List.take_succ_eq_append_getElem hlt
      generalize ds[k] = e0 at *
      clear hmem
      obtain ⟨ade, cape, hve, hce, H⟩ := id hsl
      have HSL : Hid (SliceOf w e0.v e0.d) := hsl
      rw [hve] at d2 HSL
      have e1 : wr.cell? ⟨g, k * 3, none⟩ = some (.int .i64 e0.num) := (hbw.cell (p := ⟨g, k * 3, none⟩) hg).trans d0
      have e2 : wr.cell? ⟨g, k * 3 + 1, none⟩ = some (.int .i64 e0.org) := (hbw.cell (p := ⟨g, k * 3 + 1, none⟩) hg).trans d1
      have e3 : wr.cell? ⟨g, k * 3 + 2, none⟩ = some (.slice ade e0.d.length cape) := (hbw.cell (p := ⟨g, k * 3 + 2, none⟩) hg).trans d2
      clear d0 d1 d2 H hsl
      go_wp2_with fail
      have hb0 : Below wr.heap.size wr (wr.alloc (.cells #[.int .i64 e0.num, .int .i64 e0.org, .slice ade e0.d.length cape] 86)) := below_alloc (Below.refl _ _) _
      have hbW0 : Below w.heap.size w (wr.alloc (.cells #[.int .i64 e0.num, .int .i64 e0.org, .slice ade e0.d.length cape] 86)) := below_alloc hbw _
      refine (cloneAtoms _ e0.d _ (HSL.out.below hbW0) hll).mono ?_
      rintro e w1 ⟨v1, rfl, hown1, hb1⟩
      have hz : w1.heap.size ≥ wr.heap.size + 1 := by have := hb1.size; simpa using this
      have f0 : w1.cell? ⟨wr.heap.size, 0, none⟩ = some (.int .i64 e0.num) := (hb1.cell (p := ⟨wr.heap.size, 0, none⟩) (by simp)).trans (by simp)
      have f1 : w1.cell? ⟨wr.heap.size, 1, none⟩ = some (.int .i64 e0.org) := (hb1.cell (p := ⟨wr.heap.size, 1, none⟩) (by simp)).trans (by simp)
      have f2 : w1.cell? ⟨wr.heap.size, 2, none⟩ = some (.slice ade e0.d.length cape) := (hb1.cell (p := ⟨wr.heap.size, 2, none⟩) (by simp)).trans (by simp)
      have f3 : ∀ q, w1.frozen? ⟨wr.heap.size, q, none⟩ = false := fun q => (hb1.frozen (p := ⟨wr.heap.size, q, none⟩) (by simp)).trans (by simp)
      have HB1 : Hid (Below wr.heap.size wr w1) := hb0.trans (hb1.mono (by simp))
      have HO1 : Hid (w1.ownsRow (wr.heap.size + 1) 77 6 v1 e0.d.length (flat e0.d)) := by rw [World.size_alloc] at hown1; exact hown1
      obtain ⟨ad1, cap1, rfl⟩ := own_form hown1
      clear hown1 hb1 hb0 e1 e2 e3
      have HW2 : Hid (Below wr.heap.size wr (w1.setCell ⟨wr.heap.size, 2, none⟩ (.slice ad1 e0.d.length cap1))) := HB1.out.setCell (Nat.le_refl _) _
      have HO2 : Hid ((w1.setCell ⟨wr.heap.size, 2, none⟩ (.slice ad1 e0.d.length cap1)).ownsRow (wr.heap.size + 1) 77 6 (.slice ad1 e0.d.length cap1) e0.d.length (flat e0.d)) := owns_put HO1.out (Nat.lt_succ_self _)
      have hrw := owns_below hes.out.row HW2.out
      have hbsz := hbw.size
      have hel : es.length = k := by have := congrArg List.length hen; simp at this; omega
      have hnw := news_three (w1.setCell ⟨wr.heap.size, 2, none⟩ (.slice ad1 e0.d.length cap1)) (.int .i64 e0.num) (.int .i64 e0.org) (.slice ad1 e0.d.length cap1) 86
      rw [World.size_setCell] at hnw
      have HNW := hid_of hnw
      clear hnw
      go_wp2_with (at_builtin; refine wpList_append_lies _ rfl _ _ 82 rfl w.heap.size 86 i0 _ 3 40 Tryz.underlying82 hi hz0 hz1 hz2 rfl (by decide) _ es.length _ rfl (hrw.alloc _) ⟨w1.heap.size, 0, none⟩ 1 1 [.int .i64 e0.num, .int .i64 e0.org, .slice ad1 e0.d.length cap1] rfl rfl HNW.out three_oneP (by decide) (by unfold maxLen; omega) (by omega) (by simp; omega) (w1.heap.size + 1) (by simp) ?_; intro gg capn w4 hown4 hgrow4 hat4 hlt4)
      go_roundw
      case rel =>
        refine ⟨k + 1, es ++ [⟨e0.num, e0.org, .slice ad1 e0.d.length cap1, e0.d⟩], by omega, by go_num, ?_, ?_, (HW2.out.mono hbsz |> hbw.trans |> fun h => below_alloc h _).grown hgrow4 (by simp; omega) (fun q hq => owns_base hes.out.row q hq)⟩
        · have hst := hes.out.step hbsz (below_alloc HW2.out _) (HO2.out.alloc _) hown4 hgrow4 (by rcases hat4 with h | h; exact .inl h; exact .inr (by simpa using h))
          rw [hel] at hst
          exact hst
        · rw [HT.out, List.map_append, List.map_append, hen]
          rfl
      case measure => simp [intOf]; omega
    · have hkl : k = ds.length := by omega
      subst hkl
      rw [List.take_length] at hen
      have HEN : Hid (es.map Pe.ent = ds.map Pe.ent) := hen
      clear hen
      go_wp2
      go_ret
      exact ⟨_, es, rfl, hes, HEN.out, hbw⟩
end Go.Proofs.YtahdlejgjcjeoaaGreatDoor
