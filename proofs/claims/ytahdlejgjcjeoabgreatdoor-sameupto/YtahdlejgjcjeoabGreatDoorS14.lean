/- strings.Clone: the numbers of the shelf's contract laid at this dump. -/
import Derived.Test.YtahdlejgjcjeoabGreatDoorS13
import Derived.Test.YtahdlejgjcjeoabGreatDoorS03
import Derived.Test.YtahdlejgjcjeoabGreatDoorS08
import Derived.Test.YtahdlejgjcjeoabGreatDoorS12
import Derived.Shelf.Strconv.Clone
import Derived.Test.YtahdlejgjcjeoabGreatDoorProg
namespace Go.Proofs.YtahdlejgjcjeoabGreatDoor
open Go.RowKit

theorem Buf.below {B : Nat} {w w' : World} {v : Value} {xs : List UInt8} (h : Buf B w v xs) (hb : Below w.heap.size w w') : Buf B w' v xs := ⟨owns_below h.1 hb, Nat.le_trans h.2 hb.size⟩

set_option maxRecDepth 100000 in
set_option maxHeartbeats 1000000 in
theorem prgBytes (kind num : Nat) (v : Value) (l : List At) (w : World) (hr : RulesAt w) (hv : SliceOf w v l) (hmay : ∀ a ∈ l, mayB a = true) (hlen : l.length ≤ 8388608) (hk : kind < 256) (hn : num < 4611686018427387904) :
    Calls Tryz.prog 120 #[.agg #[.int .i64 kind, .int .i64 num, v]] w fun e w' => ∃ v', e = .returned v' ∧ Hid (Buf w.heap.size w' v' (recBytes ⟨kind, num, l⟩)) ∧ Below w.heap.size w w' := by
  have hsh : ∀ a ∈ l, short a := fun a ha => short_of_may (hmay a ha)
  have hall : l.all mayB = true := List.all_eq_true.2 hmay
  obtain ⟨i0, hi, hz0, hz1, hz2⟩ := info_parts infoByte
  have HMAY : Hid (∀ a ∈ l, mayB a = true) := hmay
  obtain ⟨ad, cap, rfl, hc, H⟩ := id hv
  have hb0 : ∀ o, Below w.heap.size w (w.alloc o) := fun o => below_alloc (Below.refl _ _) o
  have hcE := fun o => encode_yes (.slice ad l.length cap) l (w.alloc o) (hr.below (hb0 o) hr.1) (hv.below (hb0 o)) hsh hlen hall
  clear hr hv hmay hsh hall H
  go_enter Tryz.func120, Tryz.ntmps120
  go_wp2_with fail
  refine (hcE _).mono ?_
  rintro e w1 ⟨out, rfl, ht, hb1⟩
  rw [World.size_alloc] at hb1
  have HOUT : Hid (out = tell l) := ((tell_told l).unique HMAY.out ht.out).symm
  have hlo : out.length ≤ 8388608 := Nat.le_trans (length_le_of_sub (sorted_ne ht.out.sorted) (fun x hx => (ht.out.great x hx).1)) hlen
  have hel := encL_length out (fun a ha => fit2_of_may (HMAY.out a (ht.out.great a ha).1))
  have HBODY : Hid (encS l = be out.length 8 ++ encL out) := by rw [HOUT.out]; rfl
  have hbl : (be out.length 8 ++ encL out).length ≤ 176160776 := by rw [List.length_append, be_length]; omega
  clear hcE ht hel HMAY
  generalize hbd : be out.length 8 ++ encL out = bd at *
  have HBD : Hid (encS l = bd) := HBODY.out
  clear hbd HBODY HOUT
  have r0 : w1.cell? ⟨w.heap.size, 0, none⟩ = some (.int .i64 kind) := (hb1.cell (p := ⟨w.heap.size, 0, none⟩) (by simp)).trans (by simp)
  have r1 : w1.cell? ⟨w.heap.size, 1, none⟩ = some (.int .i64 num) := (hb1.cell (p := ⟨w.heap.size, 1, none⟩) (by simp)).trans (by simp)
  have hsz1 : w.heap.size + 1 ≤ w1.heap.size := by have := hb1.size; simpa using this
  have HW1 : Hid (Below w.heap.size w w1) := (hb0 _).trans (hb1.mono (by omega))
  clear hb1
  go_wp2_with fail
  have hA := appendNumber_int (w.heap.size + 1) (.slice none 0 0) [] (kind : Int) 1 w1 ⟨⟨rfl, .inl ⟨rfl, rfl⟩⟩, hsz1⟩ (by omega) (by omega) (by omega) (by simp)
  refine hA.mono ?_
  rintro e w2 ⟨v2, rfl, hb2, hbw2, hob2⟩
  rw [show ((kind : Int)).toNat = kind by omega, List.nil_append] at hb2
  have s1 : w2.cell? ⟨w.heap.size, 1, none⟩ = some (.int .i64 num) := (hbw2.cell (p := ⟨w.heap.size, 1, none⟩) (by simp)).trans r1
  have HW2 : Hid (Below w.heap.size w w2) := HW1.out.trans (hbw2.mono (by omega))
  have hl2 : (be kind 1).length = 1 := be_length _ _
  clear hA hbw2 hob2 r0 r1 HW1
  go_wp2_with fail
  have hA := appendNumber_int (w.heap.size + 1) v2 (be kind 1) (num : Int) 8 w2 hb2.out (by omega) (by omega) (by omega) (by omega)
  refine hA.mono ?_
  rintro e w3 ⟨v3, rfl, hb3, hbw3, hob3⟩
  rw [show ((num : Int)).toNat = num by omega] at hb3
  have HW3 : Hid (Below w.heap.size w w3) := HW2.out.trans (hbw3.mono (by omega))
  have hl3 : (be kind 1 ++ be num 8).length = 9 := by rw [List.length_append, be_length, be_length]
  clear hA hbw3 hob3 s1 HW2 hb2 hl2
  have hbs := bstr_size bd
  go_wp2_with fail
  have hA := appendNumber_int (w.heap.size + 1) v3 (be kind 1 ++ be num 8) ((bd.length : Nat) : Int) 8 w3 hb3.out (by omega) (by omega) (by omega) (by omega)
  refine hA.mono ?_
  rintro e w4 ⟨v4, rfl, hb4, hbw4, hob4⟩
  rw [show ((bd.length : Nat) : Int).toNat = bd.length by omega] at hb4
  have HW4 : Hid (Below w.heap.size w w4) := HW3.out.trans (hbw4.mono (by omega))
  have hl4 : ((be kind 1 ++ be num 8) ++ be bd.length 8).length = 17 := by rw [List.length_append, be_length, hl3]
  clear hA hbw4 hob4 HW3 hb3 hl3
  have hown := hb4.out.1
  have hbl4 := hb4.out.2
  rw [hl4] at hown
  have HX : Hid (recHead ⟨kind, num, l⟩ = ((be kind 1 ++ be num 8) ++ be bd.length 8) ++ bd) := by rw [Hid, recHead, HBD.out]; simp
  generalize (be kind 1 ++ be num 8) ++ be bd.length 8 = hd at *
  clear hb4
  have hds : (bstr bd).data.toList = bd := by simp [bstr]
  have HDS : Hid ((bstr bd).data.toList = bd) := hds
  clear hds
  go_wp2_with (at_builtin; refine Go.Lib.wpList_append_own_string _ rfl _ _ 124 9 rfl (w.heap.size + 1) 5 i0 Tryz.underlying124 Tryz.underlying9 hi hz0 hz1 hz2 _ 17 _ rfl hown (bstr bd) rfl (by unfold maxLen; omega) (by omega) hbl4 ?_; intro v5 w5 hown5 hg5 _)
  have HB5 : Hid (Buf (w.heap.size + 1) w5 v5 (hd ++ bd)) := by
    refine ⟨?_, Nat.le_trans hbl4 hg5.size⟩
    have e1 : Lib.strCells (bstr bd) = bcells bd := (show _ = bcells (bstr bd).data.toList from rfl).trans (by rw [HDS.out])
    rw [e1] at hown5
    rw [bcells_append, List.length_append, hl4]
    have : (bstr bd).size = bd.length := hbs
    rw [this] at hown5
    exact hown5
  have HW5 : Hid (Below w.heap.size w w5) := HW4.out.grown hg5 (by omega) (fun q hq => Nat.le_of_succ_le (owns_base hown q hq))
  have hl5 : (hd ++ bd).length ≤ 176160793 := by rw [List.length_append, hl4]; omega
  have HX2 : Hid (recHead ⟨kind, num, l⟩ = hd ++ bd) := HX.out
  clear hown5 hown hg5 HW4 hbl4 HX HDS hl4 hbl hbs HBD
  generalize hd ++ bd = hb at *
  refine (prgSum v5 hb w5 (bytesAt_owns rfl HB5.out.1) (by omega)).mono ?_
  rintro e w6 ⟨rfl, hb6⟩
  have HB6 : Hid (Buf (w.heap.size + 1) w6 v5 hb) := HB5.out.below hb6
  have HW6 : Hid (Below w.heap.size w w6) := HW5.out.trans (hb6.mono (Nat.le_of_succ_le HB5.out.2))
  have had := adler_lt hb
  have HREC : Hid (recBytes ⟨kind, num, l⟩ = hb ++ be (adler hb) 4) := by rw [Hid, recBytes, HX2.out]
  clear HB5 HW5 hb6
  generalize adler hb = sm at *
  go_wp2_with fail
  have hA := appendNumber_int (w.heap.size + 1) v5 hb (sm : Int) 4 w6 HB6.out (by omega) (by omega) (by omega) (by omega)
  refine hA.mono ?_
  rintro e w7 ⟨v7, rfl, hb7, hbw7, hob7⟩
  rw [show ((sm : Int)).toNat = sm by omega] at hb7
  have HW7 : Hid (Below w.heap.size w w7) := HW6.out.trans (hbw7.mono (by omega))
  have HB7 : Hid (Buf w.heap.size w7 v7 (recBytes ⟨kind, num, l⟩)) := by
    rw [Hid, HREC.out]
    exact ⟨owns_mono hb7.out.1 (by omega), Nat.le_of_succ_le hb7.out.2⟩
  clear hA hbw7 hob7 HW6 HB6 hb7
  go_wp2
  go_ret
  exact ⟨v7, rfl, HB7, HW7.out⟩
end Go.Proofs.YtahdlejgjcjeoabGreatDoor

namespace Go.Proofs.YtahdlejgjcjeoabGreatDoor
open Go.RowKit

set_option maxRecDepth 100000 in
theorem prgNext (R i num : Nat) (v : Value) (l : List At) (w : World) (c1 : w.cell? ⟨R, i * 14 + 1, none⟩ = some (.int .i64 num)) (hr : RulesAt w) (hv : SliceOf w v l) (hmay : ∀ a ∈ l, mayB a = true) (hlen : l.length ≤ 8388608) (hn : num < 1073741824) :
    Calls Tryz.prog 109 #[.pointer (some ⟨R, i * 14, none⟩), v] w fun e w' => ∃ v', e = .returned v' ∧ Hid (Buf w.heap.size w' v' (recBytes ⟨1, num + 1, l⟩)) ∧ Below w.heap.size w w' := by
  have hB := prgBytes 1 (num + 1) v l w hr hv hmay hlen (by omega) (by omega)
  obtain ⟨ad, cap, rfl, hc, H⟩ := hv
  clear H hr hmay
  generalize recBytes ⟨1, num + 1, l⟩ = bs at *
  have e1 : ((num + 1 : Nat) : Int) = (num : Int) + 1 := by omega
  rw [e1] at hB
  go_enter Tryz.func109, Tryz.ntmps109
  go_wp2_with fail
  refine hB.mono ?_
  rintro e w1 ⟨v1, rfl, hb1, hbw1⟩
  go_wp2
  go_ret
  exact ⟨v1, rfl, hb1, hbw1⟩


theorem bcells_one (l : List UInt8) : ∀ u ∈ bcells l, u.oneCell' = true := by
  intro u hu
  obtain ⟨k, -, rfl⟩ := List.mem_map.1 hu
  rfl
theorem buf_at {B : Nat} {w : World} {v : Value} {bs : List UInt8} (h : Buf B w v bs) (hp : 0 < bs.length) : ∃ b cap, v = .slice (some ⟨b, 0, none⟩) bs.length cap ∧ ∀ j u, (bcells bs)[j]? = some u → w.cell? ((⟨b, 0, none⟩ : Addr).add j) = some u := by
  have ho := h.1
  rcases ho.2 with ⟨_, h1⟩ | ⟨g, cap, cur, rfl, _⟩
  · omega
  · exact ⟨g, cap, rfl, ho.cells rfl⟩
theorem recBytes_le (k n : Nat) (l : List At) (h : ∀ a ∈ l, mayB a = true) : (recBytes ⟨k, n, l⟩).length ≤ 29 + 21 * l.length := by
  have ht := tell_told l
  have h1 := length_le_of_sub (sorted_ne ht.sorted) (fun x hx => (ht.great x hx).1)
  have h2 := encL_length (tell l) (fun x hx => fit2_of_may (h x (ht.great x hx).1))
  rw [recBytes_length]
  simp only [encS, List.length_append, be_length]
  omega
/-- What a replica is while a delta is taken in. -/
def TakeMid (w : World) (col : Col) (o x i : Nat) (K : PrK) (v : Value) (l : List At) (Q : PrD → Prop) (wc : World) : Prop :=
  ∃ col1 D1, PrI wc col1 o x i K D1 ∧ Q D1 ∧ FrC (ofPrg o i) col col1 w wc ∧ Held wc col1 (o, 1) v l ∧ Tab wc col1
theorem TakeMid.go {w w1 w2 : World} {col col1 col2 : Col} {o x i : Nat} {K : PrK} {D1 : PrD} {v : Value} {l : List At} {Q : PrD → Prop} (ho : o ≠ 0) (h : PrI w2 col2 o x i K D1) (hq : Q D1) (hf : FrC (ofPrg o i) col col1 w w1) (hf2 : FrC (ofPrg o i) col1 col2 w1 w2) (hv : Held w1 col1 (o, 1) v l) (hT : Tab w1 col1) : TakeMid w col o x i K v l Q w2 :=
  ⟨col2, D1, h, hq, hf.trans hf2, hv.kept hf2 (ofPrg_one (Nat.lt_of_lt_of_le h.hi h.h6)), hT.kept hf2 (ofPrg_tab ho)⟩

/-- The log grows at its end. -/
theorem PrI.growLog {w w1 w2 : World} {col : Col} {o x i g cap m H : Nat} {K : PrK} {D : PrD} {bs : List UInt8} (h : PrI w col o x i K D) (h1 : Below w.heap.size w w1) (hm : m = D.bytes.length + bs.length)
    (hown : w2.ownsRow 0 5 1 (.slice (some ⟨g, 0, none⟩) m cap) m (bcells D.bytes ++ bcells bs)) (hg : w1.grownBy w2 D.vl.ownBlock) (hat : D.vl.ownBlock = some g ∨ g = H) (hH : w1.heap.size = H) :
    PrI (w2.setCell ⟨K.R, i * 14 + 11, none⟩ (.slice (some ⟨g, 0, none⟩) m cap)) (paint col w.heap.size (o, 50 + i)) o x i K { D with vl := .slice (some ⟨g, 0, none⟩) m cap, bytes := D.bytes ++ bs } ∧ FrC (ofPrg o i) col (paint col w.heap.size (o, 50 + i)) w (w2.setCell ⟨K.R, i * 14 + 11, none⟩ (.slice (some ⟨g, 0, none⟩) m cap)) ∧ w2.cell? ⟨K.R, i * 14 + 11, none⟩ = some D.vl ∧ w2.frozen? ⟨K.R, i * 14 + 11, none⟩ = false := by
  have hm' : m = (D.bytes ++ bs).length := by rw [List.length_append]; exact hm
  obtain ⟨h2, h3⟩ := h.p.log.lies h1 hown hg hat (by rw [← hH]; exact h1.size)
  rw [← bcells_append, hm'] at h2
  obtain ⟨h4, h5⟩ := h.newLog h3 h2
  have hR : some K.R ≠ D.vl.ownBlock := fun e => h.apart.2.2 _ e.symm rfl
  have hlt : K.R < w1.heap.size := Nat.lt_of_lt_of_le h.ltR h1.size
  have hblk : w2.heap[K.R]? = w.heap[K.R]? := (hg.block _ hlt hR).trans (h1.block _ h.ltR)
  rw [← hm'] at h4 h5
  exact ⟨h4, h5, (World.cell?_of_block (w := w) hblk).trans h.cells.c11, by have := h.cells.fz (i * 14 + 11); simpa [World.frozen?, hblk] using this⟩

/-- The buffer grows at its end. -/
theorem PrI.growBuf {w w1 w2 : World} {col : Col} {o x i g cap H : Nat} {K : PrK} {D : PrD} (e : Pe) (h : PrI w col o x i K D) (he : Held w col (o, 1) e.v e.d) (h1 : Below w.heap.size w w1)
    (hown : w2.ownsRow 0 85 3 (.slice (some ⟨g, 0, none⟩) (D.es.length + 1) cap) (D.es.length + 1) (D.es.flatMap Pe.cells ++ e.cells)) (hg : w1.grownBy w2 D.vb.ownBlock) (hat : D.vb.ownBlock = some g ∨ g = H) (hH : w1.heap.size = H) :
    PrI (w2.setCell ⟨K.R, i * 14 + 4, none⟩ (.slice (some ⟨g, 0, none⟩) (D.es.length + 1) cap)) (paint col w.heap.size (o, 20 + i)) o x i K { D with vb := .slice (some ⟨g, 0, none⟩) (D.es.length + 1) cap, es := D.es ++ [e] } ∧ FrC (ofPrg o i) col (paint col w.heap.size (o, 20 + i)) w (w2.setCell ⟨K.R, i * 14 + 4, none⟩ (.slice (some ⟨g, 0, none⟩) (D.es.length + 1) cap)) ∧ w2.cell? ⟨K.R, i * 14 + 4, none⟩ = some D.vb ∧ w2.frozen? ⟨K.R, i * 14 + 4, none⟩ = false := by
  have hm' : D.es.length + 1 = (D.es ++ [e]).length := by simp
  obtain ⟨h2, h3⟩ := h.p.buf.lies h1 hown hg hat (by rw [← hH]; exact h1.size)
  rw [hm', show D.es.flatMap Pe.cells ++ e.cells = (D.es ++ [e]).flatMap Pe.cells by simp] at h2
  have hed : ∀ e' ∈ D.es ++ [e], Held w2 (paint col w.heap.size (o, 20 + i)) (o, 1) e'.v e'.d := fun e' he' => by
    rw [List.mem_append, List.mem_singleton] at he'
    rcases he' with he' | rfl
    · exact (h.p.ed e' he').kept h3 (neκ (by omega))
    · exact he.kept h3 (neκ (by omega))
  obtain ⟨h4, h5⟩ := h.newBuf h3 h2 hed
  have hR : some K.R ≠ D.vb.ownBlock := fun e => h.apart.2.1 _ e.symm rfl
  have hlt : K.R < w1.heap.size := Nat.lt_of_lt_of_le h.ltR h1.size
  have hblk : w2.heap[K.R]? = w.heap[K.R]? := (hg.block _ hlt hR).trans (h1.block _ h.ltR)
  rw [← hm'] at h4 h5
  exact ⟨h4, h5, (World.cell?_of_block (w := w) hblk).trans h.cells.c4, by have := h.cells.fz (i * 14 + 4); simpa [World.frozen?, hblk] using this⟩

theorem PrRep.one {w : World} {col : Col} {o i : Nat} {D : PrD} (h : PrRep w col o i D) : ∀ u ∈ D.es.flatMap Pe.cells, u.oneCell' = true := by
  intro u hu
  obtain ⟨e, he, hu⟩ := List.mem_flatMap.1 hu
  obtain ⟨ad, cap, hv, _⟩ := h.ed e he
  simp only [Pe.cells, List.mem_cons, List.not_mem_nil, or_false] at hu
  rcases hu with rfl | rfl | rfl
  · rfl
  · rfl
  · rw [hv]; rfl
theorem flatMap_drop1 (es : List Pe) : (es.flatMap Pe.cells).take (0 * 3) ++ (es.flatMap Pe.cells).drop ((0 + 1) * 3) = (es.drop 1).flatMap Pe.cells := by
  cases es <;> simp [Pe.cells]
/-- The first entry of the buffer goes. -/
theorem PrI.del {w : World} {col : Col} {o x i g cap n : Nat} {K : PrK} {D : PrD} (h : PrI w col o x i K D) (hn : D.es.length = n + 1) (hv : D.vb = .slice (some ⟨g, 0, none⟩) (n + 1) cap) :
    Calls Tryz.prog 111 #[.slice (some ⟨g, 0, none⟩) (n + 1) cap, .int .i64 0, .int .i64 1] w fun e w' => e = .returned (.slice (some ⟨g, 0, none⟩) n cap) ∧ w'.cell? ⟨K.R, i * 14 + 4, none⟩ = some (.slice (some ⟨g, 0, none⟩) (n + 1) cap) ∧ w'.frozen? ⟨K.R, i * 14 + 4, none⟩ = false ∧
      Hid (PrI (w'.setCell ⟨K.R, i * 14 + 4, none⟩ (.slice (some ⟨g, 0, none⟩) n cap)) col o x i K { D with vb := .slice (some ⟨g, 0, none⟩) n cap, es := D.es.drop 1 }) ∧ Hid (FrC (ofPrg o i) col col w (w'.setCell ⟨K.R, i * 14 + 4, none⟩ (.slice (some ⟨g, 0, none⟩) n cap))) := by
  have hrow := h.p.buf
  rw [hv, hn] at hrow
  have hd := delEnt g cap (n + 1) 0 1 _ w hrow.own h.p.one rfl (by omega)
  refine Calls.mono (show Calls Tryz.prog 111 #[.slice (some ⟨g, 0, none⟩) (n + 1) cap, .int .i64 0, .int .i64 1] w _ from hd) ?_
  rintro e w' ⟨rfl, rfl⟩
  obtain ⟨r1, r2⟩ := hrow.del (i := 0) (zl := zeroE) (by omega) rfl
  rw [flatMap_drop1, show n + 1 - 1 = n by omega] at r1
  rw [show n + 1 - 1 = n by omega] at r2
  have hl : n = (D.es.drop 1).length := by rw [List.length_drop]; omega
  have hR : g ≠ K.R := h.apart.2.1 g (by rw [hv]; rfl)
  rw [show n + 1 - 1 = n by omega]
  generalize hW : (w.drew.setCells g (0 * 3) (List.drop (1 * 3) (D.es.flatMap Pe.cells))).setCells g (n * 3) zeroE = W
  have hW' : (w.drew.setCells g (0 * 3) (List.drop ((0 + 1) * 3) (D.es.flatMap Pe.cells))).setCells g (n * 3) zeroE = W := hW
  rw [hW'] at r1 r2
  have hblk : W.heap[K.R]? = w.heap[K.R]? := r2.fr.block _ h.ltR (by rw [show col K.R = (o, 2) from h.b.cR]; exact neκ (by omega))
  have hf := r2.mono (rep_of (Nat.lt_of_lt_of_le h.hi h.h6) (k := 2) (by omega) (o := o))
  obtain ⟨h4, h5⟩ := h.newBuf (vb := .slice (some ⟨g, 0, none⟩) n cap) (es := D.es.drop 1) r2 (by rw [← hl]; exact r1) (fun e he => (h.p.ed e (List.mem_of_mem_drop he)).kept r2 (neκ (by omega)))
  refine ⟨rfl, (World.cell?_of_block (w := w) hblk).trans (by rw [← hv]; exact h.cells.c4), by have := h.cells.fz (i * 14 + 4); simpa [World.frozen?, hblk] using this, h4, h5⟩

/-- A delta is taken in. -/
def PrD.take (D : PrD) (room : Nat) (v : Value) (l : List At) (org : Nat) (vb vl : Value) : PrD :=
  { D with
    num := D.num + 1
    base := if room < D.es.length + 1 then (((D.es ++ [(⟨D.num + 1, org, v, l⟩ : Pe)]).head?.map (·.num)).getD 0) else D.base
    n := D.n + l.length
    M := addTo D.M l
    vb := vb
    es := if room < D.es.length + 1 then (D.es ++ [(⟨D.num + 1, org, v, l⟩ : Pe)]).drop 1 else D.es ++ [(⟨D.num + 1, org, v, l⟩ : Pe)]
    vl := vl
    bytes := D.bytes ++ recBytes ⟨1, D.num + 1, l⟩ }

set_option maxRecDepth 100000 in
set_option maxHeartbeats 1000000 in
theorem prgTake {w : World} {col : Col} {o x i : Nat} {K : PrK} {D : PrD} (h : PrI w col o x i K D) (ho : o ≠ 0) (hT : Tab w col) (v : Value) (l : List At) (hv : Held w col (o, 1) v l) (hmay : ∀ a ∈ l, mayB a = true) (hlen : l.length ≤ 131072) (org room : Nat) (hn : D.num ≤ 16777216) (hby : D.bytes.length ≤ 35184372088832) (hes : D.es.length ≤ 1024) (hbn : D.n ≤ 8388608) :
    Calls Tryz.prog 62 #[.pointer (some ⟨K.R, i * 14, none⟩), v, .int .i64 org, .int .i64 room] w fun e w' => e = .returned (.tuple #[]) ∧ ∃ col' vb vl, Hid (PrI w' col' o x i K (D.take room v l org vb vl)) ∧ Hid (FrC (ofPrg o i) col col' w w') := by
  obtain ⟨i0, hi, hz0, hz1, hz2⟩ := info_parts infoByte
  obtain ⟨ad, cap, rfl, hcp, H⟩ := id hv
  clear H
  have HN : Hid (∀ W, Below w.heap.size w W → Calls Tryz.prog 109 #[.pointer (some ⟨K.R, i * 14, none⟩), .slice ad l.length cap] W fun e w' => ∃ v', e = .returned v' ∧ Hid (Buf W.heap.size w' v' (recBytes ⟨1, D.num + 1, l⟩)) ∧ Below W.heap.size W w') :=
    fun W hW => prgNext K.R i D.num _ l W ((h.same hW).cells.c1) (hT.below hW).rules (hv.slice.below hW) hmay (by omega) (by omega)
  have hbl : (recBytes ⟨1, D.num + 1, l⟩).length ≤ 268435456 := by
    have := recBytes_le 1 (D.num + 1) l hmay
    omega
  have hbp : 0 < (recBytes ⟨1, D.num + 1, l⟩).length := by rw [recBytes_length]; omega
  have HI : Hid (PrI w col o x i K D) := h
  have HMAY : Hid (∀ a ∈ l, mayB a = true) := hmay
  have HV : Hid (Held w col (o, 1) (.slice ad l.length cap) l) := hv
  have HT : Hid (Tab w col) := hT
  have c11 := h.cells.c11
  obtain ⟨adl, capl, hvl, hcl⟩ := h.p.log.form
  rw [hvl] at c11
  have HLOG : Hid (∀ W, Below w.heap.size w W → W.ownsRow 0 5 1 (.slice adl D.bytes.length capl) D.bytes.length (bcells D.bytes)) := fun W hW => by rw [← hvl]; exact owns_below h.p.log.own hW
  have HGR : Hid (∀ w1 w2 g cap2 H bs, Below w.heap.size w w1 → w2.ownsRow 0 5 1 (.slice (some ⟨g, 0, none⟩) (D.bytes.length + bs.length) cap2) (D.bytes.length + bs.length) (bcells D.bytes ++ bcells bs) → w1.grownBy w2 (Value.slice adl D.bytes.length capl).ownBlock → ((Value.slice adl D.bytes.length capl).ownBlock = some g ∨ g = H) → w1.heap.size = H →
      w2.cell? ⟨K.R, i * 14 + 11, none⟩ = some (.slice adl D.bytes.length capl) ∧ w2.frozen? ⟨K.R, i * 14 + 11, none⟩ = false ∧ TakeMid w col o x i K (.slice ad l.length cap) l (fun D1 => D1 = { D with vl := .slice (some ⟨g, 0, none⟩) (D.bytes.length + bs.length) cap2, bytes := D.bytes ++ bs }) (w2.setCell ⟨K.R, i * 14 + 11, none⟩ (.slice (some ⟨g, 0, none⟩) (D.bytes.length + bs.length) cap2))) := by
    intro w1 w2 g cap2 H bs a1 a2 a3 a4 a5
    rw [← hvl] at a3 a4
    obtain ⟨b1, b2, b3, b4⟩ := h.growLog a1 rfl a2 a3 a4 a5
    rw [hvl] at b3
    exact ⟨b3, b4, TakeMid.go ho b1 rfl (FrC.refl _ _ _) b2 hv hT⟩
  have hltR := h.ltR
  clear h hv hT hmay hvl
  generalize hbsE : recBytes ⟨1, D.num + 1, l⟩ = bs at *
  have HBS : Hid (recBytes ⟨1, D.num + 1, l⟩ = bs) := hbsE
  clear hbsE
  have HDR : Hid (Below w.heap.size w w.drew) := ⟨rfl, rfl, rfl, Nat.le_refl _, fun _ _ => rfl⟩
  go_enter Tryz.func62, Tryz.ntmps62
  go_wp2_with fail
  go_cut [] from 8 (fun wc => Hid (TakeMid w col o x i K (.slice ad l.length cap) l (fun D1 => ∃ vl, D1 = { D with vl := vl, bytes := D.bytes ++ bs }) wc))
  case first =>
    go_region_law (first | (go_simp; go_at_call 109; refine (HN.out _ HDR.out).mono ?_; rintro e w1 ⟨v1, rfl, hb1, hbw1⟩; have hB1 : Below w.heap.size w w1 := HDR.out.trans hbw1; obtain ⟨b1, cp1, hv1, hn1⟩ := buf_at hb1.out hbp; subst hv1; have k11 := (hB1.cell (p := ⟨K.R, i * 14 + 11, none⟩) hltR).trans c11) | (refine step_append_lies _ rfl (.tmp 12) (.tmp 15) 124 rfl 0 5 i0 _ 1 1 Tryz.underlying124 hi hz0 hz1 hz2 rfl (by decide) _ D.bytes.length _ rfl (HLOG.out _ hB1) ⟨b1, 0, none⟩ bs.length cp1 (bcells bs) rfl (by rw [bcells_length, Nat.mul_one]) hn1 (bcells_one bs) hbp (by unfold maxLen; omega) (by omega) (Nat.zero_le _) w1.heap.size rfl ?_; intro g2 cap2 w2 hown2 hgrow2 hat2 hlt2; obtain ⟨q11, q11f, hmid⟩ := HGR.out w1 w2 g2 cap2 w1.heap.size bs hB1 hown2 hgrow2 hat2 rfl))
    all_goals go_wp2
    all_goals go_meet
    all_goals (case rel => exact ⟨_, _, hmid.choose_spec.choose_spec.1, ⟨_, hmid.choose_spec.choose_spec.2.1⟩, hmid.choose_spec.choose_spec.2.2⟩)
  case rest =>
    clear HGR HLOG HN HDR
    obtain ⟨col1, D1, hI1, ⟨vl1, rfl⟩, hF1, hV1, hT1⟩ := hcut
    generalize wc = w2 at *
    have q1 := hI1.cells.c1
    have q1f := hI1.cells.fz (i * 14 + 1)
    have q3 := hI1.cells.c3
    simp only at q1 q3
    obtain ⟨hI3, hF3⟩ := hI1.put (k := 1) (u := .int .i64 ((D.num : Int) + 1)) (by omega) { D with vl := vl1, bytes := D.bytes ++ bs, num := D.num + 1 } (by simp [PrD.cells]) rfl rfl rfl rfl rfl rfl rfl
    have hF13 := hF1.trans hF3
    have hV3 := hV1.kept hF3 (ofPrg_one (Nat.lt_of_lt_of_le hI1.hi hI1.h6))
    have hT3 := hT1.kept hF3 (ofPrg_tab ho)
    have hadd := add_any (.slice ad l.length cap) l D.b D.n D.M (w2.setCell ⟨K.R, i * 14 + 1, none⟩ (.int .i64 ((D.num : Int) + 1))) hT3.rules hI3.p.st hV3.slice HMAY.out (by omega)
    have HI3 : Hid (PrI (w2.setCell ⟨K.R, i * 14 + 1, none⟩ (.int .i64 ((D.num : Int) + 1))) col1 o x i K { D with vl := vl1, bytes := D.bytes ++ bs, num := D.num + 1 }) := hI3
    have HF13 : Hid (FrC (ofPrg o i) col col1 w (w2.setCell ⟨K.R, i * 14 + 1, none⟩ (.int .i64 ((D.num : Int) + 1)))) := hF13
    have HV3 : Hid (Held (w2.setCell ⟨K.R, i * 14 + 1, none⟩ (.int .i64 ((D.num : Int) + 1))) col1 (o, 1) (.slice ad l.length cap) l) := hV3
    have HT3 : Hid (Tab (w2.setCell ⟨K.R, i * 14 + 1, none⟩ (.int .i64 ((D.num : Int) + 1))) col1) := hT3
    clear hI1 hF1 hV1 hT1 hI3 hF3 hF13 hV3 hT3
    go_wp2_with fail
    refine hadd.mono ?_
    rintro e w4 ⟨rfl, hst4, hg4⟩
    obtain ⟨hI4, hF4⟩ := HI3.out.newSt hg4 hst4
    have hF14 := HF13.out.trans hF4
    have hV4 := HV3.out.kept hF4 (ofPrg_one (Nat.lt_of_lt_of_le hI4.hi hI4.h6))
    have hT4 := HT3.out.kept hF4 (ofPrg_tab ho)
    clear HI3 HF13 HV3 HT3 hF4 hst4 hg4 hadd q1 q1f q3
    generalize paint col1 (w2.setCell ⟨K.R, i * 14 + 1, none⟩ (.int .i64 ((D.num : Int) + 1))).heap.size (o, 10 + i) = col4 at *
    have q4 := hI4.cells.c4
    have q1 := hI4.cells.c1
    obtain ⟨adb, capb, hvb, hcb⟩ := hI4.p.buf.form
    simp only at q4 q1 hvb
    rw [hvb] at q4
    have q1' : w4.cell? ⟨K.R, i * 14 + 1, none⟩ = some (.int .i64 ((D.num : Int) + 1)) := by simpa using q1
    have HBUF : Hid (w4.ownsRow 0 85 3 (.slice adb D.es.length capb) D.es.length (D.es.flatMap Pe.cells)) := by rw [← hvb]; exact hI4.p.buf.own
    have HGB : Hid (∀ g cap2 w6, w6.ownsRow 0 85 3 (.slice (some ⟨g, 0, none⟩) (D.es.length + 1) cap2) (D.es.length + 1) (D.es.flatMap Pe.cells ++ [.int .i64 ((D.num : Int) + 1), .int .i64 org, .slice ad l.length cap]) → ∀ W : World, Below w4.heap.size w4 W → W.grownBy w6 (Value.slice adb D.es.length capb).ownBlock → ((Value.slice adb D.es.length capb).ownBlock = some g ∨ g = w4.heap.size + 1) → W.heap.size = w4.heap.size + 1 →
        w6.cell? ⟨K.R, i * 14 + 4, none⟩ = some (.slice adb D.es.length capb) ∧ w6.frozen? ⟨K.R, i * 14 + 4, none⟩ = false ∧ TakeMid w col o x i K (.slice ad l.length cap) l (fun D1 => D1 = { D with vl := vl1, bytes := D.bytes ++ bs, num := D.num + 1, n := D.n + l.length, M := addTo D.M l, vb := .slice (some ⟨g, 0, none⟩) (D.es.length + 1) cap2, es := D.es ++ [⟨D.num + 1, org, .slice ad l.length cap, l⟩] }) (w6.setCell ⟨K.R, i * 14 + 4, none⟩ (.slice (some ⟨g, 0, none⟩) (D.es.length + 1) cap2))) := by
      intro g cap2 w6 a1 W a2 a3 a4 a5
      rw [← hvb] at a3 a4
      obtain ⟨b1, b2, b3, b4⟩ := hI4.growBuf ⟨D.num + 1, org, .slice ad l.length cap, l⟩ hV4 a2 a1 a3 a4 a5
      simp only at b3
      rw [hvb] at b3
      exact ⟨b3, b4, TakeMid.go ho b1 rfl hF14 b2 hV4 hT4⟩
    obtain ⟨i1, hi1, hy0, hy1, hy2⟩ := info_parts infoEnt
    have hR4 := hI4.ltR
    have q4a := fun o => (Below.cell (p := ⟨K.R, i * 14 + 4, none⟩) (below_alloc (Below.refl _ w4) o) hR4).trans q4
    have q1a := fun o => (Below.cell (p := ⟨K.R, i * 14 + 1, none⟩) (below_alloc (Below.refl _ w4) o) hR4).trans q1'
    clear hI4 hF14 hV4 hT4 hvb q1
    go_wp2_with fail
    go_cut [] from 8 (fun wc => Hid (TakeMid w col o x i K (.slice ad l.length cap) l (fun D1 => ∃ vl vb, D1 = { D with vl := vl, bytes := D.bytes ++ bs, num := D.num + 1, n := D.n + l.length, M := addTo D.M l, vb := vb, es := D.es ++ [⟨D.num + 1, org, .slice ad l.length cap, l⟩] }) wc))
    case first =>
      go_region_law (refine step_append_lies _ rfl _ _ 81 rfl 0 85 i1 _ 3 40 Tryz.underlying81 hi1 hy0 hy1 hy2 rfl (by decide) _ D.es.length _ rfl (HBUF.out.alloc _) ⟨w4.heap.size, 0, none⟩ 1 1 [.int .i64 ((D.num : Int) + 1), .int .i64 org, .slice ad l.length cap] rfl rfl (World.news_of_block (heap_alloc_new w4 _)) three_oneP (by decide) (by unfold maxLen; omega) (by omega) (by simp) (w4.heap.size + 1) (by simp) ?_; intro g3 capn w6 hown3 hgrow3 hat3 hlt3; obtain ⟨k4, k4f, hmid⟩ := HGB.out g3 capn w6 hown3 (w4.alloc (.cells #[.int .i64 ((D.num : Int) + 1), .int .i64 org, .slice ad l.length cap] 85)) (below_alloc (Below.refl _ _) _) (grown_dry hgrow3) hat3 (by simp))
      all_goals go_wp2
      all_goals go_meet
      all_goals (case rel => exact ⟨_, _, hmid.choose_spec.choose_spec.1, ⟨_, _, hmid.choose_spec.choose_spec.2.1⟩, hmid.choose_spec.choose_spec.2.2⟩)
    case rest =>
      clear HGB HBUF q4 q1' q4a q1a hR4 hcb
      obtain ⟨col6, D6, hI6, ⟨vl6, vb6, rfl⟩, hF6, hV6, hT6⟩ := hcut
      generalize wc = w7 at *
      have hnum0 : ∃ n0, ((D.es ++ [(⟨D.num + 1, org, .slice ad l.length cap, l⟩ : Pe)]).head?.map (·.num)).getD 0 = n0 ∧ ((D.es ++ [(⟨D.num + 1, org, .slice ad l.length cap, l⟩ : Pe)])[0]?.map (·.num)) = some n0 := by
        cases D.es <;> exact ⟨_, rfl, rfl⟩
      obtain ⟨n0, hn0, hn0'⟩ := hnum0
      have HN0 : Hid (((D.es ++ [(⟨D.num + 1, org, .slice ad l.length cap, l⟩ : Pe)]).head?.map (·.num)).getD 0 = n0) := hn0
      have hel : (D.es ++ [(⟨D.num + 1, org, .slice ad l.length cap, l⟩ : Pe)]).length = D.es.length + 1 := by simp
      generalize hes6 : D.es ++ [(⟨D.num + 1, org, .slice ad l.length cap, l⟩ : Pe)] = es6 at *
      have HES : Hid (D.es ++ [(⟨D.num + 1, org, .slice ad l.length cap, l⟩ : Pe)] = es6) := hes6
      clear hes6 hn0
      obtain ⟨g, cap6, hvb, hc6, hm6, hg6, hcg6, hcell6, hfz6⟩ := hI6.p.buf.at (by simp only; omega)
      simp only at hvb hcell6
      subst hvb
      have q4 := hI6.cells.c4
      have q2 := hI6.cells.c2
      have qf := hI6.cells.fz
      simp only at q4 q2
      have hh0 : w7.cell? ⟨g, 0, none⟩ = some (.int .i64 n0) := by
        cases es6 with
        | nil => simp at hel
        | cons e es =>
          simp at hn0'
          subst hn0'
          exact hcell6 0 _ rfl
      rw [hel] at q4
      by_cases hroom : room < D.es.length + 1
      · have q5 : (room : Int) < (D.es.length : Int) + 1 := by omega
        obtain ⟨hI8, hF8⟩ := hI6.put (k := 2) (u := .int .i64 n0) (by omega) { D with vl := vl6, bytes := D.bytes ++ bs, num := D.num + 1, n := D.n + l.length, M := addTo D.M l, vb := .slice (some ⟨g, 0, none⟩) es6.length cap6, es := es6, base := n0 } rfl rfl rfl rfl rfl rfl rfl rfl
        have hdel := hI8.del (n := D.es.length) hel (by simp only; rw [hel])
        have HF8 : Hid (FrC (ofPrg o i) col col6 w (w7.setCell ⟨K.R, i * 14 + 2, none⟩ (.int .i64 n0))) := hF6.trans hF8
        clear hI6 hF6 hV6 hT6 hI8 hF8 hcell6 hn0'
        have HQ : Hid (∀ vb vl, ({ D with vl := vl, bytes := D.bytes ++ bs, num := D.num + 1, n := D.n + l.length, M := addTo D.M l, vb := vb, es := es6.drop 1, base := n0 } : PrD) = D.take room (.slice ad l.length cap) l org vb vl) := by
          intro vb vl
          unfold PrD.take
          rw [if_pos hroom, if_pos hroom, HES.out, HN0.out, HBS.out]
        go_wp2_with fail
        refine hdel.mono ?_
        rintro e w9 ⟨rfl, k4, k4f, hI9, hF9⟩
        clear hdel
        go_wp2
        go_end0
        exact ⟨rfl, col6, _, _, by rw [← HQ.out]; exact hI9.out, HF8.out.trans hF9.out⟩
      · have q5 : (D.es.length : Int) + 1 ≤ (room : Int) := by omega
        have HI6 : Hid (PrI w7 col6 o x i K { D with vl := vl6, bytes := D.bytes ++ bs, num := D.num + 1, n := D.n + l.length, M := addTo D.M l, vb := .slice (some ⟨g, 0, none⟩) es6.length cap6, es := es6 }) := hI6
        have HF6 : Hid (FrC (ofPrg o i) col col6 w w7) := hF6
        clear hI6 hF6 hV6 hT6 hcell6 hn0'
        have HQ : Hid (∀ vb vl, ({ D with vl := vl, bytes := D.bytes ++ bs, num := D.num + 1, n := D.n + l.length, M := addTo D.M l, vb := vb, es := es6 } : PrD) = D.take room (.slice ad l.length cap) l org vb vl) := by
          intro vb vl
          unfold PrD.take
          rw [if_neg hroom, if_neg hroom, HES.out, HBS.out]
        go_wp2
        go_end0
        exact ⟨rfl, col6, ⟨_, _, by rw [← HQ.out]; exact HI6.out⟩, HF6.out⟩
end Go.Proofs.YtahdlejgjcjeoabGreatDoor

namespace Go.Proofs.YtahdlejgjcjeoabGreatDoor
open Go.RowKit

/-- The program's cluster, and the model that it stands for. -/
structure PrgAt (w : World) (col : Col) (o x : Nat) (K : PrK) (c : Clu) : Prop where
  at_ : PrAt w col o x K
  is : K.is c
  n : ∀ i (h : i < K.Ds.length), (K.Ds[i]).n ≤ 4194304
theorem PrgAt.kept {w w' : World} {col col' : Col} {S : Nat × Nat → Prop} {o x : Nat} {K : PrK} {c : Clu} (h : PrgAt w col o x K c) (hf : FrC S col col' w w') (hS : ∀ k, ¬ S (o, k)) : PrgAt w' col' o x K c := ⟨h.at_.far hf hS, h.is, h.n⟩
theorem PrgAt.same {w w' : World} {col : Col} {o x : Nat} {K : PrK} {c : Clu} (h : PrgAt w col o x K c) (hb : Below w.heap.size w w') : PrgAt w' col o x K c := ⟨h.at_.same hb, h.is, h.n⟩

theorem PrI.norm {w : World} {col : Col} {o x i : Nat} {K : PrK} {D : PrD} {l V : List At} (h : PrI w col o x i K D) (hM : D.M = addTo (fun _ => none) l) (hs : ∀ a ∈ l, a ∈ V) : PrI w col o x i K { D with n := V.length } := by
  have hb := h.b.as { D with n := V.length } (fun hi => by rw [K.setD_at]; rfl)
  rw [K.setD_setD] at hb
  refine ⟨hb, ⟨?_, h.p.cb, h.p.buf, h.p.ed, h.p.log⟩, h.h6, h.hi⟩
  have := h.p.st
  show StMap w D.b V.length D.M
  rw [hM] at this ⊢
  exact this.shrinkU hs
/-- A call on replica i is over. -/
theorem PrI.done {w : World} {col : Col} {o x i : Nat} {K : PrK} {D : PrD} {c : Clu} {p : Rep} {V : List At} (h : PrI w col o x i K D) (hk : K.is c) (hn : ∀ j (h : j < K.Ds.length), (K.Ds[j]).n ≤ 4194304) (hD : D.is p) (hs : ∀ a ∈ p.atoms, a ∈ V) (hV : V.length ≤ 4194304) : ∃ K', PrgAt w col o x K' (c.setRep i p) ∧ K'.R = K.R := by
  refine ⟨K.setD i { D with n := V.length }, ⟨(h.norm hD.M hs).close, hk.set (by rw [← hk.len]; exact h.hi) ⟨hD.up, hD.num, hD.base, hD.M, hD.buf, hD.ak, hD.bytes, hD.frames, hD.weight⟩, fun j hj => ?_⟩, rfl⟩
  by_cases e : j = i
  · subst e
    rw [K.setD_at]
    exact hV
  · have hj' : j < K.Ds.length := by rw [← K.setD_len i { D with n := V.length }]; exact hj
    have h1 : (K.setD i { D with n := V.length }).Ds[j] = K.Ds[j] := List.getElem_set_ne (fun e' => e e'.symm) _
    rw [h1]
    exact hn j _

theorem recs_le {l : List Rec} {m : Nat} (h : ∀ r ∈ l, (recBytes r).length ≤ m) : ((l.map recBytes).flatten).length ≤ l.length * m := by
  induction l with
  | nil => simp
  | cons r l ih =>
    have h1 := h r (by simp)
    have h2 := ih fun x hx => h x (by simp [hx])
    rw [List.map_cons, List.flatten_cons, List.length_append, List.length_cons, Nat.add_mul]
    omega
theorem ToldMay.may {d : List At} (h : ToldMay d) : ∀ a ∈ d, mayB a = true := h.2
theorem log_len {U : List At} {N n room : Nat} {p : Rep} (h : p.ok U N n room) (hL : Lim U N) : (logBytes p).length ≤ 8796093022208 := by
  have hr : ∀ r : Rec, ToldMay r.d → (∀ a ∈ r.d, a ∈ U) → (recBytes r).length ≤ 2752541 := fun r h1 h2 => by
    have := recBytes_le r.kind r.num r.d h1.may
    have h3 := h1.length h2
    have h4 := hL.2
    have e : recBytes (⟨r.kind, r.num, r.d⟩ : Rec) = recBytes r := rfl
    rw [e] at this
    omega
  have h1 := recs_le (l := p.log) (m := 2752541) fun r hm => hr r (h.log r hm).1 (h.log r hm).2.1
  have h2 : p.torn.length ≤ 2752541 := by
    rcases h.torn with e | ⟨_, r, k, a1, a2, _, _, a3, e⟩
    · rw [e]; simp
    · rw [e, List.length_take]
      have := hr r a1 a2
      omega
  have h3 : p.log.length * 2752541 ≤ 2097153 * 2752541 := Nat.mul_le_mul_right _ (by have := h.logL; have := hL.1; omega)
  unfold logBytes
  rw [List.length_append]
  omega

theorem pe_last (D : PrD) (org : Nat) (v : Value) (l : List At) : (D.es ++ [(⟨D.num + 1, org, v, l⟩ : Pe)]).map Pe.ent = D.es.map Pe.ent ++ [⟨D.num + 1, org, l⟩] := by simp [Pe.ent]
theorem PrD.is.take {D : PrD} {p : Rep} {U : List At} {N n room : Nat} (h : D.is p) (hp : p.ok U N n room) (hr : 1 ≤ room) (hup : p.torn = []) (v : Value) (l : List At) (org : Nat) (vb vl : Value) : (D.take room v l org vb vl).is (p.take room l org) := by
  have hl : D.es.length = p.buf.length := by rw [← h.buf, List.length_map]
  rw [hp.take_eq l org hr]
  have hM : addTo D.M l = addTo (fun _ => none) (p.atoms ++ l) := by rw [addTo_append, h.M]
  have hB : D.bytes ++ recBytes ⟨1, D.num + 1, l⟩ = ((p.log ++ [(⟨1, p.num + 1, l⟩ : Rec)]).map recBytes).flatten ++ p.torn := by
    rw [h.bytes, h.num, logBytes, hup]
    simp
  by_cases hlt : room < p.buf.length + 1
  · rw [if_pos hlt]
    have hlt' : room < D.es.length + 1 := by omega
    refine ⟨h.up, by show D.num + 1 = p.num + 1; rw [h.num], ?_, hM, ?_, h.ak, hB, h.frames, h.weight⟩
    · show (if room < D.es.length + 1 then _ else _) = _
      rw [if_pos hlt', ← h.buf]
      cases hes : D.es with
      | nil => rw [hes] at hlt'; simp at hlt'; omega
      | cons e es => rfl
    · show (if room < D.es.length + 1 then _ else _ : List Pe).map Pe.ent = _
      rw [if_pos hlt', List.map_drop, pe_last, h.buf, h.num, List.drop_one]
  · rw [if_neg hlt]
    have hlt' : ¬ room < D.es.length + 1 := by omega
    refine ⟨h.up, by show D.num + 1 = p.num + 1; rw [h.num], ?_, hM, ?_, h.ak, hB, h.frames, h.weight⟩
    · show (if room < D.es.length + 1 then _ else _) = _
      rw [if_neg hlt']
      exact h.base
    · show (if room < D.es.length + 1 then _ else _ : List Pe).map Pe.ent = _
      rw [if_neg hlt', pe_last, h.buf, h.num]
      rfl
end Go.Proofs.YtahdlejgjcjeoabGreatDoor

namespace Go.Proofs.YtahdlejgjcjeoabGreatDoor
open Go.Shelf

def cloneText_ren : Go.Shelf.Ren := ⟨fun | 316 => 216 | n => n, fun | 9 => 9 | 3 => 3 | 4 => 4 | 37 => 124 | 0 => 0 | 127 => 291 | 5 => 5 | n => n, fun | n => n⟩

theorem cloneText : Go.Proofs.LaysM.n316 Tryz.prog cloneText_ren := {
  mixed := by kernel_rfl,
  f316 := Tryz.func216.trans (congrArg some (by kernel_rfl)),
  t0 := Tryz.underlying0,
  a0 := Tryz.isAgg0,
  z0 := Tryz.sizeOf0,
  v0 := Tryz.zeroValue0,
  t3 := Tryz.underlying3,
  a3 := Tryz.isAgg3,
  z3 := Tryz.sizeOf3,
  v3 := Tryz.zeroValue3,
  t4 := Tryz.underlying4,
  a4 := Tryz.isAgg4,
  z4 := Tryz.sizeOf4,
  v4 := Tryz.zeroValue4,
  t9 := Tryz.underlying9,
  a9 := Tryz.isAgg9,
  z9 := Tryz.sizeOf9,
  v9 := Tryz.zeroValue9,
  t37 := Tryz.underlying124,
  a37 := Tryz.isAgg124,
  z37 := Tryz.sizeOf124,
  v37 := Tryz.zeroValue124,
  t127 := Tryz.underlying291,
  a127 := Tryz.isAgg291,
  z127 := Tryz.sizeOf291,
  v127 := Tryz.zeroValue291,
  t5 := Tryz.underlying5,
  a5 := Tryz.isAgg5,
  z5 := Tryz.sizeOf5,
  v5 := Tryz.zeroValue5,
  i0 := by kernel_rfl,
  i3 := by kernel_rfl,
  i4 := by kernel_rfl,
  i5 := by kernel_rfl,
  i9 := by kernel_rfl,
  i37 := by kernel_rfl,
  i127 := by kernel_rfl }

end Go.Proofs.YtahdlejgjcjeoabGreatDoor
