/- Walks of the law's questions at a new cluster: read, replica. -/
import Derived.Test.YtahdlejgjcjeoaaGreatDoorP32
import Derived.Test.YtahdlejgjcjeoaaGreatDoorP05
import Derived.Test.YtahdlejgjcjeoaaGreatDoorP01
import Derived.Test.YtahdlejgjcjeoaaGreatDoorP14
import Derived.Test.YtahdlejgjcjeoaaGreatDoorP21
namespace Go.Proofs.YtahdlejgjcjeoaaGreatDoor
open Go.RowKit
section
variable {Z w w1 : World} {col : Col} {W x y B M : Nat} {KR : RefC} {KP : PrK} {cR cP : Clu}

theorem GSt.ownA (h : GSt Z w col W x y B M KR KP cR cP) (hM : M ≤ 15000000) (hb : Below w.heap.size w w1) {v : Value} {l : List At} (hv : w1.ownsRow w.heap.size 77 6 v l.length (flat l)) (hl : l.length ≤ 8388608) :
    Calls Tryz.prog 92 #[.pointer (some ⟨B, 0, none⟩), v] w1 fun e w' => e = .returned (.tuple #[]) ∧ GSt Z w' (paint col w.heap.size (3, 9)) W x y B (M + 4) KR KP cR cP := by
  obtain ⟨va, es, hk⟩ := h.bk
  have hs := hk.bk.sepNew hb hv
  refine (ownAtomsX B va v es w.heap.size l.length l w1 (hk.bk.below hb) hv rfl hb.size hs hl (by have := hk.len 0 (by decide); omega)).mono ?_
  rintro e w' ⟨rfl, vf, ef, hk', hlen, hin, hfr⟩
  have hF : FrC (ofOwn 3) col (paint col w.heap.size (3, 9)) w w' := ⟨((Fr.refl _ w).below hb).trans hfr.out (fun q hq hX => by
    rcases hX with rfl | hX | hX
    · exact hk.cB
    · have := owns_base hv q hX.symm; omega
    · exact hk.cv 0 (by decide) q hX.symm), fun q hq => paint_old col _ hq⟩
  refine ⟨rfl, h.book hF ⟨hk'.out, updF_len hk.len (by decide) hlen, ?_, fun f hf q hq => ?_, fun f hf p hp q hq => ?_⟩⟩
  · rw [paint_old col _ hk.bk.lt]; exact hk.cB
  · by_cases hl : q < w.heap.size
    · rw [paint_old col _ hl]
      by_cases ef' : f = 0
      · subst ef'
        rw [updF_same] at hq
        rcases hin.out.2 q hq with h2 | hX | hX | hX
        · have := hb.size; omega
        · rw [hX]; exact hk.cB
        · have := owns_base hv q hX.symm; omega
        · exact hk.cv 0 (by decide) q hX.symm
      · rw [updF_other _ _ ef'] at hq
        exact hk.cv f hf q hq
    · rw [paint_new col _ (by omega)]
  · by_cases hl : q < w.heap.size
    · rw [paint_old col _ hl]
      by_cases ef' : f = 0
      · subst ef'
        rw [updF_same] at hp
        rcases hin.out.1 p hp with h1 | h1
        · exact hk.ce 0 (by decide) p h1 q hq
        · rcases h1 q hq with h2 | h2
          · have := hb.size; omega
          · have := owns_base hv q h2.symm; omega
      · rw [updF_other _ _ ef'] at hp
        exact hk.ce f hf p hp q hq
    · rw [paint_new col _ (by omega)]

theorem GSt.ownI (h : GSt Z w col W x y B M KR KP cR cP) (hM : M ≤ 15000000) (hb : Below w.heap.size w w1) {v : Value} {m : Nat} {l : List Value} (hv : w1.ownsRow w.heap.size 3 1 v m l) (hl : m ≤ 8388608) :
    Calls Tryz.prog 136 #[.pointer (some ⟨B, 0, none⟩), v] w1 fun e w' => e = .returned (.tuple #[]) ∧ GSt Z w' (paint col w.heap.size (3, 9)) W x y B (M + 4) KR KP cR cP := by
  obtain ⟨va, es, hk⟩ := h.bk
  have hs := hk.bk.sepNew hb hv
  refine (ownInts_X B va v es w.heap.size m l w1 (hk.bk.below hb) hv hb.size hs hl (by have := hk.len 1 (by decide); omega)).mono ?_
  rintro e w' ⟨rfl, vf, ef, hk', hlen, hin, hfr⟩
  have hF : FrC (ofOwn 3) col (paint col w.heap.size (3, 9)) w w' := ⟨((Fr.refl _ w).below hb).trans hfr.out (fun q hq hX => by
    rcases hX with rfl | hX | hX
    · exact hk.cB
    · have := owns_base hv q hX.symm; omega
    · exact hk.cv 1 (by decide) q hX.symm), fun q hq => paint_old col _ hq⟩
  refine ⟨rfl, h.book hF ⟨hk'.out, updF_len hk.len (by decide) hlen, ?_, fun f hf q hq => ?_, fun f hf p hp q hq => ?_⟩⟩
  · rw [paint_old col _ hk.bk.lt]; exact hk.cB
  · by_cases hl : q < w.heap.size
    · rw [paint_old col _ hl]
      by_cases ef' : f = 1
      · subst ef'
        rw [updF_same] at hq
        rcases hin.out.2 q hq with h2 | hX | hX | hX
        · have := hb.size; omega
        · rw [hX]; exact hk.cB
        · have := owns_base hv q hX.symm; omega
        · exact hk.cv 1 (by decide) q hX.symm
      · rw [updF_other _ _ ef'] at hq
        exact hk.cv f hf q hq
    · rw [paint_new col _ (by omega)]
  · by_cases hl : q < w.heap.size
    · rw [paint_old col _ hl]
      by_cases ef' : f = 1
      · subst ef'
        rw [updF_same] at hp
        rcases hin.out.1 p hp with h1 | h1
        · exact hk.ce 1 (by decide) p h1 q hq
        · rcases h1 q hq with h2 | h2
          · have := hb.size; omega
          · have := owns_base hv q h2.symm; omega
      · rw [updF_other _ _ ef'] at hp
        exact hk.ce f hf p hp q hq
    · rw [paint_new col _ (by omega)]

theorem GSt.ownT (h : GSt Z w col W x y B M KR KP cR cP) (hM : M ≤ 15000000) (hb : Below w.heap.size w w1) {v : Value} {m : Nat} {l : List Value} (hv : w1.ownsRow w.heap.size 9 1 v m l) (hl : m ≤ 8388608) :
    Calls Tryz.prog 127 #[.pointer (some ⟨B, 0, none⟩), v] w1 fun e w' => e = .returned (.tuple #[]) ∧ GSt Z w' (paint col w.heap.size (3, 9)) W x y B (M + 4) KR KP cR cP := by
  obtain ⟨va, es, hk⟩ := h.bk
  have hs := hk.bk.sepNew hb hv
  refine (ownTexts_X B va v es w.heap.size m l w1 (hk.bk.below hb) hv hb.size hs hl (by have := hk.len 2 (by decide); omega)).mono ?_
  rintro e w' ⟨rfl, vf, ef, hk', hlen, hin, hfr⟩
  have hF : FrC (ofOwn 3) col (paint col w.heap.size (3, 9)) w w' := ⟨((Fr.refl _ w).below hb).trans hfr.out (fun q hq hX => by
    rcases hX with rfl | hX | hX
    · exact hk.cB
    · have := owns_base hv q hX.symm; omega
    · exact hk.cv 2 (by decide) q hX.symm), fun q hq => paint_old col _ hq⟩
  refine ⟨rfl, h.book hF ⟨hk'.out, updF_len hk.len (by decide) hlen, ?_, fun f hf q hq => ?_, fun f hf p hp q hq => ?_⟩⟩
  · rw [paint_old col _ hk.bk.lt]; exact hk.cB
  · by_cases hl : q < w.heap.size
    · rw [paint_old col _ hl]
      by_cases ef' : f = 2
      · subst ef'
        rw [updF_same] at hq
        rcases hin.out.2 q hq with h2 | hX | hX | hX
        · have := hb.size; omega
        · rw [hX]; exact hk.cB
        · have := owns_base hv q hX.symm; omega
        · exact hk.cv 2 (by decide) q hX.symm
      · rw [updF_other _ _ ef'] at hq
        exact hk.cv f hf q hq
    · rw [paint_new col _ (by omega)]
  · by_cases hl : q < w.heap.size
    · rw [paint_old col _ hl]
      by_cases ef' : f = 2
      · subst ef'
        rw [updF_same] at hp
        rcases hin.out.1 p hp with h1 | h1
        · exact hk.ce 2 (by decide) p h1 q hq
        · rcases h1 q hq with h2 | h2
          · have := hb.size; omega
          · have := owns_base hv q h2.symm; omega
      · rw [updF_other _ _ ef'] at hp
        exact hk.ce f hf p hp q hq
    · rw [paint_new col _ (by omega)]
end
end Go.Proofs.YtahdlejgjcjeoaaGreatDoor

namespace Go.Proofs.YtahdlejgjcjeoaaGreatDoor
open Go.RowKit
section
variable {Z w : World} {col : Col} {W x y B M N : Nat} {U : List At} {KR : RefC} {KP : PrK} {c : Clu}

theorem ok_tell (hok : c.ok U N) (hL : Lim U N) {r : Int} (hw : c.works r = 0) : (∀ a ∈ tell (c.rep r.toNat).atoms, short a) ∧ (tell (c.rep r.toNat).atoms).length ≤ 131072 := by
  rcases works_cases c r with ⟨h5, _⟩ | ⟨i, rfl, hi, _⟩
  · rw [h5] at hw; cases hw
  have hrep := hok.rep hi
  have htt := tell_told (c.rep i).atoms
  exact ⟨fun a ha => short_of_may (hok.may a (hrep.sub a (htt.great a ha).1)), Nat.le_trans (length_le_of_sub (sorted_ne htt.sorted) (fun a ha => hrep.sub a (htt.great a ha).1)) hL.2⟩
theorem works_val (c : Clu) (r : Int) : c.works r = 0 ∨ c.works r = 5 ∨ c.works r = 8 := by
  rcases works_cases c r with ⟨h, _⟩ | ⟨i, rfl, hi, ⟨h, _⟩ | ⟨h, _⟩⟩ <;> simp [h]

set_option maxRecDepth 100000 in
set_option maxHeartbeats 1000000 in
theorem GSt.lState (h : GSt Z w col W x y B M KR KP c c) (hok : c.ok U N) (hL : Lim U N) (hM : M ≤ 15000000) (r : Int) :
    Calls Tryz.prog 84 #[.pointer (some ⟨W, 0, none⟩), .int .i64 r] w fun e w' => e = .returned (.bool true) ∧ ∃ col', GSt Z w' col' W x y B (M + 4) KR KP c c := by
  have c0 := blk_cell h.wb 0
  simp at c0
  have HN := Hid.mk h
  have hE := works_val c r
  have HLEN : Hid ((if c.works r = 0 then tell (c.rep r.toNat).atoms else []).length ≤ 131072) := by
    show _ ≤ _
    split
    · rename_i hw; exact (ok_tell hok hL hw).2
    · exact Nat.zero_le _
  have HP := Hid.mk (prgState h.prg (by decide) h.tab hok r)
  have HD := Hid.mk (fun W' (h' : GSt Z W' col W x y B M KR KP c c) => refState h'.ref hok hL r)
  clear h hok hL
  generalize (if c.works r = 0 then tell (c.rep r.toNat).atoms else []) = T at *
  generalize c.works r = E at *
  go_enter Tryz.func84, Tryz.ntmps84
  go_wp2_with fail
  refine HP.out.mono ?_
  rintro e w1 ⟨v1, out1, rfl, ho1, he1, hv1, hb1⟩
  have HN1 := Hid.mk (HN.out.same hb1)
  have c1 := blk_cell HN1.out.wb 1
  simp at c1
  obtain ⟨ad1, cp1, hf1⟩ := own_form ho1
  subst hf1
  go_wp2_with fail
  refine (HD.out _ HN1.out).mono ?_
  rintro e w2 ⟨v2, out2, rfl, ho2, he2, hb2⟩
  have HN2 := Hid.mk (HN1.out.same hb2)
  have c2 := blk_cell HN2.out.wb 2
  simp at c2
  obtain ⟨ad2, cp2, hf2⟩ := own_form ho2
  subst hf2
  have e12 : out2 = out1 := he2.out.trans he1.out.symm
  subst e12
  have hlen := HLEN.out
  rw [← he1.out] at hlen
  have hsame := sameAtoms_any (.slice ad1 out2.length cp1) (.slice ad2 out2.length cp2) out2 w2 (sliceOf_owns rfl (owns_below ho1 hb2)) (sliceOf_owns rfl ho2) (by omega)
  have HSM := Hid.mk hsame
  have HO := Hid.mk (owns_below ho1 hb2)
  have HB := Hid.mk (hb1.trans (hb2.mono hb1.size))
  clear hsame ho1 ho2 hb1 hb2 c0 c1 he1 he2 HLEN
  go_wp2_with fail
  refine HSM.out.mono ?_
  rintro e w3 ⟨rfl, hb3⟩
  have HN3 := Hid.mk (HN2.out.same hb3)
  have c2' := blk_cell HN3.out.wb 2
  simp at c2'
  have hbw : Below w.heap.size w w3 := HB.out.trans (hb3.mono HB.out.size)
  have HC := Hid.mk (HN.out.ownA hM hbw (v := .slice ad1 out2.length cp1) (l := out2) (owns_below HO.out hb3) (by omega))
  clear hb3 hbw c2 HP HD HSM HO HB HN HN1 HN2
  rcases hE with rfl | rfl | rfl
  · clear hv1
    go_wp2_with fail
    refine HC.out.mono ?_
    rintro e w4 ⟨rfl, hn4⟩
    have HR := Hid.mk hn4
    clear HC hn4
    go_wp2
    go_ret
    exact ⟨rfl, _, HR.out⟩
  all_goals
    have hvv := hv1.out (by decide)
    obtain ⟨rfl, rfl, hl0⟩ : ad1 = none ∧ cp1 = 0 ∧ out2.length = 0 := by injection hvv with e1 e2 e3; exact ⟨e1, e3, e2⟩
    rw [hl0] at HC ⊢
    clear hv1 hvv
    go_wp2_with fail
    refine HC.out.mono ?_
    rintro e w4 ⟨rfl, hn4⟩
    have HR := Hid.mk hn4
    clear HC hn4
    go_wp2
    go_ret
    exact ⟨rfl, _, HR.out⟩

set_option maxRecDepth 100000 in
set_option maxHeartbeats 1000000 in
theorem GSt.lLog (h : GSt Z w col W x y B M KR KP c c) (hok : c.ok U N) (hL : Lim U N) (r : Int) :
    Calls Tryz.prog 87 #[.pointer (some ⟨W, 0, none⟩), .int .i64 r] w fun e w' => e = .returned (.bool true) ∧ GSt Z w' col W x y B M KR KP c c := by
  have c0 := blk_cell h.wb 0
  simp at c0
  have HP := Hid.mk (prgLog h.prg r)
  have HD := Hid.mk (fun W' (h' : GSt Z W' col W x y B M KR KP c c) => refLog h'.ref hok hL r)
  have HN := Hid.mk h
  clear h hok hL
  generalize c.thereErr r = E at *
  generalize bstr (logBytes (c.repAt r)) = T at *
  go_enter Tryz.func87, Tryz.ntmps87
  go_wp2_with fail
  refine HP.out.mono ?_
  rintro e w1 ⟨rfl, hb1⟩
  have HN1 := Hid.mk (HN.out.same hb1)
  have c1 := blk_cell HN1.out.wb 1
  simp at c1
  clear hb1
  go_wp2_with fail
  refine (HD.out _ HN1.out).mono ?_
  rintro e w2 ⟨rfl, hb2⟩
  have HN2 := Hid.mk (HN1.out.same hb2)
  clear hb2
  go_wp2
  go_ret
  exact ⟨by simp, HN2.out⟩

set_option maxRecDepth 100000 in
theorem GSt.lFlight (h : GSt Z w col W x y B M KR KP c c) :
    Calls Tryz.prog 43 #[.pointer (some ⟨W, 0, none⟩)] w fun e w' => e = .returned (.bool true) ∧ GSt Z w' col W x y B M KR KP c c := by
  have c0 := blk_cell h.wb 0
  simp at c0
  have HP := Hid.mk (prgFlightC h.prg)
  have HN := Hid.mk h
  clear h
  go_enter Tryz.func43, Tryz.ntmps43
  go_wp2_with fail
  refine HP.out.mono ?_
  rintro e w1 ⟨rfl, hb1⟩
  have HN1 := Hid.mk (HN.out.same hb1)
  have c1 := blk_cell HN1.out.wb 1
  simp at c1
  have HD := Hid.mk (refFlight HN1.out.ref)
  clear hb1
  go_wp2_with fail
  refine HD.out.mono ?_
  rintro e w2 ⟨rfl, rfl⟩
  go_wp2
  go_ret
  exact ⟨by simp, HN1.out⟩
end
end Go.Proofs.YtahdlejgjcjeoaaGreatDoor

namespace Go.Proofs.YtahdlejgjcjeoaaGreatDoor
open Go.RowKit

/-- A slice of these texts. -/
def StrsOf (w : World) (v : Value) (l : List ByteArray) : Prop :=
  ∃ ad cap, v = .slice ad l.length cap ∧ (0 < l.length → ∃ b off, ad = some ⟨b, off, none⟩ ∧ b < w.heap.size ∧ ∀ i (h : i < l.length), w.cell? ⟨b, off + i, none⟩ = some (.string l[i]))
theorem strsOf_owns {w : World} {base : Nat} {e : TypeId} {v : Value} {l : List ByteArray} (h : w.ownsRow base e 1 v l.length (l.map Value.string)) : StrsOf w v l := by
  rcases h.2 with ⟨rfl, h0⟩ | ⟨g, cap, cur, rfl, hg, hb, h1, h2, h3, h4⟩
  · exact ⟨none, 0, by rw [h0], fun h => by omega⟩
  · refine ⟨_, cap, rfl, fun _ => ⟨g, 0, rfl, (Array.getElem?_eq_some_iff.1 hb).1, fun i hi => ?_⟩⟩
    have hx : (l.map Value.string)[i]? = some (.string l[i]) := by simp [hi]
    rw [← h4, List.getElem?_take, if_pos (by omega), Array.getElem?_toList] at hx
    rw [Nat.zero_add]
    simp [World.cell?, hb, hx]

set_option maxRecDepth 100000 in
set_option maxHeartbeats 1000000 in
theorem sameValues_any (n : Int) (v1 v2 : Value) (l : List ByteArray) (w : World) (h1 : StrsOf w v1 l) (h2 : StrsOf w v2 l) (hlen : l.length ≤ 281474976710656) :
    Calls Tryz.prog 94 #[.agg #[.int .i64 n, v1], .agg #[.int .i64 n, v2]] w fun e w' => e = .returned (.bool true) ∧ Below w.heap.size w w' := by
  obtain ⟨ad1, cap1, rfl, H1⟩ := h1
  obtain ⟨ad2, cap2, rfl, H2⟩ := h2
  have HR1 : Hid (0 < l.length → ∃ b off, ad1 = some ⟨b, off, none⟩ ∧ b < w.heap.size ∧ ∀ i (h : i < l.length), w.cell? ⟨b, off + i, none⟩ = some (.string l[i])) := H1
  have HR2 : Hid (0 < l.length → ∃ b off, ad2 = some ⟨b, off, none⟩ ∧ b < w.heap.size ∧ ∀ i (h : i < l.length), w.cell? ⟨b, off + i, none⟩ = some (.string l[i])) := H2
  clear H1 H2
  go_enter Tryz.func94, Tryz.ntmps94
  go_wp2
  have hb0 := below_alloc (below_alloc (Below.refl _ w) (.cells #[.int .i64 n, .slice ad1 l.length cap1] 98)) (.cells #[.int .i64 n, .slice ad2 l.length cap2] 98)
  have k1 : ((w.alloc (.cells #[.int .i64 n, .slice ad1 l.length cap1] 98)).alloc (.cells #[.int .i64 n, .slice ad2 l.length cap2] 98)).cell? ⟨w.heap.size, 1, none⟩ = some (.slice ad1 l.length cap1) := by simp
  have k2 : ((w.alloc (.cells #[.int .i64 n, .slice ad1 l.length cap1] 98)).alloc (.cells #[.int .i64 n, .slice ad2 l.length cap2] 98)).cell? ⟨w.heap.size + 1, 1, none⟩ = some (.slice ad2 l.length cap2) := by simp
  have hz : ((w.alloc (.cells #[.int .i64 n, .slice ad1 l.length cap1] 98)).alloc (.cells #[.int .i64 n, .slice ad2 l.length cap2] 98)).heap.size = w.heap.size + 1 + 1 := by simp
  generalize (w.alloc (.cells #[.int .i64 n, .slice ad1 l.length cap1] 98)).alloc (.cells #[.int .i64 n, .slice ad2 l.length cap2] 98) = w0 at *
  have HK1 : Hid (w0.cell? ⟨w.heap.size, 1, none⟩ = some (.slice ad1 l.length cap1)) := k1
  have HK2 : Hid (w0.cell? ⟨w.heap.size + 1, 1, none⟩ = some (.slice ad2 l.length cap2)) := k2
  clear k1 k2
  go_loopw [5] (fun j wr => ∃ k : Nat, k ≤ l.length ∧ j = .int .i64 k ∧ Below w0.heap.size w0 wr) (fun j _ => l.length - (intOf j).toNat)
  case atStart => exact ⟨0, Nat.zero_le _, rfl, Below.refl _ _⟩
  case round =>
    obtain ⟨k, hk, rfl, hbw⟩ := hrel
    have k1 : wr.cell? ⟨w.heap.size, 1, none⟩ = some (.slice ad1 l.length cap1) := by rw [hbw.cell (p := ⟨w.heap.size, 1, none⟩) (by simp only; omega)]; exact HK1.out
    have k2 : wr.cell? ⟨w.heap.size + 1, 1, none⟩ = some (.slice ad2 l.length cap2) := by rw [hbw.cell (p := ⟨w.heap.size + 1, 1, none⟩) (by simp only; omega)]; exact HK2.out
    have hbb : Below w.heap.size w wr := hb0.trans (hbw.mono hb0.size)
    by_cases hl : k < l.length
    · obtain ⟨b1, off1, rfl, hb1, hrow1⟩ := HR1.out (by omega)
      obtain ⟨b2, off2, rfl, hb2, hrow2⟩ := HR2.out (by omega)
      have c0 : wr.cell? ⟨b1, off1 + k, none⟩ = some (.string l[k]) := by rw [hbb.cell (p := ⟨b1, off1 + k, none⟩) hb1]; exact hrow1 k hl
      have d0 : wr.cell? ⟨b2, off2 + k, none⟩ = some (.string l[k]) := by rw [hbb.cell (p := ⟨b2, off2 + k, none⟩) hb2]; exact hrow2 k hl
      clear hrow1 hrow2 HR1 HR2 HK1 HK2
      generalize l[k] = x at *
      have q1 : (0 : Int) ≤ (k : Int) := by omega
      have q2 : (k : Int) < (l.length : Int) := by omega
      go_wp2
      go_quiet (fail)
      go_wp2
      exact ⟨⟨k + 1, by omega, by go_num, below_drewN hbw _⟩, by simp [intOf]; omega⟩
    · go_wp2
      go_ret
      exact ⟨rfl, hbb⟩
end Go.Proofs.YtahdlejgjcjeoaaGreatDoor

namespace Go.Proofs.YtahdlejgjcjeoaaGreatDoor
open Go.RowKit

theorem ReadSpec.length {l : List At} {kind : Int} {key : ByteArray} {n : Int} {es : List ByteArray} (h : ReadSpec l kind key n es) (hlen : l.length ≤ 4194304) : es.length ≤ 4194304 := by
  rcases h with ⟨_, _, T, hT, _, rfl⟩ | ⟨_, _, rfl⟩
  · have h1 := valE_length T T kind key
    have h2 := told_len hT
    omega
  · simp

end Go.Proofs.YtahdlejgjcjeoaaGreatDoor

namespace Go.Proofs.YtahdlejgjcjeoaaGreatDoor
open Go.RowKit

/-- The error of a question about a replica. -/
def er (n : Nat) (r : Int) : Int := if 0 ≤ r ∧ r < n then 0 else 5
section
variable {rm n : Nat} {bp rr : Bool} {f : Nat → Nat → Bool}
end
section
variable {w0 w : World} {B0 W x y R n B rm M : Nat} {bp rr : Bool} {f : Nat → Nat → Bool} {col : Col} {K : RefC}
end
end Go.Proofs.YtahdlejgjcjeoaaGreatDoor

namespace Go.Proofs.YtahdlejgjcjeoaaGreatDoor
open Go.RowKit

section
variable {w0 w : World} {B0 W x y R n B rm M : Nat} {bp rr : Bool} {f : Nat → Nat → Bool} {col : Col} {K : RefC}
end
end Go.Proofs.YtahdlejgjcjeoaaGreatDoor

namespace Go.Proofs.YtahdlejgjcjeoaaGreatDoor
open Go.RowKit

section
variable {w0 w : World} {B0 W x y R n B rm M : Nat} {bp rr : Bool} {f : Nat → Nat → Bool} {col : Col} {K : RefC}
end
end Go.Proofs.YtahdlejgjcjeoaaGreatDoor

namespace Go.Proofs.YtahdlejgjcjeoaaGreatDoor
open Go.RowKit

/-- A slice of these numbers. -/
def IntsOf (w : World) (v : Value) (l : List Nat) : Prop :=
  ∃ ad cap, v = .slice ad l.length cap ∧ (0 < l.length → ∃ b off, ad = some ⟨b, off, none⟩ ∧ b < w.heap.size ∧ ∀ i (h : i < l.length), w.cell? ⟨b, off + i, none⟩ = some (.int .i64 (l[i] : Nat)))
theorem intsOf_owns {w : World} {base : Nat} {e : TypeId} {v : Value} {l : List Nat} (h : w.ownsRow base e 1 v l.length (ints l)) : IntsOf w v l := by
  rcases h.2 with ⟨rfl, h0⟩ | ⟨g, cap, cur, rfl, hg, hb, h1, h2, h3, h4⟩
  · exact ⟨none, 0, by rw [h0], fun h => by omega⟩
  · refine ⟨_, cap, rfl, fun _ => ⟨g, 0, rfl, (Array.getElem?_eq_some_iff.1 hb).1, fun i hi => ?_⟩⟩
    have hx : (ints l)[i]? = some (.int .i64 (l[i] : Nat)) := by simp [ints, hi]
    rw [← h4, List.getElem?_take, if_pos (by omega), Array.getElem?_toList] at hx
    rw [Nat.zero_add]
    simp [World.cell?, hb, hx]
set_option maxRecDepth 100000 in
theorem sameInts_any (v1 v2 : Value) (l : List Nat) (w : World) (h1 : IntsOf w v1 l) (h2 : IntsOf w v2 l) (hlen : l.length ≤ 281474976710656) :
    Calls Tryz.prog 135 #[v1, v2] w fun e w' => e = .returned (.bool true) ∧ Below w.heap.size w w' := by
  obtain ⟨ad1, cap1, rfl, H1⟩ := h1
  obtain ⟨ad2, cap2, rfl, H2⟩ := h2
  have HR1 := Hid.mk H1
  have HR2 := Hid.mk H2
  clear H1 H2
  go_enter Tryz.func135, Tryz.ntmps135
  go_wp2
  go_loopw [5] (fun j wr => ∃ k : Nat, k ≤ l.length ∧ j = .int .i64 k ∧ Below w.heap.size w wr) (fun j _ => l.length - (intOf j).toNat)
  case atStart => exact ⟨0, Nat.zero_le _, rfl, Below.refl _ _⟩
  case round =>
    obtain ⟨k, hk, rfl, hbw⟩ := hrel
    by_cases hl : k < l.length
    · obtain ⟨b1, off1, rfl, hb1, hrow1⟩ := HR1.out (by omega)
      obtain ⟨b2, off2, rfl, hb2, hrow2⟩ := HR2.out (by omega)
      have c0 := (hbw.cell (p := ⟨b1, off1 + k, none⟩) hb1).trans (hrow1 k hl)
      have d0 := (hbw.cell (p := ⟨b2, off2 + k, none⟩) hb2).trans (hrow2 k hl)
      clear hrow1 hrow2 HR1 HR2
      generalize ((l[k] : Nat) : Int) = x at *
      have q1 : (0 : Int) ≤ (k : Int) := by omega
      have q2 : (k : Int) < (l.length : Int) := by omega
      go_wp2
      go_quiet (fail)
      go_wp2
      exact ⟨⟨k + 1, by omega, by go_num, below_drewN hbw _⟩, by simp [intOf]; omega⟩
    · go_wp2
      go_ret
      exact ⟨rfl, hbw⟩

section
variable {w0 w : World} {B0 W x y R n B rm M : Nat} {bp rr : Bool} {f : Nat → Nat → Bool} {col : Col} {K : RefC}
end
end Go.Proofs.YtahdlejgjcjeoaaGreatDoor
