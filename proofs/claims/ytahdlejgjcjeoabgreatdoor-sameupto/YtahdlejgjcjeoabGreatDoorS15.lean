/- Walks of the program's reader. -/
import Derived.Test.YtahdlejgjcjeoabGreatDoorS03
import Derived.Test.YtahdlejgjcjeoabGreatDoorS01
import Derived.Test.YtahdlejgjcjeoabGreatDoorS14
import Derived.Lib.ConvBytes
import Derived.Laws.BitsLemmas
namespace Go.Proofs.YtahdlejgjcjeoabGreatDoor
open Go.RowKit

theorem bstr_extract (l : List UInt8) (a b : Nat) : (bstr l).extract a b = bstr ((l.drop a).take (b - a)) := by
  apply ByteArray.ext
  apply Array.toList_inj.1
  rw [Go.Lib.extract_data]
  rfl

theorem grownBy_set (w : World) (b : Nat) (u : Value) : w.grownBy (w.setCell ⟨b, 0, none⟩ u) (some b) :=
  ⟨rfl, rfl, rfl, by simp, fun k _ hk => Below.heap_setCell _ _ _ k (fun e => hk (by rw [e]))⟩

/-- The reader in block rb has these bytes left. -/
def RdAt (w : World) (rb : Nat) (l : List UInt8) : Prop := w.cell? ⟨rb, 0, none⟩ = some (.string (bstr l)) ∧ w.frozen? ⟨rb, 0, none⟩ = false

set_option maxRecDepth 100000 in
set_option maxHeartbeats 1000000 in
theorem take_any (rb : Nat) (l : List UInt8) (n : Nat) (w : World) (hr : RdAt w rb l) (hl : l.length ≤ 1099511627776) (hn : n ≤ 1099511627776) :
    Calls Tryz.prog 164 #[.pointer (some ⟨rb, 0, none⟩), .int .i64 n] w fun e w' => e = .returned (.string (bstr (l.take n))) ∧ Hid (RdAt w' rb (l.drop n)) ∧ w.grownBy w' (some rb) := by
  obtain ⟨c0, f0⟩ := hr
  have hsz := bstr_size l
  go_enter Tryz.func164, Tryz.ntmps164
  go_wp2
  go_ret
  have hm : (max (0 : Int) (min (n : Int) (l.length : Int))).toNat = min n l.length := by omega
  rw [hm]
  have e1 : (bstr l).extract 0 (min n l.length) = bstr (l.take n) := by
    rw [bstr_extract, List.drop_zero, Nat.sub_zero]
    congr 1
    rw [← List.take_take, List.take_length]
  have e2 : (bstr l).extract (min n l.length) l.length = bstr (l.drop n) := by
    rw [bstr_extract]
    congr 1
    by_cases h : n ≤ l.length
    · rw [Nat.min_eq_left h]
      exact List.take_of_length_le (by simp)
    · rw [Nat.min_eq_right (by omega), List.drop_length, List.drop_of_length_le (by omega)]
      simp
  refine ⟨by rw [← e1]; rfl, ?_, grownBy_set _ _ _⟩
  rw [e2]
  exact ⟨World.cell?_setCell_same _ _ _ c0, by rw [World.frozen?_setCell]; exact f0⟩
theorem wrap_small2 {x : Int} (h0 : 0 ≤ x) (h1 : x < 2 ^ 63) : IntKind.i64.wrap x = x := by
  simp [IntKind.wrap, IntKind.signed, IntKind.bits]
  omega
theorem bytes_grown (w : World) (e : TypeId) (s : ByteArray) (row : Option Nat) : w.grownBy (Go.Lib.bytesWorld w e s) row :=
  ⟨rfl, rfl, rfl, by rw [Go.Lib.bytesWorld_size]; omega, fun i hi _ => Go.Lib.bytesWorld_at_old w e s i hi⟩
theorem RdAt.lt {w : World} {rb : Nat} {l : List UInt8} (h : RdAt w rb l) : rb < w.heap.size := by
  have c0 := h.1
  have : w.heap[rb]? ≠ none := by
    intro hn
    unfold World.cell? at c0
    simp [hn] at c0
  have := mt Array.getElem?_eq_none this
  omega
theorem RdAt.of_block {w w' : World} {rb : Nat} {l : List UInt8} (h : RdAt w rb l) (hb : w'.heap[rb]? = w.heap[rb]?) : RdAt w' rb l :=
  ⟨by rw [World.cell?_of_block (w := w) (a := ⟨rb, 0, none⟩) hb]; exact h.1, by rw [World.frozen?_of_block (w := w) (a := ⟨rb, 0, none⟩) hb]; exact h.2⟩
theorem RdAt.bytes {w : World} {rb : Nat} {l : List UInt8} {e : TypeId} {s : ByteArray} (h : RdAt w rb l) : RdAt (Go.Lib.bytesWorld w e s) rb l := h.of_block (Go.Lib.bytesWorld_at_old w e s rb h.lt)

set_option maxRecDepth 100000 in
set_option maxHeartbeats 1000000 in
theorem number_any (rb : Nat) (l : List UInt8) (wd : Nat) (w : World) (hr : RdAt w rb l) (hl : l.length ≤ 1099511627776) (hw : wd ≤ 4) :
    Calls Tryz.prog 162 #[.pointer (some ⟨rb, 0, none⟩), .int .i64 wd] w fun e w' => e = .returned (.int .i64 (num (l.take wd))) ∧ Hid (RdAt w' rb (l.drop wd)) ∧ w.grownBy w' (some rb) := by
  have hc := take_any rb l wd w hr hl (by omega)
  have hlt : (l.take wd).length ≤ 4 := by rw [List.length_take]; omega
  clear hr
  generalize l.take wd = t at *
  have hcv : ∀ W, (convert 9 124 (.string (bstr t))).run Tryz.prog W = .ok (.slice (some ⟨W.heap.size, 0, none⟩) t.length (grownCap W t.length 0 5)) (Go.Lib.bytesWorld W 5 (bstr t)) := fun W => by
    rw [← bstr_size t]
    exact Go.Lib.run_convert_string_bytes W 9 124 5 (bstr t) Tryz.underlying9 Tryz.underlying124 Tryz.underlying5
  go_enter Tryz.func162, Tryz.ntmps162
  go_wp2_with fail
  refine hc.mono ?_
  rintro e w1 ⟨rfl, hrd, hg⟩
  clear hc
  go_wp2
  go_loopw [5, 13] (fun s5 j wr => ∃ i : Nat, i ≤ t.length ∧ j = .int .i64 i ∧ s5 = .int .i64 (num (t.take i)) ∧ wr = Go.Lib.bytesWorld w1 5 (bstr t)) (fun _ j _ => t.length - (intOf j).toNat)
  case atStart => exact ⟨0, Nat.zero_le _, rfl, rfl, rfl⟩
  case round =>
    obtain ⟨i, hi, rfl, rfl, rfl⟩ := hrel
    by_cases hil : i < t.length
    · have hcell := Go.Lib.bytesWorld_cell w1 5 (bstr t) i (by rw [bstr_size]; exact hil)
      rw [bstr_data] at hcell
      have hts : t.take (i + 1) = t.take i ++ [t.getD i 0] := by
        rw [List.take_succ_eq_append_getElem hil]
        simp [List.getD, hil]
      have hm := num_le (t.take i) 3 (by rw [List.length_take]; omega)
      have hsn := num_snoc (t.take i) (t.getD i 0)
      rw [← hts] at hsn
      have HSN : Hid (num (t.take (i + 1)) = num (t.take i) * 256 + (t.getD i 0).toNat) := hsn
      have hb256 : (t.getD i 0).toNat < 256 := (t.getD i 0).toNat_lt
      generalize t.getD i 0 = b at *
      generalize num (t.take i) = m at *
      generalize b.toNat = bn at *
      have HOR : Hid (bits .or .i64 ((m : Int) * 256) (bn : Int) = (m : Int) * 256 + bn) := bits_join .i64 63 (by decide) (fun n h0 h1 => wrap_small2 h0 h1) 8 _ _ (by omega) (by omega) (by omega) (by omega) (by omega) (by omega)
      clear hts hsn
      go_wp2
      exact ⟨⟨i + 1, by omega, by go_num, by rw [HSN.out, HOR.out]; simp, trivial⟩, by simp [intOf]; omega⟩
    · have hie : i = t.length := by omega
      subst hie
      rw [List.take_length]
      have hrd2 : RdAt (Go.Lib.bytesWorld w1 5 (bstr t)) rb (l.drop wd) := hrd.out.bytes
      have hg2 : w.grownBy (Go.Lib.bytesWorld w1 5 (bstr t)) (some rb) := grown_trans hg (bytes_grown _ _ _ _)
      have HRD : Hid (RdAt (Go.Lib.bytesWorld w1 5 (bstr t)) rb (l.drop wd)) := hrd2
      clear hrd hrd2 hg
      generalize Go.Lib.bytesWorld w1 5 (bstr t) = wz at *
      go_wp2
      go_ret
      exact ⟨rfl, HRD, hg2⟩
set_option maxHeartbeats 400000 in
theorem clone_any (s : ByteArray) (w : World) (h : s.size ≤ 281474976710656) : Calls Tryz.prog 194 #[.string s] w fun e w' => e = .returned (.string s) ∧ w.grownBy w' none := by
  have hc : Calls Tryz.prog 216 #[.string s] w fun e w' => e = .returned (.string s) ∧ Below w.heap.size w w' := Any.stringslite_Clone (P := Tryz.prog) cloneText s w h
  go_enter Tryz.func194, Tryz.ntmps194
  go_wp2_with fail
  refine hc.mono ?_
  rintro e w1 ⟨rfl, hb⟩
  go_wp2
  go_ret
  exact ⟨rfl, below_grown hb none⟩
set_option maxRecDepth 100000 in
set_option maxHeartbeats 1000000 in
theorem text_any (rb : Nat) (l : List UInt8) (w : World) (hr : RdAt w rb l) (hl : l.length ≤ 1099511627776) :
    Calls Tryz.prog 234 #[.pointer (some ⟨rb, 0, none⟩)] w fun e w' => e = .returned (.string (bstr (rdText l).1)) ∧ Hid (RdAt w' rb (rdText l).2) ∧ w.grownBy w' (some rb) := by
  have hc : Calls Tryz.prog 162 #[.pointer (some ⟨rb, 0, none⟩), .int .i64 1] w fun e w' => e = .returned (.int .i64 (num (l.take 1))) ∧ Hid (RdAt w' rb (l.drop 1)) ∧ w.grownBy w' (some rb) := number_any rb l 1 w hr hl (by omega)
  have hm := num_le (l.take 1) 1 (by rw [List.length_take]; omega)
  have HE : Hid (rdText l = ((l.drop 1).take (num (l.take 1)), (l.drop 1).drop (num (l.take 1)))) := rfl
  have hl1 : (l.drop 1).length ≤ 1099511627776 := by rw [List.length_drop]; omega
  clear hr
  generalize rdText l = q at *
  generalize num (l.take 1) = m at *
  generalize l.drop 1 = l1 at *
  go_enter Tryz.func234, Tryz.ntmps234
  go_wp2_with fail
  refine hc.mono ?_
  rintro e w1 ⟨rfl, hrd, hg⟩
  clear hc
  go_wp2_with fail
  refine (take_any rb l1 m w1 hrd.out hl1 (by omega)).mono ?_
  rintro e w2 ⟨rfl, hrd2, hg2⟩
  go_wp2_with fail
  refine (clone_any _ w2 (by rw [bstr_size, List.length_take]; omega)).mono ?_
  rintro e w3 ⟨rfl, hg3⟩
  have hrd3 : RdAt w3 rb (l1.drop m) := hrd2.out.of_block (hg3.block rb hrd2.out.lt (by simp))
  go_wp2
  go_ret
  exact ⟨by rw [HE.out]; rfl, by rw [HE.out]; exact hrd3, grown_trans (grown_trans hg hg2) (hg3.but _)⟩

/-- Six cells of a block that may be written. -/
def Cells6 (w : World) (b : Nat) (x0 x1 x2 x3 x4 x5 : Value) : Prop :=
  (w.cell? ⟨b, 0, none⟩ = some x0 ∧ w.cell? ⟨b, 1, none⟩ = some x1 ∧ w.cell? ⟨b, 2, none⟩ = some x2 ∧ w.cell? ⟨b, 3, none⟩ = some x3 ∧ w.cell? ⟨b, 4, none⟩ = some x4 ∧ w.cell? ⟨b, 5, none⟩ = some x5) ∧
  (w.frozen? ⟨b, 0, none⟩ = false ∧ w.frozen? ⟨b, 1, none⟩ = false ∧ w.frozen? ⟨b, 2, none⟩ = false ∧ w.frozen? ⟨b, 3, none⟩ = false ∧ w.frozen? ⟨b, 4, none⟩ = false ∧ w.frozen? ⟨b, 5, none⟩ = false)
theorem Cells6.of_block {w w' : World} {b : Nat} {x0 x1 x2 x3 x4 x5 : Value} (h : Cells6 w b x0 x1 x2 x3 x4 x5) (hb : w'.heap[b]? = w.heap[b]?) : Cells6 w' b x0 x1 x2 x3 x4 x5 := by
  obtain ⟨⟨c0, c1, c2, c3, c4, c5⟩, ⟨f0, f1, f2, f3, f4, f5⟩⟩ := h
  refine ⟨⟨?_, ?_, ?_, ?_, ?_, ?_⟩, ?_, ?_, ?_, ?_, ?_, ?_⟩
  all_goals first | (rw [World.cell?_of_block (w := w) (a := ⟨b, _, none⟩) hb]; assumption) | (rw [World.frozen?_of_block (w := w) (a := ⟨b, _, none⟩) hb]; assumption)
theorem Cells6.lt {w : World} {b : Nat} {x0 x1 x2 x3 x4 x5 : Value} (h : Cells6 w b x0 x1 x2 x3 x4 x5) : b < w.heap.size := by
  have c0 := h.1.1
  have : w.heap[b]? ≠ none := by
    intro hn
    unfold World.cell? at c0
    simp [hn] at c0
  have := mt Array.getElem?_eq_none this
  omega
theorem Cells6.grown {w w' : World} {b : Nat} {x0 x1 x2 x3 x4 x5 : Value} {row : Option Nat} (h : Cells6 w b x0 x1 x2 x3 x4 x5) (hg : w.grownBy w' row) (hne : some b ≠ row) : Cells6 w' b x0 x1 x2 x3 x4 x5 := h.of_block (hg.block b h.lt hne)
theorem Cells6.far {w : World} {b b' o : Nat} {x0 x1 x2 x3 x4 x5 : Value} (h : Cells6 w b x0 x1 x2 x3 x4 x5) (hne : b ≠ b') (u : Value) : Cells6 (w.setCell ⟨b', o, none⟩ u) b x0 x1 x2 x3 x4 x5 := h.of_block (Below.heap_setCell _ _ _ _ hne)
theorem Cells6.set0 {w : World} {b : Nat} {x0 x1 x2 x3 x4 x5 : Value} (h : Cells6 w b x0 x1 x2 x3 x4 x5) (v : Value) : Cells6 (w.setCell ⟨b, 0, none⟩ v) b v x1 x2 x3 x4 x5 := by
  obtain ⟨⟨c0, c1, c2, c3, c4, c5⟩, ⟨f0, f1, f2, f3, f4, f5⟩⟩ := h
  exact ⟨⟨World.cell?_setCell_same _ _ _ c0, (World.cell?_setCell_other _ _ _ _ (by simp)).trans c1, (World.cell?_setCell_other _ _ _ _ (by simp)).trans c2, (World.cell?_setCell_other _ _ _ _ (by simp)).trans c3, (World.cell?_setCell_other _ _ _ _ (by simp)).trans c4, (World.cell?_setCell_other _ _ _ _ (by simp)).trans c5⟩, ⟨(World.frozen?_setCell _ _ _ _).trans f0, (World.frozen?_setCell _ _ _ _).trans f1, (World.frozen?_setCell _ _ _ _).trans f2, (World.frozen?_setCell _ _ _ _).trans f3, (World.frozen?_setCell _ _ _ _).trans f4, (World.frozen?_setCell _ _ _ _).trans f5⟩⟩
theorem Cells6.set1 {w : World} {b : Nat} {x0 x1 x2 x3 x4 x5 : Value} (h : Cells6 w b x0 x1 x2 x3 x4 x5) (v : Value) : Cells6 (w.setCell ⟨b, 1, none⟩ v) b x0 v x2 x3 x4 x5 := by
  obtain ⟨⟨c0, c1, c2, c3, c4, c5⟩, ⟨f0, f1, f2, f3, f4, f5⟩⟩ := h
  exact ⟨⟨(World.cell?_setCell_other _ _ _ _ (by simp)).trans c0, World.cell?_setCell_same _ _ _ c1, (World.cell?_setCell_other _ _ _ _ (by simp)).trans c2, (World.cell?_setCell_other _ _ _ _ (by simp)).trans c3, (World.cell?_setCell_other _ _ _ _ (by simp)).trans c4, (World.cell?_setCell_other _ _ _ _ (by simp)).trans c5⟩, ⟨(World.frozen?_setCell _ _ _ _).trans f0, (World.frozen?_setCell _ _ _ _).trans f1, (World.frozen?_setCell _ _ _ _).trans f2, (World.frozen?_setCell _ _ _ _).trans f3, (World.frozen?_setCell _ _ _ _).trans f4, (World.frozen?_setCell _ _ _ _).trans f5⟩⟩
theorem Cells6.set2 {w : World} {b : Nat} {x0 x1 x2 x3 x4 x5 : Value} (h : Cells6 w b x0 x1 x2 x3 x4 x5) (v : Value) : Cells6 (w.setCell ⟨b, 2, none⟩ v) b x0 x1 v x3 x4 x5 := by
  obtain ⟨⟨c0, c1, c2, c3, c4, c5⟩, ⟨f0, f1, f2, f3, f4, f5⟩⟩ := h
  exact ⟨⟨(World.cell?_setCell_other _ _ _ _ (by simp)).trans c0, (World.cell?_setCell_other _ _ _ _ (by simp)).trans c1, World.cell?_setCell_same _ _ _ c2, (World.cell?_setCell_other _ _ _ _ (by simp)).trans c3, (World.cell?_setCell_other _ _ _ _ (by simp)).trans c4, (World.cell?_setCell_other _ _ _ _ (by simp)).trans c5⟩, ⟨(World.frozen?_setCell _ _ _ _).trans f0, (World.frozen?_setCell _ _ _ _).trans f1, (World.frozen?_setCell _ _ _ _).trans f2, (World.frozen?_setCell _ _ _ _).trans f3, (World.frozen?_setCell _ _ _ _).trans f4, (World.frozen?_setCell _ _ _ _).trans f5⟩⟩
theorem Cells6.set3 {w : World} {b : Nat} {x0 x1 x2 x3 x4 x5 : Value} (h : Cells6 w b x0 x1 x2 x3 x4 x5) (v : Value) : Cells6 (w.setCell ⟨b, 3, none⟩ v) b x0 x1 x2 v x4 x5 := by
  obtain ⟨⟨c0, c1, c2, c3, c4, c5⟩, ⟨f0, f1, f2, f3, f4, f5⟩⟩ := h
  exact ⟨⟨(World.cell?_setCell_other _ _ _ _ (by simp)).trans c0, (World.cell?_setCell_other _ _ _ _ (by simp)).trans c1, (World.cell?_setCell_other _ _ _ _ (by simp)).trans c2, World.cell?_setCell_same _ _ _ c3, (World.cell?_setCell_other _ _ _ _ (by simp)).trans c4, (World.cell?_setCell_other _ _ _ _ (by simp)).trans c5⟩, ⟨(World.frozen?_setCell _ _ _ _).trans f0, (World.frozen?_setCell _ _ _ _).trans f1, (World.frozen?_setCell _ _ _ _).trans f2, (World.frozen?_setCell _ _ _ _).trans f3, (World.frozen?_setCell _ _ _ _).trans f4, (World.frozen?_setCell _ _ _ _).trans f5⟩⟩
theorem Cells6.set4 {w : World} {b : Nat} {x0 x1 x2 x3 x4 x5 : Value} (h : Cells6 w b x0 x1 x2 x3 x4 x5) (v : Value) : Cells6 (w.setCell ⟨b, 4, none⟩ v) b x0 x1 x2 x3 v x5 := by
  obtain ⟨⟨c0, c1, c2, c3, c4, c5⟩, ⟨f0, f1, f2, f3, f4, f5⟩⟩ := h
  exact ⟨⟨(World.cell?_setCell_other _ _ _ _ (by simp)).trans c0, (World.cell?_setCell_other _ _ _ _ (by simp)).trans c1, (World.cell?_setCell_other _ _ _ _ (by simp)).trans c2, (World.cell?_setCell_other _ _ _ _ (by simp)).trans c3, World.cell?_setCell_same _ _ _ c4, (World.cell?_setCell_other _ _ _ _ (by simp)).trans c5⟩, ⟨(World.frozen?_setCell _ _ _ _).trans f0, (World.frozen?_setCell _ _ _ _).trans f1, (World.frozen?_setCell _ _ _ _).trans f2, (World.frozen?_setCell _ _ _ _).trans f3, (World.frozen?_setCell _ _ _ _).trans f4, (World.frozen?_setCell _ _ _ _).trans f5⟩⟩
theorem RdAt.set {w : World} {rb b o : Nat} {l : List UInt8} (h : RdAt w rb l) (hne : rb ≠ b) (u : Value) : RdAt (w.setCell ⟨b, o, none⟩ u) rb l := h.of_block (Below.heap_setCell _ _ _ _ hne)
theorem RdAt.alloc {w : World} {rb : Nat} {l : List UInt8} (h : RdAt w rb l) (o : Obj) : RdAt (w.alloc o) rb l := h.of_block (Below.heap_alloc w o rb h.lt)
theorem grown_set {a w : World} {row : Option Nat} {b o : Nat} (h : a.grownBy w row) (hb : a.heap.size ≤ b) (u : Value) : a.grownBy (w.setCell ⟨b, o, none⟩ u) row :=
  ⟨h.os, h.tape, h.output, by simpa using h.size, fun i hi hne => (Below.heap_setCell _ _ _ i (by dsimp only; omega)).trans (h.block i hi hne)⟩

set_option maxRecDepth 100000 in
set_option maxHeartbeats 1000000 in
theorem atom_any (rb : Nat) (l : List UInt8) (w : World) (hr : RdAt w rb l) (hl : l.length ≤ 1099511627776) :
    Calls Tryz.prog 217 #[.pointer (some ⟨rb, 0, none⟩)] w fun e w' => e = .returned (rdAtom l).1.val ∧ Hid (RdAt w' rb (rdAtom l).2) ∧ w.grownBy w' (some rb) := by
  have HR : Hid (RdAt w rb l) := hr
  obtain ⟨l1, hl1⟩ : ∃ l1, l.drop 1 = l1 := ⟨_, rfl⟩
  obtain ⟨k2, hk2⟩ : ∃ k2, (rdText l1).2 = k2 := ⟨_, rfl⟩
  obtain ⟨k3, hk3⟩ : ∃ k3, k2.drop 1 = k3 := ⟨_, rfl⟩
  obtain ⟨k4, hk4⟩ : ∃ k4, k3.drop 1 = k4 := ⟨_, rfl⟩
  obtain ⟨e2, he2⟩ : ∃ e2, (rdText k4).2 = e2 := ⟨_, rfl⟩
  have q2 : l1.length ≤ 1099511627776 := by rw [← hl1, List.length_drop]; omega
  have q3 : k2.length ≤ 1099511627776 := by rw [← hk2]; simp only [rdText, List.length_drop]; omega
  have q4 : k3.length ≤ 1099511627776 := by rw [← hk3, List.length_drop]; omega
  have q5 : k4.length ≤ 1099511627776 := by rw [← hk4, List.length_drop]; omega
  have q6 : e2.length ≤ 1099511627776 := by rw [← he2]; simp only [rdText, List.length_drop]; omega
  have HL2 : Hid (l1.length ≤ 1099511627776) := q2
  have HL3 : Hid (k2.length ≤ 1099511627776) := q3
  have HL4 : Hid (k3.length ≤ 1099511627776) := q4
  have HL5 : Hid (k4.length ≤ 1099511627776) := q5
  have HL6 : Hid (e2.length ≤ 1099511627776) := q6
  have HE : Hid (rdAtom l = (⟨num (l.take 1), bstr (rdText l1).1, num (k2.take 1), num (k3.take 1), bstr (rdText k4).1, num (e2.take 4)⟩, e2.drop 4)) := by rw [Hid, ← he2, ← hk4, ← hk3, ← hk2, ← hl1]; rfl
  have H1 : Hid (l.drop 1 = l1) := hl1
  have H2 : Hid ((rdText l1).2 = k2) := hk2
  have H3 : Hid (k2.drop 1 = k3) := hk3
  have H4 : Hid (k3.drop 1 = k4) := hk4
  have H5 : Hid ((rdText k4).2 = e2) := he2
  clear hr hl1 hk2 hk3 hk4 he2 q2 q3 q4 q5 q6
  go_enter Tryz.func217, Tryz.ntmps217
  have hlt := HR.out.lt
  go_wp2_with fail
  have HR1 : Hid (RdAt ((w.alloc (.cells #[.int .i64 0, .string ⟨#[]⟩, .int .i64 0, .int .i64 0, .string ⟨#[]⟩, .int .i64 0] 76)).alloc (.cells #[.int .i64 0, .string ⟨#[]⟩, .int .i64 0, .int .i64 0, .string ⟨#[]⟩, .int .i64 0] 76)) rb l) := (HR.out.alloc _).alloc _
  have hg0 : w.grownBy ((w.alloc (.cells #[.int .i64 0, .string ⟨#[]⟩, .int .i64 0, .int .i64 0, .string ⟨#[]⟩, .int .i64 0] 76)).alloc (.cells #[.int .i64 0, .string ⟨#[]⟩, .int .i64 0, .int .i64 0, .string ⟨#[]⟩, .int .i64 0] 76)) (some rb) := grown_trans (World.grownBy_alloc _ _ _) (World.grownBy_alloc _ _ _)
  have hA : Cells6 ((w.alloc (.cells #[.int .i64 0, .string ⟨#[]⟩, .int .i64 0, .int .i64 0, .string ⟨#[]⟩, .int .i64 0] 76)).alloc (.cells #[.int .i64 0, .string ⟨#[]⟩, .int .i64 0, .int .i64 0, .string ⟨#[]⟩, .int .i64 0] 76)) (w.heap.size + 1) (.int .i64 0) (.string ⟨#[]⟩) (.int .i64 0) (.int .i64 0) (.string ⟨#[]⟩) (.int .i64 0) := by
    refine ⟨⟨?_, ?_, ?_, ?_, ?_, ?_⟩, ?_, ?_, ?_, ?_, ?_, ?_⟩ <;> simp
  have hB : Cells6 ((w.alloc (.cells #[.int .i64 0, .string ⟨#[]⟩, .int .i64 0, .int .i64 0, .string ⟨#[]⟩, .int .i64 0] 76)).alloc (.cells #[.int .i64 0, .string ⟨#[]⟩, .int .i64 0, .int .i64 0, .string ⟨#[]⟩, .int .i64 0] 76)) w.heap.size (.int .i64 0) (.string ⟨#[]⟩) (.int .i64 0) (.int .i64 0) (.string ⟨#[]⟩) (.int .i64 0) := by
    refine ⟨⟨?_, ?_, ?_, ?_, ?_, ?_⟩, ?_, ?_, ?_, ?_, ?_, ?_⟩ <;> simp
  generalize (w.alloc (.cells #[.int .i64 0, .string ⟨#[]⟩, .int .i64 0, .int .i64 0, .string ⟨#[]⟩, .int .i64 0] 76)).alloc (.cells #[.int .i64 0, .string ⟨#[]⟩, .int .i64 0, .int .i64 0, .string ⟨#[]⟩, .int .i64 0] 76) = w0 at *
  refine (show Calls Tryz.prog 162 #[.pointer (some ⟨rb, 0, none⟩), .int .i64 1] w0 _ from number_any rb l 1 w0 HR1.out hl (by omega)).mono ?_
  rintro e w1 ⟨rfl, hrd1, hg1⟩
  rw [H1.out] at hrd1
  have hA1 := hA.grown hg1 (by simp; omega)
  have hB1 := hB.grown hg1 (by simp; omega)
  have hgw1 := grown_trans hg0 hg1
  clear hg0 hg1 hA hB HR1
  obtain ⟨⟨c0, c1, c2, c3, c4, c5⟩, ⟨f0, f1, f2, f3, f4, f5⟩⟩ := id hA1
  have HX : Hid (∀ (W : World) (m : List UInt8), RdAt W rb m → m.length ≤ 1099511627776 → Calls Tryz.prog 234 #[.pointer (some ⟨rb, 0, none⟩)] W fun e w' => e = .returned (.string (bstr (rdText m).1)) ∧ Hid (RdAt w' rb (rdText m).2) ∧ W.grownBy w' (some rb)) := fun W m h1 h2 => text_any rb m W h1 h2
  have HN1 : Hid (∀ (W : World) (m : List UInt8), RdAt W rb m → m.length ≤ 1099511627776 → Calls Tryz.prog 162 #[.pointer (some ⟨rb, 0, none⟩), .int .i64 1] W fun e w' => e = .returned (.int .i64 (num (m.take 1))) ∧ Hid (RdAt w' rb (m.drop 1)) ∧ W.grownBy w' (some rb)) := fun W m h1 h2 => number_any rb m 1 W h1 h2 (by omega)
  have HN4 : Hid (∀ (W : World) (m : List UInt8), RdAt W rb m → m.length ≤ 1099511627776 → Calls Tryz.prog 162 #[.pointer (some ⟨rb, 0, none⟩), .int .i64 4] W fun e w' => e = .returned (.int .i64 (num (m.take 4))) ∧ Hid (RdAt w' rb (m.drop 4)) ∧ W.grownBy w' (some rb)) := fun W m h1 h2 => number_any rb m 4 W h1 h2 (by omega)
  go_wp2_with fail
  refine (HX.out _ l1 (RdAt.set (b := w.heap.size + 1) (o := 0) hrd1.out (by omega) _) HL2.out).mono ?_
  rintro e w2 ⟨rfl, hrd2, hg2⟩
  rw [H2.out] at hrd2
  have hA2 := (hA1.set0 _).grown hg2 (by simp; omega)
  have hB2 := (hB1.far (b' := w.heap.size + 1) (o := 0) (by omega) _).grown hg2 (by simp; omega)
  have hgw2 := grown_trans (grown_set (b := w.heap.size + 1) (o := 0) hgw1 (by omega) _) hg2
  clear hg2 hA1 hB1 hgw1 hrd1 c0 c1 c2 c3 c4 c5 f0 f1 f2 f3 f4 f5
  obtain ⟨⟨c0, c1, c2, c3, c4, c5⟩, ⟨f0, f1, f2, f3, f4, f5⟩⟩ := id hA2
  go_wp2_with fail
  refine (HN1.out _ k2 (RdAt.set (b := w.heap.size + 1) (o := 1) hrd2.out (by omega) _) HL3.out).mono ?_
  rintro e w3 ⟨rfl, hrd3, hg3⟩
  rw [H3.out] at hrd3
  have hA3 := (hA2.set1 _).grown hg3 (by simp; omega)
  have hB3 := (hB2.far (b' := w.heap.size + 1) (o := 1) (by omega) _).grown hg3 (by simp; omega)
  have hgw3 := grown_trans (grown_set (b := w.heap.size + 1) (o := 1) hgw2 (by omega) _) hg3
  clear hg3 hA2 hB2 hgw2 hrd2 c0 c1 c2 c3 c4 c5 f0 f1 f2 f3 f4 f5
  obtain ⟨⟨c0, c1, c2, c3, c4, c5⟩, ⟨f0, f1, f2, f3, f4, f5⟩⟩ := id hA3
  go_wp2_with fail
  refine (HN1.out _ k3 (RdAt.set (b := w.heap.size + 1) (o := 2) hrd3.out (by omega) _) HL4.out).mono ?_
  rintro e w4 ⟨rfl, hrd4, hg4⟩
  rw [H4.out] at hrd4
  have hA4 := (hA3.set2 _).grown hg4 (by simp; omega)
  have hB4 := (hB3.far (b' := w.heap.size + 1) (o := 2) (by omega) _).grown hg4 (by simp; omega)
  have hgw4 := grown_trans (grown_set (b := w.heap.size + 1) (o := 2) hgw3 (by omega) _) hg4
  clear hg4 hA3 hB3 hgw3 hrd3 c0 c1 c2 c3 c4 c5 f0 f1 f2 f3 f4 f5
  obtain ⟨⟨c0, c1, c2, c3, c4, c5⟩, ⟨f0, f1, f2, f3, f4, f5⟩⟩ := id hA4
  go_wp2_with fail
  refine (HX.out _ k4 (RdAt.set (b := w.heap.size + 1) (o := 3) hrd4.out (by omega) _) HL5.out).mono ?_
  rintro e w5 ⟨rfl, hrd5, hg5⟩
  rw [H5.out] at hrd5
  have hA5 := (hA4.set3 _).grown hg5 (by simp; omega)
  have hB5 := (hB4.far (b' := w.heap.size + 1) (o := 3) (by omega) _).grown hg5 (by simp; omega)
  have hgw5 := grown_trans (grown_set (b := w.heap.size + 1) (o := 3) hgw4 (by omega) _) hg5
  clear hg5 hA4 hB4 hgw4 hrd4 c0 c1 c2 c3 c4 c5 f0 f1 f2 f3 f4 f5
  obtain ⟨⟨c0, c1, c2, c3, c4, c5⟩, ⟨f0, f1, f2, f3, f4, f5⟩⟩ := id hA5
  go_wp2_with fail
  refine (HN4.out _ e2 (RdAt.set (b := w.heap.size + 1) (o := 4) hrd5.out (by omega) _) HL6.out).mono ?_
  rintro e w6 ⟨rfl, hrd6, hg6⟩
  have hA6 := (hA5.set4 _).grown hg6 (by simp; omega)
  have hB6 := (hB5.far (b' := w.heap.size + 1) (o := 4) (by omega) _).grown hg6 (by simp; omega)
  have hgw6 := grown_trans (grown_set (b := w.heap.size + 1) (o := 4) hgw5 (by omega) _) hg6
  clear hg6 hA5 hB5 hgw5 hrd5 c0 c1 c2 c3 c4 c5 f0 f1 f2 f3 f4 f5
  obtain ⟨⟨c0, c1, c2, c3, c4, c5⟩, ⟨f0, f1, f2, f3, f4, f5⟩⟩ := id hA6
  obtain ⟨⟨d0, d1, d2, d3, d4, d5⟩, ⟨g0, g1, g2, g3, g4, g5⟩⟩ := id hB6
  go_wp2
  refine bodyPost_ret (v := At.val ⟨num (l.take 1), bstr (rdText l1).1, num (k2.take 1), num (k3.take 1), bstr (rdText k4).1, num (e2.take 4)⟩) (by simp [results, Tryz.results217, go_sem, At.val, d0, d1, d2, d3, d4, d5]) rfl ?_
  rw [HE.out]
  refine ⟨rfl, ?_, ?_⟩
  · refine RdAt.set (RdAt.set (RdAt.set (RdAt.set (RdAt.set (RdAt.set (RdAt.set hrd6.out ?_ _) ?_ _) ?_ _) ?_ _) ?_ _) ?_ _) ?_ _ <;> omega
  · refine grown_set (grown_set (grown_set (grown_set (grown_set (grown_set (grown_set hgw6 ?_ _) ?_ _) ?_ _) ?_ _) ?_ _) ?_ _) ?_ _ <;> omega
end Go.Proofs.YtahdlejgjcjeoabGreatDoor
