/- Walk of the document's Encode. -/
import Derived.Test.YtfddkkkkehbecaaDoorEncRef2
namespace Go.Proofs.YtfddkkkkehbecaaDoor
open Go.RowKit

set_option maxRecDepth 100000 in
set_option maxHeartbeats 1000000 in
theorem refEncode_yes (v : Value) (l : List At) (w : World) (h1 : SliceOf w v l) (hs1 : ∀ a ∈ l, short a) (hlen : l.length ≤ 8388608) (hl : l.all mayB = true) :
    Calls Tryd.prog 30 #[v] w fun e w' => ∃ out, e = .returned (.tuple #[.string (bstr (be out.length 8 ++ encL out)), .int .i64 0]) ∧ Hid (IsTold l out) ∧ Below w.heap.size w w' := by
  have hc1 := mays_any v l w h1 hs1 (by omega)
  rw [hl] at hc1
  have H1 : Hid (SliceOf w v l) := h1
  have HA : Hid (∀ a ∈ l, mayB a = true) := List.all_eq_true.1 hl
  clear h1 hs1 hl
  go_enter Tryd.func30, Tryd.ntmps30
  go_wp2_with fail
  refine hc1.mono ?_
  rintro e w1 ⟨rfl, hb1⟩
  clear hc1
  go_wp2_with fail
  refine (told_any v l w1 (H1.out.below hb1) (fun a ha => fits_of_may (HA.out a ha)) hlen).mono ?_
  rintro e w2 ⟨v2, out, rfl, hown2, ht, hb2⟩
  have hbw2 : Below w.heap.size w w2 := hb1.trans (hb2.mono hb1.size)
  have hlo := length_le_of_sub (sorted_ne ht.out.sorted) (fun x hx => (ht.out.great x hx).1)
  have hcon := bytes_any v2 out w2 (sliceOf_owns rfl hown2) (fun a ha => fit2_of_may (HA.out a (ht.out.great a ha).1)) (by omega)
  clear hown2 hb1 hb2
  go_wp2_with fail
  refine hcon.mono ?_
  rintro e w3 ⟨rfl, hb3⟩
  have hbw3 : Below w.heap.size w w3 := hbw2.trans (hb3.mono hbw2.size)
  clear hcon hb3
  generalize hys : be out.length 8 ++ encL out = ys at *
  have HYS : Hid (be out.length 8 ++ encL out = ys) := hys
  clear hys
  go_wp2
  go_ret2
  exact ⟨out, by rw [HYS.out]; rfl, ht, hbw3⟩

set_option maxRecDepth 100000 in
set_option maxHeartbeats 1000000 in
theorem refEncode_no (v : Value) (l : List At) (w : World) (h1 : SliceOf w v l) (hs1 : ∀ a ∈ l, short a) (hlen : l.length ≤ 8388608) (hl : l.all mayB = false) :
    Calls Tryd.prog 30 #[v] w fun e w' => e = .returned (.tuple #[.string (bstr []), .int .i64 1]) ∧ Below w.heap.size w w' := by
  have hc1 := mays_any v l w h1 hs1 (by omega)
  rw [hl] at hc1
  clear h1 hs1 hl
  go_enter Tryd.func30, Tryd.ntmps30
  go_wp2_with fail
  refine hc1.mono ?_
  rintro e w1 ⟨rfl, hb1⟩
  clear hc1
  go_wp2
  go_ret2
  exact ⟨rfl, hb1⟩

/-- What an Encode answers. -/
def encCode (l : List At) : Int := if l.all mayB then 0 else 1
def EncSpec (l : List At) (t : ByteArray) : Prop :=
  (l.all mayB = true ∧ ∃ out, IsTold l out ∧ t = bstr (be out.length 8 ++ encL out)) ∨ (l.all mayB = false ∧ t = bstr [])
theorem EncSpec.unique {l : List At} {s t : ByteArray} (h : EncSpec l s) (k : EncSpec l t) : s = t := by
  rcases h with ⟨h0, a, ha, rfl⟩ | ⟨h0, rfl⟩
  · rcases k with ⟨_, b, hb, rfl⟩ | ⟨k0, _⟩
    · rw [ha.unique (List.all_eq_true.1 h0) hb]
    · rw [h0] at k0; cases k0
  · rcases k with ⟨k0, _⟩ | ⟨_, rfl⟩
    · rw [h0] at k0; cases k0
    · rfl
theorem EncSpec.size {l : List At} {t : ByteArray} (h : EncSpec l t) : t.size ≤ 8 + 21 * l.length := by
  rcases h with ⟨h0, a, ha, rfl⟩ | ⟨h0, rfl⟩
  · have h1 := length_le_of_sub (sorted_ne ha.sorted) (fun x hx => (ha.great x hx).1)
    have h2 := encL_length a (fun x hx => fit2_of_may (List.all_eq_true.1 h0 x (ha.great x hx).1))
    rw [bstr_size, List.length_append, be_length]
    omega
  · simp [bstr_size]

theorem refEncode_any (v : Value) (l : List At) (w : World) (h1 : SliceOf w v l) (hs1 : ∀ a ∈ l, short a) (hlen : l.length ≤ 8388608) :
    Calls Tryd.prog 30 #[v] w fun e w' => ∃ t, e = .returned (.tuple #[.string t, .int .i64 (encCode l)]) ∧ Hid (EncSpec l t) ∧ Below w.heap.size w w' := by
  unfold encCode
  cases hl : l.all mayB
  · refine (refEncode_no v l w h1 hs1 hlen hl).mono ?_
    rintro e w' ⟨rfl, hb⟩
    exact ⟨_, rfl, .inr ⟨hl, rfl⟩, hb⟩
  · refine (refEncode_yes v l w h1 hs1 hlen hl).mono ?_
    rintro e w' ⟨out, rfl, ht, hb⟩
    exact ⟨_, rfl, .inl ⟨hl, out, ht.out, rfl⟩, hb⟩
theorem encode_any (v : Value) (l : List At) (w : World) (hr : RulesAt w) (h1 : SliceOf w v l) (hs1 : ∀ a ∈ l, short a) (hlen : l.length ≤ 8388608) :
    Calls Tryd.prog 31 #[v] w fun e w' => ∃ t, e = .returned (.tuple #[.string t, .int .i64 (encCode l)]) ∧ Hid (EncSpec l t) ∧ Below w.heap.size w w' := by
  unfold encCode
  cases hl : l.all mayB
  · refine (encode_no v l w hr h1 hs1 hlen hl).mono ?_
    rintro e w' ⟨rfl, hb⟩
    exact ⟨_, rfl, .inr ⟨hl, rfl⟩, hb⟩
  · refine (encode_yes v l w hr h1 hs1 hlen hl).mono ?_
    rintro e w' ⟨out, rfl, ht, hb⟩
    exact ⟨_, rfl, .inl ⟨hl, out, ht.out, rfl⟩, hb⟩
end Go.Proofs.YtfddkkkkehbecaaDoor
