/- Walk of the program's Encode. -/
import Derived.Test.YtahdlejgjcjeoaaDoorBstr
import Derived.Test.YtahdlejgjcjeoaaDoorStTellW
import Derived.Test.YtahdlejgjcjeoaaDoorTellM
namespace Go.Proofs.YtahdlejgjcjeoaaDoor
open Go.RowKit

theorem owns_onlyB {w w' : World} {base : Nat} {e : TypeId} {s n : Nat} {v : Value} {xs : List Value} (h : w.ownsRow base e s v n xs) (hb : OnlyB w w') (he : e ≠ 5) : w'.ownsRow base e s v n xs := by
  obtain ⟨h0, h⟩ := h
  refine ⟨h0, ?_⟩
  rcases h with h | ⟨g, cap, cur, hv, hgb, hh, k⟩
  · exact .inl h
  · exact .inr ⟨g, cap, cur, hv, hgb, hb.heap hh he, k⟩

/-- string(out) of bytes that are there. -/
theorem buf_string {B : Nat} {w : World} {v : Value} {xs : List UInt8} (h : Buf B w v xs) (hp : 0 < xs.length) : ∃ b cap, v = .slice (some ⟨b, 0, none⟩) xs.length cap ∧ (convert 109 9 v).run Tryd.prog w = .ok (.string (bstr xs)) w := by
  have ho := h.1
  rcases ho.2 with ⟨_, h1⟩ | ⟨g, cap, cur, hv, _, hh, h1, h2, h3, h4⟩
  · omega
  · refine ⟨g, cap, hv, ?_⟩
    rw [hv, ← bstr_nums]
    refine run_convert_bytes_arg w 109 5 Tryd.underlying109 Tryd.underlying5 g 0 xs.length cap _ (by simp) (fun i hi => ?_) 9 Tryd.underlying9
    have := ho.cells (g := g) (by rw [hv]; rfl) i (.int .u8 (xs[i].toNat : Int)) (by simp [bcells, hi])
    have hadd : (⟨g, 0, none⟩ : Addr).add i = ⟨g, 0 + i, none⟩ := by unfold Addr.add; split <;> simp_all
    rw [hadd] at this
    rw [this]
    simp [List.getD, hi]

theorem encL_length : ∀ l : List At, (∀ a ∈ l, fit2 a) → (encL l).length ≤ 21 * l.length
  | [], _ => Nat.le_refl _
  | a :: l, h => by
    have h1 := (encA_length a (h a (by simp))).1
    have h2 := encL_length l (fun x hx => h x (by simp [hx]))
    have e : encL (a :: l) = encA a ++ encL l := by simp [encL]
    rw [e, List.length_append, List.length_cons]
    omega

set_option maxRecDepth 100000 in
set_option maxHeartbeats 2000000 in
theorem encode_yes (v : Value) (l : List At) (w : World) (hr : RulesAt w) (h1 : SliceOf w v l) (hs1 : ∀ a ∈ l, short a) (hlen : l.length ≤ 8388608) (hl : l.all mayB = true) :
    Calls Tryd.prog 31 #[v] w fun e w' => ∃ out, e = .returned (.tuple #[.string (bstr (be out.length 8 ++ encL out)), .int .i64 0]) ∧ Hid (IsTold l out) ∧ Below w.heap.size w w' := by
  have hc1 := of_yes v l w hr h1 hs1 (by omega) hl
  have HA : Hid (∀ a ∈ l, mayB a = true) := List.all_eq_true.1 hl
  have HR : Hid (RulesAt w) := hr
  clear h1 hs1 hl hr
  go_enter Tryd.func31, Tryd.ntmps31
  go_wp2_with fail
  refine hc1.mono ?_
  rintro e w1 ⟨b, rfl, hbb, hst, hb1⟩
  have hh := holds_list l
  have hmay := hh.mayMap HA.out
  have HTL : Hid (∀ out, TellOf (addTo (fun _ => none) l) out → IsTold l out) := fun out ht => hh.told HA.out ht
  have hcon := tell_any b l.length _ w1 (HR.out.below hb1 HR.out.1) hst hmay (by omega)
  clear hst hh hmay hc1
  generalize addTo (fun _ => none) l = M at *
  go_wp2_with fail
  refine hcon.mono ?_
  rintro e w2 ⟨v2, out, rfl, hown2, ht, hb2⟩
  have hbw2 : Below w.heap.size w w2 := hb1.trans (hb2.mono hb1.size)
  have HT2 : Hid (IsTold l out) := HTL.out out ht.out
  have hlo := length_le_of_sub (sorted_ne HT2.out.sorted) (fun x hx => (HT2.out.great x hx).1)
  have HF : Hid (∀ a ∈ out, fit2 a) := fun a ha => fit2_of_may (HA.out a (HT2.out.great a ha).1)
  have HO2 : Hid (w2.ownsRow w1.heap.size 52 6 v2 out.length (flat out)) := hown2
  clear hcon hb2 ht HTL
  obtain ⟨ad, cap, rfl, hcap, -⟩ := sliceOf_owns rfl hown2
  clear hown2
  go_wp2_with fail
  have hc3 := appendNumber_int w2.heap.size (.slice none 0 0) [] (out.length : Int) 8 w2 ⟨⟨rfl, .inl ⟨rfl, rfl⟩⟩, Nat.le_refl _⟩ (by omega) (by omega) (by omega) (by simp)
  refine hc3.mono ?_
  rintro e w3 ⟨v3, rfl, hb3, hbw3, hob3⟩
  rw [show ((out.length : Int)).toNat = out.length by omega, List.nil_append] at hb3
  have HO3 : Hid (w3.ownsRow w1.heap.size 52 6 (.slice ad out.length cap) out.length (flat out)) := owns_onlyB HO2.out hob3 (by decide)
  have hbW3 : Below w.heap.size w w3 := hbw2.trans (hbw3.mono hbw2.size)
  have hz3 := hbw3.size
  clear hc3 HO2 hob3
  go_wp2
  go_loopw [7, 25] (fun v' j wr => ∃ k : Nat, k ≤ out.length ∧ j = .int .i64 k ∧ Hid (Buf w2.heap.size wr v' (be out.length 8 ++ encL (out.take k))) ∧ Below w.heap.size w wr ∧ Hid (OnlyB w3 wr)) (fun _ j _ => out.length - (intOf j).toNat)
  case atStart => exact ⟨0, Nat.zero_le _, rfl, by simpa [Hid, encL] using hb3.out, hbW3, OnlyB.refl _⟩
  case round =>
    obtain ⟨k, hk, rfl, hbuf, hbr, hob⟩ := hrel
    by_cases hlk : k < out.length
    · obtain ⟨ad', cap', e', -, HS⟩ := sliceOf_owns rfl (owns_onlyB HO3.out hob.out (by decide))
      cases e'
      obtain ⟨bt, off, rfl, hbt, hrow⟩ := HS (by omega)
      have hfa := HF.out _ (nth_mem out k hlk)
      obtain ⟨c0, c1, c2, c3, c4, c5⟩ := hrow.nth hlk
      have hsn : encL (out.take (k + 1)) = encL (out.take k) ++ encA (nth out k) := by rw [List.take_succ_eq_append_getElem hlk, encL_snoc, nth_eq out k hlk]
      have hle := encL_length (out.take k) (fun a ha => HF.out a (List.mem_of_mem_take ha))
      have hlt := List.length_take_le k out
      generalize nth out k = a at *
      have HSN : Hid (be out.length 8 ++ encL (out.take (k + 1)) = (be out.length 8 ++ encL (out.take k)) ++ encA a) := by rw [Hid, hsn, List.append_assoc]
      have hyl : (be out.length 8 ++ encL (out.take k)).length ≤ 549755813888 := by rw [List.length_append, be_length]; omega
      clear hrow hsn hle hlt HS
      generalize be out.length 8 ++ encL (out.take k) = ys at *
      have hB := hbuf.out.2
      have hcA := fun o => appendAtom_any w2.heap.size _ ys a (wr.alloc o) ⟨hbuf.out.1.alloc _, by simp; omega⟩ (by simp; omega) hfa hyl
      go_wp2_with fail
      refine (hcA _).mono ?_
      rintro e w4 ⟨v4, rfl, hb4, hbw4, hob4⟩
      have hbW4 : Below w.heap.size w w4 := (below_alloc hbr _).trans (hbw4.mono hbw2.size)
      have HOB : Hid (OnlyB w3 w4) := (hob.out.alloc _).trans hob4
      clear hcA hbw4 hob4 hbuf c0 c1 c2 c3 c4 c5
      go_wp2
      exact ⟨⟨k + 1, by omega, by go_num, by rw [Hid, HSN.out]; exact hb4.out, hbW4, HOB⟩, by simp [intOf]; omega⟩
    · have hkl : k = out.length := by omega
      subst hkl
      have hfin := hbuf.out
      rw [List.take_length] at hfin
      obtain ⟨bb, cp, hv, hcv⟩ := buf_string hfin (by rw [List.length_append, be_length]; omega)
      subst hv
      clear hbuf hfin
      generalize hys : be out.length 8 ++ encL out = ys at *
      have HYS : Hid (be out.length 8 ++ encL out = ys) := hys
      clear hys
      go_wp2
      go_ret2
      exact ⟨out, by rw [HYS.out]; rfl, HT2, hbr⟩
set_option maxRecDepth 100000 in
set_option maxHeartbeats 2000000 in
theorem encode_no (v : Value) (l : List At) (w : World) (hr : RulesAt w) (h1 : SliceOf w v l) (hs1 : ∀ a ∈ l, short a) (hlen : l.length ≤ 8388608) (hl : l.all mayB = false) :
    Calls Tryd.prog 31 #[v] w fun e w' => e = .returned (.tuple #[.string (bstr []), .int .i64 1]) ∧ Below w.heap.size w w' := by
  have hc1 := of_no v l w hr h1 hs1 (by omega) hl
  clear h1 hs1 hl hr
  go_enter Tryd.func31, Tryd.ntmps31
  go_wp2_with fail
  refine hc1.mono ?_
  rintro e w1 ⟨rfl, hb1⟩
  clear hc1
  go_wp2
  go_ret2
  exact ⟨rfl, hb1⟩
end Go.Proofs.YtahdlejgjcjeoaaDoor
