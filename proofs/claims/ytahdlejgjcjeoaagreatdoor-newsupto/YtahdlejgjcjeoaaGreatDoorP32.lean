/- Walks of the document's bytes and Encode. -/
import Derived.Test.YtahdlejgjcjeoaaGreatDoorP09
import Derived.Test.YtahdlejgjcjeoaaGreatDoorP06
import Derived.Test.YtahdlejgjcjeoaaGreatDoorP17
import Derived.Test.YtahdlejgjcjeoaaGreatDoorP22
import Derived.Test.YtahdlejgjcjeoaaGreatDoorP13
import Derived.Laws.Concat
import Derived.Deep.RegionHeldLaw
import Derived.Test.YtahdlejgjcjeoaaGreatDoorP25
namespace Go.Proofs.YtahdlejgjcjeoaaGreatDoor
open Go.RowKit

theorem adA_snoc (l : List UInt8) (c : UInt8) : adA (l ++ [c]) = (((adA l).1 + c.toNat) % 65521, (((adA l).1 + c.toNat) % 65521 + (adA l).2) % 65521) := by simp [adA]
theorem adA_lt (l : List UInt8) : (adA l).1 < 65521 ∧ (adA l).2 < 65521 := by
  rcases List.eq_nil_or_concat l with rfl | ⟨m, c, rfl⟩
  · decide
  · rw [List.concat_eq_append, adA_snoc]
    exact ⟨Nat.mod_lt _ (by decide), Nat.mod_lt _ (by decide)⟩
theorem adler_lt (l : List UInt8) : adler l < 4294967296 := by
  have := adA_lt l
  unfold adler
  omega
theorem bstr_at (l : List UInt8) (k : Nat) (_h : k < l.length) (h' : k < (bstr l).size) : (bstr l)[k] = l[k] := rfl

set_option maxRecDepth 100000 in
set_option maxHeartbeats 1000000 in
theorem refSum (l : List UInt8) (w : World) (hl : l.length ≤ 17592186044416) :
    Calls Tryz.prog 115 #[.string (bstr l)] w fun e w' => e = .returned (.int .i64 (adler l)) ∧ Below w.heap.size w w' := by
  have hsz := bstr_size l
  go_enter Tryz.func115, Tryz.ntmps115
  go_wp2
  go_loopw [3, 4, 5] (fun a b i wr => ∃ k : Nat, k ≤ l.length ∧ a = .int .i64 (adA (l.take k)).1 ∧ b = .int .i64 (adA (l.take k)).2 ∧ i = .int .i64 k ∧ Below w.heap.size w wr) (fun _ _ i _ => l.length - (intOf i).toNat)
  case atStart => exact ⟨0, Nat.zero_le _, rfl, rfl, rfl, Below.refl _ _⟩
  case round =>
    obtain ⟨k, hk, rfl, rfl, rfl, hbw⟩ := hrel
    obtain ⟨ha, hb⟩ := adA_lt (l.take k)
    by_cases hlt : k < l.length
    · have HS : Hid (adA (l.take (k + 1)) = (((adA (l.take k)).1 + l[k].toNat) % 65521, (((adA (l.take k)).1 + l[k].toNat) % 65521 + (adA (l.take k)).2) % 65521)) := by rw [Hid, List.take_succ_eq_append_getElem hlt, adA_snoc]
      have hc := l[k].toNat_lt
      have hc2 := bstr_at l k hlt (by rw [hsz]; exact hlt)
      generalize (adA (l.take k)).1 = a at *
      generalize (adA (l.take k)).2 = b at *
      generalize l[k] = c at *
      have q1 : (k : Int) < (l.length : Int) := by omega
      have t1 : ((a : Int) + (c.toNat : Int)).tmod 65521 = ((a + c.toNat) % 65521 : Nat) := by rw [Int.tmod_eq_emod_of_nonneg (by omega)]; omega
      have t2 : (((a + c.toNat) % 65521 : Nat) + (b : Int)).tmod 65521 = (((a + c.toNat) % 65521 + b) % 65521 : Nat) := by rw [Int.tmod_eq_emod_of_nonneg (by omega)]; omega
      go_wp2
      refine ⟨⟨k + 1, by omega, ?_, ?_, by go_num, hbw⟩, by simp [intOf]; omega⟩
      · rw [HS.out]; go_num
      · rw [HS.out]; go_num
    · have hkl : k = l.length := by omega
      subst hkl
      rw [List.take_of_length_le (Nat.le_refl _)] at *
      go_wp2
      go_ret
      refine ⟨ret_int ?_, hbw⟩
      unfold adler
      omega
end Go.Proofs.YtahdlejgjcjeoaaGreatDoor

namespace Go.Proofs.YtahdlejgjcjeoaaGreatDoor
open Go.RowKit

theorem owns_onlyB {w w' : World} {base : Nat} {e : TypeId} {s n : Nat} {v : Value} {xs : List Value} (h : w.ownsRow base e s v n xs) (hb : OnlyB w w') (he : e ≠ 5) : w'.ownsRow base e s v n xs := by
  obtain ⟨h0, h⟩ := h
  refine ⟨h0, ?_⟩
  rcases h with h | ⟨g, cap, cur, hv, hgb, hh, k⟩
  · exact .inl h
  · exact .inr ⟨g, cap, cur, hv, hgb, hb.heap hh he, k⟩

/-- string(out) of bytes that are there. -/
theorem buf_string {B : Nat} {w : World} {v : Value} {xs : List UInt8} (h : Buf B w v xs) (hp : 0 < xs.length) : ∃ b cap, v = .slice (some ⟨b, 0, none⟩) xs.length cap ∧ (convert 124 9 v).run Tryz.prog w = .ok (.string (bstr xs)) w := by
  have ho := h.1
  rcases ho.2 with ⟨_, h1⟩ | ⟨g, cap, cur, hv, _, hh, h1, h2, h3, h4⟩
  · omega
  · refine ⟨g, cap, hv, ?_⟩
    rw [hv, ← bstr_nums]
    refine run_convert_bytes_arg w 124 5 Tryz.underlying124 Tryz.underlying5 g 0 xs.length cap _ (by simp) (fun i hi => ?_) 9 Tryz.underlying9
    have := ho.cells (g := g) (by rw [hv]; rfl) i (.int .u8 (xs[i].toNat : Int)) (by simp [bcells, hi])
    have hadd : (⟨g, 0, none⟩ : Addr).add i = ⟨g, 0 + i, none⟩ := by unfold Addr.add; split <;> simp_all
    rw [hadd] at this
    rw [this]
    simp [List.getD, hi]

theorem encL_length : ∀ l : List At, (∀ a ∈ l, fit2 a) → (encL l).length ≤ 21 * l.length
  | [], _ => Nat.le_refl _
  | a :: l, h => by
    have h1 := (encA_length a (h a (by simp))).1
    have h2 := encL_length l (fun x hx => h x (by simp [hx]))
    have e : encL (a :: l) = encA a ++ encL l := by simp [encL]
    rw [e, List.length_append, List.length_cons]
    omega

set_option maxRecDepth 100000 in
set_option maxHeartbeats 2000000 in
theorem encode_yes (v : Value) (l : List At) (w : World) (hr : RulesAt w) (h1 : SliceOf w v l) (hs1 : ∀ a ∈ l, short a) (hlen : l.length ≤ 8388608) (hl : l.all mayB = true) :
    Calls Tryz.prog 167 #[v] w fun e w' => ∃ out, e = .returned (.tuple #[.string (bstr (be out.length 8 ++ encL out)), .int .i64 0]) ∧ Hid (IsTold l out) ∧ Below w.heap.size w w' := by
  have hc1 := of_yes v l w hr h1 hs1 (by omega) hl
  have HA : Hid (∀ a ∈ l, mayB a = true) := List.all_eq_true.1 hl
  have HR : Hid (RulesAt w) := hr
  clear h1 hs1 hl hr
  go_enter Tryz.func167, Tryz.ntmps167
  go_wp2_with fail
  refine hc1.mono ?_
  rintro e w1 ⟨b, rfl, hbb, hst, hb1⟩
  have hh := holds_list l
  have hmay := hh.mayMap HA.out
  have HTL : Hid (∀ out, TellOf (addTo (fun _ => none) l) out → IsTold l out) := fun out ht => hh.told HA.out ht
  have hcon := tell_any b l.length _ w1 (HR.out.below hb1 HR.out.1) hst hmay (by omega)
  clear hst hh hmay hc1
  generalize addTo (fun _ => none) l = M at *
  go_wp2_with fail
  refine hcon.mono ?_
  rintro e w2 ⟨v2, out, rfl, hown2, ht, hb2⟩
  have hbw2 : Below w.heap.size w w2 := hb1.trans (hb2.mono hb1.size)
  have HT2 : Hid (IsTold l out) := HTL.out out ht.out
  have hlo := length_le_of_sub (sorted_ne HT2.out.sorted) (fun x hx => (HT2.out.great x hx).1)
  have HF : Hid (∀ a ∈ out, fit2 a) := fun a ha => fit2_of_may (HA.out a (HT2.out.great a ha).1)
  have HO2 : Hid (w2.ownsRow w1.heap.size 77 6 v2 out.length (flat out)) := hown2
  clear hcon hb2 ht HTL
  obtain ⟨ad, cap, rfl, hcap, -⟩ := sliceOf_owns rfl hown2
  clear hown2
  go_wp2_with fail
  have hc3 := appendNumber_int w2.heap.size (.slice none 0 0) [] (out.length : Int) 8 w2 ⟨⟨rfl, .inl ⟨rfl, rfl⟩⟩, Nat.le_refl _⟩ (by omega) (by omega) (by omega) (by simp)
  refine hc3.mono ?_
  rintro e w3 ⟨v3, rfl, hb3, hbw3, hob3⟩
  rw [show ((out.length : Int)).toNat = out.length by omega, List.nil_append] at hb3
  have HO3 : Hid (w3.ownsRow w1.heap.size 77 6 (.slice ad out.length cap) out.length (flat out)) := owns_onlyB HO2.out hob3 (by decide)
  have hbW3 : Below w.heap.size w w3 := hbw2.trans (hbw3.mono hbw2.size)
  have hz3 := hbw3.size
  clear hc3 HO2 hob3
  go_wp2
  go_loopw [7, 25] (fun v' j wr => ∃ k : Nat, k ≤ out.length ∧ j = .int .i64 k ∧ Hid (Buf w2.heap.size wr v' (be out.length 8 ++ encL (out.take k))) ∧ Below w.heap.size w wr ∧ Hid (OnlyB w3 wr)) (fun _ j _ => out.length - (intOf j).toNat)
  case atStart => exact ⟨0, Nat.zero_le _, rfl, by simpa [Hid, encL] using hb3.out, hbW3, OnlyB.refl _⟩
  case round =>
    obtain ⟨k, hk, rfl, hbuf, hbr, hob⟩ := hrel
    by_cases hlk : k < out.length
    · obtain ⟨ad', cap', e', -, HS⟩ := sliceOf_owns rfl (owns_onlyB HO3.out hob.out (by decide))
      cases e'
      obtain ⟨bt, off, rfl, hbt, hrow⟩ := HS (by omega)
      have hfa := HF.out _ (nth_mem out k hlk)
      obtain ⟨c0, c1, c2, c3, c4, c5⟩ := hrow.nth hlk
      have hsn : encL (out.take (k + 1)) = encL (out.take k) ++ encA (nth out k) := by rw [List.take_succ_eq_append_getElem hlk, encL_snoc, nth_eq out k hlk]
      have hle := encL_length (out.take k) (fun a ha => HF.out a (List.mem_of_mem_take ha))
      have hlt := List.length_take_le k out
      generalize nth out k = a at *
      have HSN : Hid (be out.length 8 ++ encL (out.take (k + 1)) = (be out.length 8 ++ encL (out.take k)) ++ encA a) := by rw [Hid, hsn, List.append_assoc]
      have hyl : (be out.length 8 ++ encL (out.take k)).length ≤ 549755813888 := by rw [List.length_append, be_length]; omega
      clear hrow hsn hle hlt HS
      generalize be out.length 8 ++ encL (out.take k) = ys at *
      have hB := hbuf.out.2
      have hcA := fun o => appendAtom_any w2.heap.size _ ys a (wr.alloc o) ⟨hbuf.out.1.alloc _, by simp; omega⟩ (by simp; omega) hfa hyl
      go_wp2_with fail
      refine (hcA _).mono ?_
      rintro e w4 ⟨v4, rfl, hb4, hbw4, hob4⟩
      have hbW4 : Below w.heap.size w w4 := (below_alloc hbr _).trans (hbw4.mono hbw2.size)
      have HOB : Hid (OnlyB w3 w4) := (hob.out.alloc _).trans hob4
      clear hcA hbw4 hob4 hbuf c0 c1 c2 c3 c4 c5
      go_wp2
      exact ⟨⟨k + 1, by omega, by go_num, by rw [Hid, HSN.out]; exact hb4.out, hbW4, HOB⟩, by simp [intOf]; omega⟩
    · have hkl : k = out.length := by omega
      subst hkl
      have hfin := hbuf.out
      rw [List.take_length] at hfin
      obtain ⟨bb, cp, hv, hcv⟩ := buf_string hfin (by rw [List.length_append, be_length]; omega)
      subst hv
      clear hbuf hfin
      generalize hys : be out.length 8 ++ encL out = ys at *
      have HYS : Hid (be out.length 8 ++ encL out = ys) := hys
      clear hys
      go_wp2
      go_ret2
      exact ⟨out, by rw [HYS.out]; rfl, HT2, hbr⟩
set_option maxRecDepth 100000 in
set_option maxHeartbeats 2000000 in
theorem encode_no (v : Value) (l : List At) (w : World) (hr : RulesAt w) (h1 : SliceOf w v l) (hs1 : ∀ a ∈ l, short a) (hlen : l.length ≤ 8388608) (hl : l.all mayB = false) :
    Calls Tryz.prog 167 #[v] w fun e w' => e = .returned (.tuple #[.string (bstr []), .int .i64 1]) ∧ Below w.heap.size w w' := by
  have hc1 := of_no v l w hr h1 hs1 (by omega) hl
  clear h1 hs1 hl hr
  go_enter Tryz.func167, Tryz.ntmps167
  go_wp2_with fail
  refine hc1.mono ?_
  rintro e w1 ⟨rfl, hb1⟩
  clear hc1
  go_wp2
  go_ret2
  exact ⟨rfl, hb1⟩
end Go.Proofs.YtahdlejgjcjeoaaGreatDoor

namespace Go.Proofs.YtahdlejgjcjeoaaGreatDoor
open Go.RowKit

theorem bstr_append (l r : List UInt8) : bstr l ++ bstr r = bstr (l ++ r) := by
  apply ByteArray.ext
  simp [bstr]

theorem wrap_small {x : Int} (h0 : 0 ≤ x) (h1 : x < 9223372036854775808) : IntKind.i64.wrap x = x := by
  simp [IntKind.wrap, IntKind.signed, IntKind.bits]
  omega
theorem u8_mod (n : Nat) : IntKind.u8.wrap ((n : Int).tmod 256) = ((UInt8.ofNat n).toNat : Int) := by
  rw [Int.tmod_eq_emod_of_nonneg (by omega), UInt8.toNat_ofNat']
  simp [IntKind.wrap, IntKind.signed, IntKind.bits]
theorem mod_str (n : Nat) : strOfNums [(n : Int) % 256] = bstr [UInt8.ofNat n] := by
  have e : ((n : Int) % 256).toNat = n % 256 := by omega
  simp only [strOfNums, bstr, List.map_cons, List.map_nil, e]
  have : UInt8.ofNat (n % 256) = UInt8.ofNat n := by
    apply UInt8.toNat_inj.1
    simp
  rw [this]
theorem conv_one (W : World) (b : Nat) (c : Int) (h : W.cell? ⟨b, 0, none⟩ = some (.int .u8 c)) : (convert 124 9 (.slice (some ⟨b, 0, none⟩) 1 1)).run Tryz.prog W = .ok (.string (strOfNums [c])) W :=
  run_convert_bytes_arg W 124 5 Tryz.underlying124 Tryz.underlying5 b 0 1 1 [c] rfl (fun i hi => by obtain rfl : i = 0 := (by omega); exact h) 9 Tryz.underlying9

set_option maxRecDepth 100000 in
set_option maxHeartbeats 1000000 in
theorem written_any : ∀ (wd : Nat) (n : Nat) (w : World), wd ≤ 8 → n < 9223372036854775808 →
    Calls Tryz.prog 114 #[.int .i64 n, .int .i64 wd] w fun e w' => e = .returned (.string (bstr (be n wd))) ∧ Below w.heap.size w w' := by
  intro wd
  induction wd with
  | zero =>
    intro n w _ hn
    go_enter Tryz.func114, Tryz.ntmps114
    go_wp2
    go_ret
    exact ⟨rfl, Below.refl _ _⟩
  | succ wd ih =>
    intro n w hw hn
    have HC : Hid (∀ W, Calls Tryz.prog 114 #[.int .i64 ((n : Int) / 256), .int .i64 (wd : Int)] W fun e w' => e = .returned (.string (bstr (be (n / 256) wd))) ∧ Below W.heap.size W w') := fun W => by simpa using ih (n / 256) W (by omega) (by omega)
    clear ih
    have hcv := conv_one
    have hw1 : IntKind.i64.wrap ((n : Int) / 256) = (n : Int) / 256 := wrap_small (by omega) (by omega)
    have hw2 : IntKind.i64.wrap (wd : Int) = (wd : Int) := wrap_small (by omega) (by omega)
    have hw3 : IntKind.u8.wrap ((n : Int).tmod 256) = ((UInt8.ofNat n).toNat : Int) := u8_mod n
    have HE : Hid (bstr (be (n / 256) wd) ++ strOfNums [(n : Int) % 256] = bstr (be n (wd + 1))) := by rw [Hid, mod_str, bstr_append]; rfl
    have hsz1 : (bstr (be (n / 256) wd)).size = wd := by rw [bstr_size, be_length]
    have hsz2 : (strOfNums [(n : Int) % 256]).size = 1 := by rw [strOfNums_size]; rfl
    have hnot : ¬ (9223372036854775807 < wd + 1) := by omega
    go_enter Tryz.func114, Tryz.ntmps114
    go_wp2
    go_region_held_law (fun _ => True) (trivial) (first | (go_at_call 114; refine (HC.out _).mono ?_; rintro e w1 ⟨rfl, hb1⟩; obtain ⟨hc1, hf1⟩ := bcell hb1))
    all_goals go_wp2
    all_goals go_ret
    · exact ⟨by rw [← HE.out]; rfl, below_alloc ((Below.refl _ w).drew.trans hb1) _⟩
    · exact ⟨by rw [← HE.out]; rfl, (below_alloc (Below.refl _ w) _).drew.trans (hb1.mono (by simp))⟩
    · exact ⟨by rw [← HE.out]; rfl, (below_alloc (Below.refl _ w) _).drew.trans (hb1.mono (by simp))⟩
end Go.Proofs.YtahdlejgjcjeoaaGreatDoor

namespace Go.Proofs.YtahdlejgjcjeoaaGreatDoor
open Go.RowKit

theorem written_int (n : Int) (wd : Nat) (w : World) (hw : wd ≤ 8) (h0 : 0 ≤ n) (h1 : n < 9223372036854775808) :
    Calls Tryz.prog 114 #[.int .i64 n, .int .i64 wd] w fun e w' => e = .returned (.string (bstr (be n.toNat wd))) ∧ Below w.heap.size w w' := by
  have := written_any wd n.toNat w hw (by omega)
  rwa [show ((n.toNat : Nat) : Int) = n by omega] at this

set_option maxRecDepth 100000 in
set_option maxHeartbeats 2000000 in
theorem bytes_any (v : Value) (L : List At) (w : World) (hv : SliceOf w v L) (hf : ∀ a ∈ L, fit2 a) (hlen : L.length ≤ 8388608) :
    Calls Tryz.prog 113 #[v] w fun e w' => e = .returned (.string (bstr (be L.length 8 ++ encL L))) ∧ Below w.heap.size w w' := by
  have HV : Hid (SliceOf w v L) := hv
  have HF : Hid (∀ a ∈ L, fit2 a) := hf
  obtain ⟨ad, cap, rfl, hcap, -⟩ := hv
  clear hf
  have hc0 := written_int (L.length : Int) 8 w (by omega) (by omega) (by omega)
  rw [show ((L.length : Int)).toNat = L.length by omega] at hc0
  go_enter Tryz.func113, Tryz.ntmps113
  go_wp2_with fail
  refine (show Calls Tryz.prog 114 #[.int .i64 (L.length : Int), .int .i64 8] w _ from hc0).mono ?_
  rintro e w1 ⟨rfl, hb1⟩
  clear hc0
  go_wp2
  go_loopw [3, 4] (fun s j wr => ∃ k : Nat, k ≤ L.length ∧ j = .int .i64 k ∧ Hid (s = .string (bstr (be L.length 8 ++ encL (L.take k)))) ∧ Below w.heap.size w wr) (fun _ j _ => L.length - (intOf j).toNat)
  case atStart => exact ⟨0, Nat.zero_le _, rfl, by simp [Hid, encL], hb1⟩
  case round =>
    obtain ⟨k, hk, rfl, hs, hbw⟩ := hrel
    by_cases hl : k < L.length
    · obtain ⟨ad', cap', e', -, HS⟩ := HV.out.below hbw
      cases e'
      obtain ⟨b, off, rfl, hb, hrow⟩ := HS (by omega)
      obtain ⟨c0, c1, c2, c3, c4, c5⟩ := hrow.nth hl
      have hfa := HF.out _ (nth_mem L k hl)
      have hsn : encL (L.take (k + 1)) = encL (L.take k) ++ encA (nth L k) := by rw [List.take_succ_eq_append_getElem hl, encL_snoc, nth_eq L k hl]
      have hle := encL_length (L.take k) (fun a ha => HF.out a (List.mem_of_mem_take ha))
      have hlt := List.length_take_le k L
      generalize nth L k = a at *
      have HSN : Hid (be L.length 8 ++ encL (L.take (k + 1)) = (be L.length 8 ++ encL (L.take k)) ++ encA a) := by rw [Hid, hsn, List.append_assoc]
      have hN : (bstr (be L.length 8 ++ encL (L.take k))).size ≤ 549755813888 := by rw [bstr_size, List.length_append, be_length]; omega
      obtain rfl := hs.out
      clear hrow hsn hle hlt HS hs
      generalize hys : be L.length 8 ++ encL (L.take k) = ys at *
      obtain ⟨ty, key, side, who, elem, n⟩ := a
      obtain ⟨a1, a2, a3, a4, a5, a6, a7, a8, a9, a10⟩ := hfa
      simp only at *
      have HW : Hid (∀ (W : World) (x : Int), 0 ≤ x → x ≤ 4294967296 → Calls Tryz.prog 114 #[.int .i64 x, .int .i64 1] W fun e w' => e = .returned (.string (bstr (be x.toNat 1))) ∧ Below W.heap.size W w') := fun W x h0 h1 => written_int x 1 W (by omega) h0 (by omega)
      have HW4 : Hid (∀ (W : World) (x : Int), 0 ≤ x → x ≤ 4294967296 → Calls Tryz.prog 114 #[.int .i64 x, .int .i64 4] W fun e w' => e = .returned (.string (bstr (be x.toNat 4))) ∧ Below W.heap.size W w') := fun W x h0 h1 => written_int x 4 W (by omega) h0 (by omega)
      obtain ⟨N, hN0⟩ : ∃ N, (bstr ys).size = N := ⟨_, rfl⟩
      rw [hN0] at hN
      have hk1 : ∀ x, (bstr (be x 1)).size = 1 := fun x => by rw [bstr_size, be_length]
      have hk4 : ∀ x, (bstr (be x 4)).size = 4 := fun x => by rw [bstr_size, be_length]
      have hsa : ∀ x y : ByteArray, (x ++ y).size = x.size + y.size := fun x y => by simp
      have p1 : ¬ 9223372036854775807 < N + 1 := by omega
      have p2 : ¬ 9223372036854775807 < N + 1 + 1 := by omega
      have p3 : ¬ 9223372036854775807 < N + 1 + 1 + key.size := by omega
      have p4 : ¬ 9223372036854775807 < N + 1 + 1 + key.size + 1 := by omega
      have p5 : ¬ 9223372036854775807 < N + 1 + 1 + key.size + 1 + 1 := by omega
      have p6 : ¬ 9223372036854775807 < N + 1 + 1 + key.size + 1 + 1 + 1 := by omega
      have p7 : ¬ 9223372036854775807 < N + 1 + 1 + key.size + 1 + 1 + 1 + elem.size := by omega
      have p8 : ¬ 9223372036854775807 < N + 1 + 1 + key.size + 1 + 1 + 1 + elem.size + 4 := by omega
      have hS0 := six_start (x0 := .int .i64 ty) (x1 := .string key) (x2 := .int .i64 side) (x3 := .int .i64 who) (x4 := .string elem) (x5 := .int .i64 n) (e := 77) rfl hbw
      go_wp2
      go_region_held3 (fun w' => Below w.heap.size w w' ∧ wr.heap.size < w'.heap.size ∧ w'.cell? ⟨wr.heap.size, 0, none⟩ = some (.int .i64 ty) ∧ w'.cell? ⟨wr.heap.size, 1, none⟩ = some (.string key) ∧ w'.cell? ⟨wr.heap.size, 2, none⟩ = some (.int .i64 side) ∧ w'.cell? ⟨wr.heap.size, 3, none⟩ = some (.int .i64 who) ∧ w'.cell? ⟨wr.heap.size, 4, none⟩ = some (.string elem) ∧ w'.cell? ⟨wr.heap.size, 5, none⟩ = some (.int .i64 n)) (first | assumption | exact six_keep (by assumption) hbN | exact six_drew (by assumption) | go_keep) (first | (go_at_call 114; refine calls_of_args (rfl : _ = #[Value.int IntKind.i64 _, Value.int IntKind.i64 1]) (HW.out _ _ ?_ ?_) ?_; omega; omega; rintro e wN ⟨rfl, hbN⟩) | (go_at_call 114; refine calls_of_args (rfl : _ = #[Value.int IntKind.i64 _, Value.int IntKind.i64 4]) (HW4.out _ _ ?_ ?_) ?_; omega; omega; rintro e wN ⟨rfl, hbN⟩) | fail)
      have hbe := (by assumption : Below w.heap.size w wN ∧ _).1
      clear hS0
      go_wp2
      refine ⟨⟨k + 1, by omega, by go_num, ?_, hbe⟩, by simp [intOf]; omega⟩
      rw [Hid, HSN.out]
      simp only [encA, ← bstr_append, bstr_self, ByteArray.append_assoc]
    · have hkl : k = L.length := by omega
      subst hkl
      obtain rfl := hs.out
      rw [List.take_length]
      generalize hys : be L.length 8 ++ encL L = ys at *
      go_wp2
      go_ret
      exact ⟨rfl, hbw⟩
end Go.Proofs.YtahdlejgjcjeoaaGreatDoor
