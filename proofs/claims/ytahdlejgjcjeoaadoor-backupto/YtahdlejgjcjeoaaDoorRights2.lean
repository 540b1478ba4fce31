/- Walk of the laws' rights. -/
import Derived.Test.YtahdlejgjcjeoaaDoorRights
import Derived.Test.YtahdlejgjcjeoaaDoorDecW2
namespace Go.Proofs.YtahdlejgjcjeoaaDoor
open Go.RowKit

theorem news_at2 (w : World) (x : At) (e : TypeId) : ∀ j u, (enc x)[j]? = some u → ((w.alloc (.cells #[.int .i64 x.ty, .string x.key, .int .i64 x.side, .int .i64 x.who, .string x.elem, .int .i64 x.n] e)).alloc (.cells #[.int .i64 x.ty, .string x.key, .int .i64 x.side, .int .i64 x.who, .string x.elem, .int .i64 x.n] e)).cell? ((⟨w.heap.size + 1, 0, none⟩ : Addr).add j) = some u := fun j u hu => by
  have := news_at (w.alloc (.cells #[.int .i64 x.ty, .string x.key, .int .i64 x.side, .int .i64 x.who, .string x.elem, .int .i64 x.n] e)) x e j u hu
  simpa using this

set_option maxRecDepth 100000 in
set_option maxHeartbeats 2000000 in
theorem rights_any (v : Value) (l : List At) (w : World) (hv : SliceOf w v l) (hs : ∀ a ∈ l, short a) (hw : ∀ a ∈ l, wide a) (hlen : l.length ≤ 4194304) :
    Calls Tryd.prog 25 #[v] w fun e w' => ∃ v' R, e = .returned v' ∧ w'.ownsRow w.heap.size 52 6 v' R.length (flat R) ∧ Hid (∀ a ∈ R, mayB a = true) ∧ R.length = l.length ∧ Below w.heap.size w w' := by
  obtain ⟨i0, hi, hz0, hz1, hz2⟩ := info_parts infoAtom
  have HV : Hid (SliceOf w v l) := hv
  have HSW : Hid (∀ a ∈ l, short a ∧ wide a) := fun a ha => ⟨hs a ha, hw a ha⟩
  obtain ⟨ad, cap, rfl, hcap, -⟩ := hv
  clear hs hw
  go_enter Tryd.func25, Tryd.ntmps25
  go_wp2
  go_loopw [3, 4] (fun v j wr => ∃ (k : Nat) (R : List At), k ≤ l.length ∧ j = .int .i64 k ∧ R.length = k ∧ wr.ownsRow w.heap.size 52 6 v R.length (flat R) ∧ Hid (∀ a ∈ R, mayB a = true) ∧ Below w.heap.size w wr) (fun _ j _ => l.length - (intOf j).toNat)
  case atStart => exact ⟨0, [], Nat.zero_le _, rfl, rfl, by simp [flat, World.ownsRow], by simp [Hid], Below.refl _ _⟩
  case round =>
    obtain ⟨k, R, hk, rfl, hRk, hown, hR, hbr⟩ := hrel
    subst hRk
    by_cases hl : R.length < l.length
    · obtain ⟨ad', cap', e', -, HS⟩ := HV.out.below hbr
      cases e'
      obtain ⟨b, off, rfl, hb, hrow⟩ := HS (by omega)
      obtain ⟨c0, c1, c2, c3, c4, c5⟩ := hrow.nth hl
      have hsw := HSW.out _ (nth_mem l R.length hl)
      have hca := right_any (nth l R.length) wr hsw.1 hsw.2
      generalize nth l R.length = x at *
      have hszb := hbr.size
      clear hrow HS hsw
      unfold At.val at hca
      obtain ⟨ty, key, side, who, elem, n⟩ := x
      simp only at *
      go_wp2_with fail
      refine hca.mono ?_
      rintro e w2 ⟨a, rfl, hma, hb2⟩
      have hown2 := owns_below hown hb2
      have hbr2 : Below w.heap.size w w2 := hbr.trans (hb2.mono hbr.size)
      have hz2' := hbr2.size
      have HF : Hid (flat (R ++ [a]) = flat R ++ enc a) := flat_snoc R a
      have HR2 : Hid (∀ x ∈ R ++ [a], mayB x = true) := fun x hx => by
        rcases List.mem_append.1 hx with h | h
        · exact hR.out x h
        · obtain rfl : x = a := (by simpa using h)
          exact hma
      clear hca hown hb2 hR c0 c1 c2 c3 c4 c5
      go_wp2_with (at_builtin; refine wpList_append_lies _ rfl _ _ 22 rfl w.heap.size 52 i0 _ 6 64 Tryd.underlying22 hi hz0 hz1 hz2 rfl (by decide) _ R.length _ rfl ((hown2.alloc _).alloc _) ⟨w2.heap.size + 1, 0, none⟩ 1 1 (enc a) rfl rfl (news_at2 w2 a _) (enc_oneCell a) (by decide) (by unfold maxLen; omega) (by omega) (by simp; omega) (w2.heap.size + 1 + 1) (by simp) ?_; intro g capn w3 hown3 hgrow3 hat3 hlt3)
      go_roundw
      case rel => exact ⟨R.length + 1, R ++ [a], by omega, by go_num, by simp, by rw [HF.out, List.length_append]; exact hown3, HR2, (below_alloc (below_alloc hbr2 _) _).grown hgrow3 (by simp; omega) (fun q hq => owns_base hown2 q hq)⟩
      case measure => simp [intOf]; omega
    · have hkl : R.length = l.length := by omega
      have HK : Hid (R.length = l.length) := hkl
      have HO : Hid (wr.ownsRow w.heap.size 52 6 u3 R.length (flat R)) := hown
      clear hkl hown
      go_wp2
      go_ret
      exact ⟨_, R, rfl, HO.out, hR, HK.out, hbr⟩
end Go.Proofs.YtahdlejgjcjeoaaDoor
