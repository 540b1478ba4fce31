/- Walk of the laws' ownAtoms. -/
import Derived.Test.YtahdlejgjcjeoaaDoorOwnK
namespace Go.Proofs.YtahdlejgjcjeoaaDoor
open Go.RowKit

theorem infoOut : (Tryd.prog.info? 96).map (fun i => (i.zero, i.size, i.bytes)) = some (some (.agg #[.slice none 0 0, .int .i64 0]), 2, 32) := by kernel_rfl

theorem BookInv.after {w w2 : World} {B g : Nat} {va : Value} {es : List (Value × Int)} (h : BookInv w B va es) (tmp : Obj)
    (hcase : ((w.alloc tmp).grownBy w2 none ∧ (w.alloc tmp).heap.size ≤ g) ∨ (va.ownBlock = some g ∧ (w.alloc tmp).grownBy w2 (some g))) : w2.cell? ⟨B, 0, none⟩ = some va ∧ w2.frozen? ⟨B, 0, none⟩ = false := by
  have hal : w.grownBy (w.alloc tmp) none := World.grownBy_alloc w tmp none
  rcases hcase with ⟨h1, _⟩ | ⟨h1, h2⟩
  · have hg := grown_trans hal h1
    exact ⟨hg.cell h.c0 (by simp), by rw [← h.fz 0]; exact World.frozen?_of_block (w := w) (hg.block B h.lt (by simp))⟩
  · have hg := grown_trans (hal.but _) h2
    have hne : some B ≠ some g := fun e => by
      have := owns_base h.row g h1
      cases e
      omega
    exact ⟨hg.cell h.c0 hne, by rw [← h.fz 0]; exact World.frozen?_of_block (w := w) (hg.block B h.lt hne)⟩
theorem all_marks {L : List At} {n : Nat} {k : Int} (hl : L.length = n) (h : ∀ t, t < n → nth L t = mark k) : L = List.replicate n (mark k) := by
  apply List.ext_getElem (by simp [hl])
  intro i h1 h2
  rw [← nth_eq L i h1, h i (by omega)]
  simp

set_option maxRecDepth 100000 in
set_option maxHeartbeats 4000000 in
theorem ownAtoms_any (B : Nat) (va vl : Value) (es : List (Value × Int)) (baseL n : Nat) (L : List At) (w : World)
    (hI : BookInv w B va es) (hL : w.ownsRow baseL 52 6 vl n (flat L)) (hn : L.length = n) (hbase : baseL ≤ w.heap.size)
    (hsep : ∀ q, vl.ownBlock = some q → q < w.heap.size ∧ q ≠ B ∧ some q ≠ va.ownBlock ∧ ∀ p ∈ es, p.1.ownBlock ≠ some q)
    (hlen : n ≤ 8388608) (hes : es.length ≤ 1000) :
    Calls Tryd.prog 42 #[.pointer (some ⟨B, 0, none⟩), vl] w fun e w' => e = .returned (.tuple #[]) ∧ ∃ va' es', Hid (BookInv w' B va' es') ∧ es'.length = es.length + 4 ∧ Hid (∀ p ∈ es', p ∈ es ∨ ∀ q, p.1.ownBlock = some q → w.heap.size ≤ q ∨ some q = vl.ownBlock) ∧ Hid (Fr (fun q => q = B ∨ some q = vl.ownBlock ∨ some q = va.ownBlock) w w') := by
  obtain ⟨X, hX⟩ : ∃ X : Nat → Prop, X = fun q => q = B ∨ some q = vl.ownBlock ∨ some q = va.ownBlock := ⟨_, rfl⟩
  rw [← hX]
  have HXB : Hid (X B) := by rw [hX]; exact .inl rfl
  have HXV : Hid (∀ q, vl.ownBlock = some q → X q) := by rw [hX]; exact fun q hq => .inr (.inl hq.symm)
  have HXA : Hid (∀ q, va.ownBlock = some q → X q) := by rw [hX]; exact fun q hq => .inr (.inr hq.symm)
  clear hX
  obtain ⟨adL, capL, rfl⟩ := own_form hL
  obtain ⟨adA, capA, rfl⟩ := own_form hI.row
  have c0 := hI.c0
  have HI : Hid (BookInv w B (.slice adA es.length capA) es) := hI
  have HL : Hid (w.ownsRow baseL 52 6 (.slice adL n capL) n (flat L)) := hL
  have HSEP : Hid (∀ q, (Value.slice adL n capL).ownBlock = some q → q < w.heap.size ∧ q ≠ B ∧ some q ≠ (Value.slice adA es.length capA).ownBlock ∧ ∀ p ∈ es, p.1.ownBlock ≠ some q) := hsep
  clear hI hL hsep
  obtain ⟨i0, hi, hz0, hz1, hz2⟩ := info_parts infoAtom
  obtain ⟨i1, hi1, hy0, hy1, hy2⟩ := info_parts infoOut
  go_enter Tryd.func42, Tryd.ntmps42
  go_wp2
  go_loopw [5] (fun i wr => ∃ (j : Nat) (L' : List At), j ≤ n ∧ i = .int .i64 j ∧ L'.length = n ∧ wr.ownsRow baseL 52 6 (.slice adL n capL) n (flat L') ∧ Hid (∀ t, t < j → nth L' t = mark es.length) ∧ Hid (BookInv wr B (.slice adA es.length capA) es) ∧ Hid (Fr X w wr)) (fun i _ => n - (intOf i).toNat)
  case atStart => exact ⟨0, L, Nat.zero_le _, rfl, hn, HL, fun t ht => by omega, HI, Fr.refl _ _⟩
  case round =>
    clear c0
    obtain ⟨j, L', hj, rfl, hlL, hown, hmk, hinv, hfr⟩ := hrel
    by_cases hl : j < n
    · obtain ⟨g, rfl⟩ : ∃ g, adL = some ⟨g, 0, none⟩ := by
        rcases hown.2 with ⟨_, h0⟩ | ⟨g, cap, cur, hv, _⟩
        · omega
        · cases hv; exact ⟨g, rfl⟩
      have hsg := HSEP.out g rfl
      have q1 : (j : Int) < (n : Int) := by omega
      go_wp2_with fail
      refine (atomOf_any es.length _ (by omega) (by omega)).mono ?_
      rintro e w3 ⟨rfl, hb3⟩
      have hown3 := owns_below hown hb3
      have hinv3 := hinv.out.below hb3
      have hfr3 := hfr.out.below hb3
      obtain ⟨⟨d0, d1, d2, d3, d4, d5⟩, hf⟩ := owns_cells hown3 hlL.symm j (by omega)
      have hst := owns_store hown3 hlL.symm j (by omega) (mark es.length)
      have hgr := grown_setCells (g := g) (enc (mark es.length)) (j * 6) w3
      have HI3 : Hid (BookInv (w3.setCells g (j * 6) (enc (mark es.length))) B (.slice adA es.length capA) es) := hinv3.kept hgr (fun e => hsg.2.1 (by cases e; rfl)) (fun q hq e => hsg.2.2.1 (by rw [hq, e])) (fun p hp q hq e => hsg.2.2.2 p hp (by rw [hq, e]))
      have HF3 : Hid (Fr X w (w3.setCells g (j * 6) (enc (mark es.length)))) := hfr3.step hgr (fun q hq => by cases hq; exact .inr (HXV.out g rfl))
      have HM3 : Hid (∀ t, t < j + 1 → nth (L'.set j (mark es.length)) t = mark es.length) := by
        intro t ht
        by_cases e : t = j
        · subst e; simp [nth, show t < L'.length by omega]
        · have := hmk.out t (by omega)
          simpa [nth, Ne.symm e] using this
      have HST : Hid ((w3.setCells g (j * 6) (enc (mark es.length))).ownsRow baseL 52 6 (.slice (some ⟨g, 0, none⟩) n capL) n (flat (L'.set j (mark es.length)))) := hst
      have HLL : Hid ((L'.set j (mark es.length)).length = n) := by rw [Hid]; simpa using hlL
      clear hst hgr hown hb3 hown3 hinv3 hfr3 hinv hfr hmk hsg
      generalize nth L' j = y at *
      generalize hmk0 : mark es.length = mk at *
      have HMK : Hid (mark es.length = mk) := hmk0
      clear hmk0
      go_wp2
      exact ⟨⟨j + 1, _, by omega, by go_num, HLL, HST, by rw [HMK.out]; exact HM3, HI3, HF3⟩, by simp [intOf]; omega⟩
    · have hjn : j = n := by omega
      subst hjn
      have hLm := all_marks hlL hmk.out
      rw [hLm] at hown
      have hst : OwnSt w X (Value.slice adL j capL).ownBlock es B baseL es.length j wr (.slice adL j capL) (.slice adA es.length capA) es := ⟨hinv.out, hown, fun q hq => ⟨Nat.lt_of_lt_of_le (HSEP.out q hq).1 hfr.out.size, (HSEP.out q hq).2.1, (HSEP.out q hq).2.2.1⟩, fun p hp q h1 h2 => absurd h1 ((HSEP.out q h2).2.2.2 p hp), hfr.out, fun q hq => .inr ⟨HXV.out q hq, hq.symm⟩, fun p hp => .inl hp, fun q hq => .inr (HXA.out q hq), Nat.le_trans hbase hfr.out.size, ⟨by omega, by omega⟩, by omega⟩
      have hinvr := hst.inv
      have cr := hinvr.c0
      have hlt := hinvr.lt
      have hrowr := hinvr.row
      clear hown hmk hinv hfr hLm HSEP HI HL hlL
      have HST : Hid (OwnSt w X (Value.slice adL j capL).ownBlock es B baseL es.length j wr (.slice adL j capL) (.slice adA es.length capA) es) := hst
      have HIR : Hid (BookInv wr B (.slice adA es.length capA) es) := hinvr
      clear hst hinvr
      go_wp2_with (at_builtin; refine wpList_append_two _ rfl _ _ 39 rfl (B + 1) 96 i1 _ 2 32 Tryd.underlying39 hi1 hy0 hy1 hy2 rfl (by decide) _ es.length _ rfl (hrowr.alloc _) ⟨wr.heap.size, 0, none⟩ 1 1 [.slice adL j capL, .int .i64 es.length] rfl rfl (news_pair wr _ _ _) (pair_oneCell rfl _) (by decide) (by unfold maxLen; omega) (by omega) (by simp; omega) ?_; intro gA capA' wA hownA hcaseA; obtain ⟨ca, fa⟩ := HIR.out.after _ hcaseA)
      have HS1 := HST.out.push HXB.out _ hownA hcaseA
      clear HST HIR cr hrowr hownA hcaseA ca fa hlt
      go_loopw [1, 6] (fun s1 s6 wr => ∃ (r : Nat) (va' : Value) (es' : List (Value × Int)), r ≤ 3 ∧ s6 = .int .i64 r ∧ es'.length = es.length + 1 + r ∧ Hid (OwnSt w X (Value.slice adL j capL).ownBlock es B baseL es.length (j + r) wr s1 va' es')) (fun _ s6 _ => 3 - (intOf s6).toNat)
      case atStart => exact ⟨0, _, _, by omega, rfl, by simp, HS1⟩
      case round =>
        clear HS1
        obtain ⟨r, va', es', hr, rfl, hes', hst⟩ := hrel
        have HES : Hid (es'.length = es.length + 1 + r) := hes'
        have hesle : es'.length ≤ 1004 := by omega
        clear hes'
        by_cases hr3 : r < 3
        · obtain ⟨ad1, cap1, hv1⟩ := own_form hst.out.own
          subst hv1
          go_wp2_with fail
          refine (atomOf_any es.length _ (by omega) (by omega)).mono ?_
          rintro e w3 ⟨rfl, hb3⟩
          have hst3 := hst.out.below hb3
          have hown3 := hst3.own
          have hbase3 := hst3.base
          have HS3 : Hid (OwnSt w X (Value.slice adL j capL).ownBlock es B baseL es.length (j + r) w3 (.slice ad1 (j + r) cap1) va' es') := hst3
          clear hst hst3 hb3
          generalize hmk0 : mark es.length = mk at *
          have HMK : Hid (mark es.length = mk) := hmk0
          clear hmk0
          go_wp2_with (first | (at_builtin; have _t := hown3; refine wpList_append_two _ rfl _ _ 22 rfl baseL 52 i0 _ 6 64 Tryd.underlying22 hi hz0 hz1 hz2 rfl (by decide) _ (j + r) _ rfl (hown3.alloc _) ⟨w3.heap.size, 0, none⟩ 1 1 (enc mk) rfl rfl (news_at w3 mk _) (enc_oneCell mk) (by decide) (by unfold maxLen; omega) (by omega) (by simp; omega) ?_; intro gL capN wN hownN hcaseN; have HSN : Hid (OwnSt w X (Value.slice adL j capL).ownBlock es B baseL es.length (j + r + 1) wN (.slice (some ⟨gL, 0, none⟩) (j + r + 1) capN) va' es') := HS3.out.append (by omega) _ (by rw [HMK.out]; exact hownN) hcaseN; have cN := HSN.out.inv.c0; have hltN := HSN.out.inv.lt; have hrowN := HSN.out.inv.row; clear hownN hcaseN hown3 HS3) | (at_builtin; refine wpList_append_two _ rfl _ _ 39 rfl (B + 1) 96 i1 _ 2 32 Tryd.underlying39 hi1 hy0 hy1 hy2 rfl (by decide) _ es'.length _ rfl (hrowN.alloc _) ⟨wN.heap.size, 0, none⟩ 1 1 [.slice (some ⟨gL, 0, none⟩) (j + r + 1) capN, .int .i64 es.length] rfl rfl (news_pair wN _ _ _) (pair_oneCell rfl _) (by decide) (by unfold maxLen; omega) (by omega) (by simp; omega) ?_; intro gA capA' wA hownA hcaseA; obtain ⟨ca, fa⟩ := HSN.out.inv.after _ hcaseA))
          have HS4 := HSN.out.push HXB.out _ hownA hcaseA
          clear HSN cN hrowN hownA hcaseA ca fa hltN
          exact ⟨⟨r + 1, _, _, by omega, by go_num, by have := HES.out; rw [List.length_append]; show es'.length + 1 = _; omega, HS4⟩, by simp [intOf]; omega⟩
        · go_wp2
          go_end0
          exact ⟨rfl, va', es', hst.out.inv, by have := HES.out; omega, hst.out.ent, hst.out.fr⟩
end Go.Proofs.YtahdlejgjcjeoaaDoor
