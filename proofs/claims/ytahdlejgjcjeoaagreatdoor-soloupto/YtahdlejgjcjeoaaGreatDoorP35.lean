/- A game: entries handed over, and the law's buffer. -/
import Derived.Test.YtahdlejgjcjeoaaGreatDoorP34
import Derived.Test.YtahdlejgjcjeoaaGreatDoorP33
namespace Go.Proofs.YtahdlejgjcjeoaaGreatDoor
open Go.RowKit

set_option maxRecDepth 100000 in
set_option maxHeartbeats 4000000 in
theorem ownEntries_any (B base : Nat) (va0 : Nat → Value) (es0 : Nat → List (Value × Int)) (v : Value) (ds : List Pe) (w : World)
    (hI : Bk w B va0 es0) (hE : EntsOwn w base v ds) (hbase : base ≤ w.heap.size) (_hB : B < base)
    (hold : ∀ q, base ≤ q → OffB B va0 es0 q) (hn : ds.length ≤ 1000) (hdl : ∀ e ∈ ds, e.d.length ≤ 8388608) (hes0 : (es0 0).length ≤ 15990000) (hes3 : (es0 3).length ≤ 16000000) :
    Calls Tryz.prog 130 #[.pointer (some ⟨B, 0, none⟩), v] w fun e w' => e = .returned (.tuple #[]) ∧ ∃ va es, Hid (BkR w base B va0 es0 w' va es) ∧ Hid ((es 0).length = (es0 0).length + 4 * ds.length ∧ (es 3).length = (es0 3).length + 4 ∧ (es 1).length = (es0 1).length ∧ (es 2).length = (es0 2).length) := by
  obtain ⟨adL, capL, rfl⟩ := own_form hE.row
  have HS0 : Hid (EoS w base B va0 es0 (.slice adL ds.length capL) ds 0 w va0 es0) := ⟨bkR_refl hI, hE.row, hE.own, fun q hq => hold q (owns_base hE.row q hq), fun e he q hq => hold q (owns_base (hE.own e he) q hq), hE.off, hE.far, by omega, fun _ _ => rfl⟩
  clear hI hE
  obtain ⟨n, HN⟩ : ∃ n, Hid (n = ds.length) := ⟨_, rfl⟩
  have HDL := Hid.mk hdl
  have HOLD := Hid.mk hold
  clear hdl hold
  rw [← HN.out] at hn HS0 ⊢
  obtain ⟨i0, hi, hz0, hz1, hz2⟩ := info_parts infoEntry
  obtain ⟨i1, hi1, hy0, hy1, hy2⟩ := info_parts infoEOut
  go_enter Tryz.func130, Tryz.ntmps130
  go_wp2
  go_loopw [4] (fun s wr => ∃ (k : Nat) (va : Nat → Value) (es : Nat → List (Value × Int)), k ≤ n ∧ s = .int .i64 k ∧ base ≤ wr.heap.size ∧ Hid (EoS w base B va0 es0 (.slice adL n capL) ds k wr va es)) (fun s _ => n - (intOf s).toNat)
  case atStart => exact ⟨0, va0, es0, by omega, rfl, hbase, HS0⟩
  case round =>
    clear HS0
    obtain ⟨k, va, es, hk, rfl, hbr, hst⟩ := hrel
    by_cases hl : k < n
    · have hkd : k < ds.length := by have := HN.out; omega
      have hrow := hst.out.row
      rw [HN.out] at hrow
      obtain ⟨g, hg, hgl, c0, c1, c2⟩ := ent_cells hrow hkd
      subst hg
      have hmem : ds[k] ∈ ds.drop k := by rw [List.drop_eq_getElem_cons hkd]; exact List.mem_cons_self
      have HC := Hid.mk (ownAtomsX B va (ds[k]).v es base (ds[k]).d.length (ds[k]).d wr hst.out.r.bk (hst.out.own _ hmem) rfl hbr (fun q hq => ⟨own_lt (hst.out.own _ hmem) q hq, hst.out.offE _ hmem q hq⟩) (HDL.out _ (List.getElem_mem hkd)) (by rw [hst.out.len]; omega))
      have HKD := Hid.mk hkd
      have q1 : (k : Int) < (n : Int) := by omega
      have q2 : (0 : Int) ≤ (k : Int) := by omega
      obtain ⟨ad2, cp2, hv2⟩ := own_form (hst.out.own _ hmem)
      rw [hv2] at c2
      have HV2 := Hid.mk hv2
      rw [HV2.out] at HC
      clear hrow hmem hv2 c0 c1
      go_wp2_with fail
      refine HC.out.mono ?_
      rintro e w3 ⟨rfl, vf, ef, hbk, hlen, hin, hfr⟩
      rw [← HV2.out] at hin hfr
      have HS1 := Hid.mk (hst.out.step HKD.out hbr hbk.out hlen hin.out hfr.out)
      have hbr3 := Nat.le_trans hbr hfr.out.size
      clear HC hbk hin hfr hst c2
      go_wp2
      exact ⟨⟨k + 1, _, _, by omega, by go_num, hbr3, HS1⟩, by simp [intOf]; omega⟩
    · have hkn : k = n := by omega
      subst hkn
      have hrowL := hst.out.row
      have hnn := HN.out
      rw [← hnn] at hrowL
      obtain ⟨adA, capA, hva⟩ := own_form (hst.out.r.bk.row 3 (by decide))
      have hoth := hst.out.oth 3 (by decide)
      have c3 := hst.out.r.bk.c 3 (by decide)
      rw [hva] at c3
      obtain ⟨K, HK⟩ : ∃ K, Hid (K = (es 3).length) := ⟨_, rfl⟩
      rw [← HK.out] at c3 hoth
      have HVA : Hid (va 3 = .slice adA K capA) := by show _ = _; rw [HK.out]; exact hva
      have hKb : K ≤ 16000000 := by omega
      have HL : Hid (wr.ownsRow base 86 3 (.slice adL k capL) k (ds.flatMap Pe.cells)) := hrowL
      have hxl : (ds.flatMap Pe.cells).length = k * 3 := hrowL.1
      have HEO := hst
      have HI : Hid (Bk wr B va es) := hst.out.r.bk
      have HSEP : Hid (∀ q, (Value.slice adL k capL).ownBlock = some q → q < wr.heap.size ∧ OffB B va es q) := fun q hq => ⟨own_lt hrowL q hq, hst.out.offV q hq⟩
      obtain ⟨X, HX⟩ : ∃ X : Nat → Prop, Hid (X = fun q => q = B ∨ some q = (Value.slice adL k capL).ownBlock ∨ some q = (va 3).ownBlock) := ⟨_, rfl⟩
      have HXB : Hid (X B) := by show X B; rw [HX.out]; exact .inl rfl
      have HXV : Hid (∀ q, (Value.slice adL k capL).ownBlock = some q → X q) := by show ∀ q, _; rw [HX.out]; exact fun q hq => .inr (.inl hq.symm)
      have HXA : Hid (∀ q, (va 3).ownBlock = some q → X q) := by show ∀ q, _; rw [HX.out]; exact fun q hq => .inr (.inr hq.symm)
      clear hst hrowL hva hoth hnn
      go_wp2
      obtain ⟨w1, rfl⟩ : ∃ w1 : World, w1 = wr := ⟨_, rfl⟩
      go_loopw [6] (fun s wr => ∃ (j : Nat) (xs : List Value), j ≤ k ∧ s = .int .i64 j ∧ xs.length = k * 3 ∧ Hid (wr.ownsRow base 86 3 (.slice adL k capL) k xs) ∧ Hid (Upto3 xs j [.int .i64 (-1 - (K : Int)), .int .i64 0, .slice none 0 0]) ∧ Hid (Bk wr B va es) ∧ Hid (Fr X w1 wr)) (fun s _ => k - (intOf s).toNat)
      case atStart => exact ⟨0, _, by omega, rfl, hxl, HL, fun t ht => by omega, HI, Fr.refl _ _⟩
      case round =>
        clear c3 hxl HL HI
        obtain ⟨j, xs, hj, rfl, hxl, hown, hup, hinv, hfr⟩ := hrel
        by_cases hl2 : j < k
        · obtain ⟨g, rfl⟩ : ∃ g, adL = some ⟨g, 0, none⟩ := by
            rcases hown.out.2 with ⟨_, h0⟩ | ⟨g, cap, cur, hv, _⟩
            · omega
            · cases hv; exact ⟨g, rfl⟩
          have hsg := HSEP.out g rfl
          obtain ⟨⟨u0, d0⟩, ⟨u1, d1⟩, ⟨u2, d2⟩, hfz⟩ := owns_three hown.out j hl2
          have q1 : (j : Int) < (k : Int) := by omega
          have hgr := grown_setCells (g := g) [.int .i64 (-1 - (K : Int)), .int .i64 0, .slice none 0 0] (j * 3) wr
          have HST := Hid.mk (owns_store3 hown.out j (.int .i64 (-1 - (K : Int))) (.int .i64 0) (.slice none 0 0))
          have HI3 : Hid (Bk (wr.setCells g (j * 3) [.int .i64 (-1 - (K : Int)), .int .i64 0, .slice none 0 0]) B va es) := hinv.out.kept hgr (fun e => hsg.2.1 (by cases e; rfl)) (fun t ht q hq e => hsg.2.2.1 t ht (by rw [hq, e])) (fun t ht p hp q hq e => hsg.2.2.2 t ht p hp (by rw [hq, e]))
          have HF3 : Hid (Fr X w1 (wr.setCells g (j * 3) [.int .i64 (-1 - (K : Int)), .int .i64 0, .slice none 0 0])) := hfr.out.step hgr (fun q hq => by cases hq; exact .inr (HXV.out g rfl))
          have HU3 := Hid.mk (hup.out.step hxl hl2)
          have HLL := Hid.mk ((set3_length xs j (.int .i64 (-1 - (K : Int))) (.int .i64 0) (.slice none 0 0)).trans hxl)
          clear hgr hown hinv hfr hup hsg
          go_wp2
          exact ⟨⟨j + 1, _, by omega, by go_num, HLL.out, HST, HU3, HI3, HF3⟩, by simp [intOf]; omega⟩
        · have hjn : j = k := by omega
          subst hjn
          have hxs := hup.out.reps hxl
          have hown' := hown.out
          rw [hxs] at hown'
          have hst : OwnS w1 X (Value.slice adL j capL).ownBlock va es B base 3 K j wr (.slice adL j capL) (.slice adA K capA) (es 3) := ⟨by rw [← HVA.out, updF_self, updF_self]; exact hinv.out, hown', fun q hq => ⟨Nat.lt_of_lt_of_le (HSEP.out q hq).1 hfr.out.size, (HSEP.out q hq).2.1, by rw [← HVA.out, updF_self]; exact (HSEP.out q hq).2.2.1⟩, fun p hp q h1 h2 => absurd h1 ((HSEP.out q h2).2.2.2 3 (by decide) p hp), fun t ht _ p hp q hq => (HSEP.out q hq).2.2.2 t ht p hp, hfr.out, fun q hq => .inr ⟨HXV.out q hq, hq.symm⟩, fun p hp => .inl hp, fun q hq => .inr (HXA.out q (by rw [HVA.out]; exact hq)), Nat.le_trans hbr hfr.out.size, ⟨by omega, by omega⟩, by omega, by decide⟩
          have hinvr := hst.inv
          have cr := hinvr.c 3 (by decide)
          have hlt := hinvr.lt
          have hrowr := hinvr.row 3 (by decide)
          rw [updF_same] at cr
          rw [updF_same, updF_same] at hrowr
          have HEL : Hid ((es 3).length = K) := HK.out.symm
          rw [HEL.out] at hrowr
          have HST : Hid (OwnS w1 X (Value.slice adL j capL).ownBlock va es B base 3 K j wr (.slice adL j capL) (.slice adA K capA) (es 3)) := hst
          have hrow2 : wr.ownsRow (B + 1) 84 2 (.slice adA K capA) K (flatE (es 3)) := hrowr
          clear hst hinvr hrowr hown hown' hup hinv hfr hxs hxl
          go_wp2_with (at_builtin; refine wpList_append_two _ rfl _ _ 68 rfl (B + 1) 84 i1 _ 2 32 Tryz.underlying68 hi1 hy0 hy1 hy2 rfl (by decide) _ K _ rfl (hrow2.alloc _) ⟨wr.heap.size, 0, none⟩ 1 1 [.slice adL j capL, .int .i64 K] rfl rfl (news_pair wr _ _ _) (pair_oneCell rfl _) (by decide) (by unfold maxLen; omega) (by omega) (by simp; omega) ?_; intro gA capA' wA hownA hcaseA; obtain ⟨ca, fa⟩ := HST.out.inv.after (f := 3) (by decide) _ (by rw [updF_same]; exact hcaseA); rw [updF_same] at ca)
          have HS1 := HST.out.push HXB.out _ (by rw [HEL.out]; exact hownA) hcaseA
          rw [HEL.out] at HS1
          clear HST cr hrow2 hownA hcaseA ca fa hlt
          go_loopw [1, 7] (fun s1 s7 wr => ∃ (r : Nat) (vf : Value) (ef : List (Value × Int)), r ≤ 3 ∧ s7 = .int .i64 r ∧ ef.length = K + 1 + r ∧ Hid (OwnS w1 X (Value.slice adL j capL).ownBlock va es B base 3 K (j + r) wr s1 vf ef)) (fun _ s7 _ => 3 - (intOf s7).toNat)
          case atStart => exact ⟨0, _, _, by omega, rfl, by rw [List.length_append, HEL.out]; rfl, HS1⟩
          case round =>
            clear HS1
            obtain ⟨r, vf, ef, hr, rfl, hes', hst⟩ := hrel
            have HES : Hid (ef.length = K + 1 + r) := hes'
            have hesle : ef.length ≤ 16000004 := by omega
            clear hes'
            by_cases hr3 : r < 3
            · obtain ⟨ad1, cap1, hv1⟩ := own_form hst.out.own
              subst hv1
              obtain ⟨w3, rfl⟩ : ∃ w3 : World, w3 = wr := ⟨_, rfl⟩
              have hst3 := hst.out
              have hown3 : w3.ownsRow base 86 3 (.slice ad1 (j + r) cap1) (j + r) (reps (j + r) [.int .i64 (-1 - (K : Int)), .int .i64 0, .slice none 0 0]) := hst3.own
              have hbase3 := hst3.base
              have HS3 : Hid (OwnS w1 X (Value.slice adL j capL).ownBlock va es B base 3 K (j + r) w3 (.slice ad1 (j + r) cap1) vf ef) := hst3
              clear hst hst3
              go_wp2_with (first | (at_builtin; have _t := hown3; refine wpList_append_two _ rfl _ _ 82 rfl base 86 i0 _ 3 40 Tryz.underlying82 hi hz0 hz1 hz2 rfl (by decide) _ (j + r) _ rfl (hown3.alloc _) ⟨w3.heap.size, 0, none⟩ 1 1 [.int .i64 (-1 - (K : Int)), .int .i64 0, .slice none 0 0] rfl rfl (World.news_of_block (heap_alloc_new w3 _)) (three_one rfl) (by decide) (by unfold maxLen; omega) (by omega) (by simp; omega) ?_; intro gL capN wN hownN hcaseN; have HSN : Hid (OwnS w1 X (Value.slice adL j capL).ownBlock va es B base 3 K (j + r + 1) wN (.slice (some ⟨gL, 0, none⟩) (j + r + 1) capN) vf ef) := HS3.out.append (by omega) _ hownN hcaseN; have cN := HSN.out.inv.c 3 (by decide); have hltN := HSN.out.inv.lt; have hrowN := HSN.out.inv.row 3 (by decide); rw [updF_same] at cN; rw [updF_same, updF_same] at hrowN; obtain ⟨adF, capF, hvF⟩ := own_form hrowN; subst hvF; have hrowM : wN.ownsRow (B + 1) 84 2 (.slice adF ef.length capF) ef.length (flatE ef) := hrowN; clear hownN hcaseN hown3 HS3 hrowN) | (at_builtin; refine wpList_append_two _ rfl _ _ 68 rfl (B + 1) 84 i1 _ 2 32 Tryz.underlying68 hi1 hy0 hy1 hy2 rfl (by decide) _ ef.length _ rfl (hrowM.alloc _) ⟨wN.heap.size, 0, none⟩ 1 1 [.slice (some ⟨gL, 0, none⟩) (j + r + 1) capN, .int .i64 K] rfl rfl (news_pair wN _ _ _) (pair_oneCell rfl _) (by decide) (by unfold maxLen; omega) (by omega) (by simp; omega) ?_; intro gA capA' wA hownA hcaseA; obtain ⟨ca, fa⟩ := HSN.out.inv.after (f := 3) (by decide) _ (by rw [updF_same]; exact hcaseA); rw [updF_same] at ca))
              have HS4 := HSN.out.push HXB.out _ hownA hcaseA
              clear HSN cN hrowM hownA hcaseA ca fa hltN
              exact ⟨⟨r + 1, _, _, by omega, by go_num, by have := HES.out; rw [List.length_append]; show ef.length + 1 = _; omega, HS4⟩, by simp [intOf]; omega⟩
            · go_wp2
              go_end0
              have hfin := hst.out
              have hfr := hfin.fr
              have hxa := hfin.xa
              rw [HX.out] at hfr
              have hxa' : NewOr (fun q => q = B ∨ some q = (Value.slice adL j capL).ownBlock ∨ some q = (va 3).ownBlock) w1 vf := by rw [← HX.out]; exact hxa
              refine ⟨rfl, updF va 3 vf, updF es 3 ef, HEO.out.r.step (vl := .slice adL j capL) (by decide) (fun q hq => owns_base HEO.out.row q hq) hbr hfin.inv ⟨hfin.ent, hxa'⟩ hfr, ?_⟩
              have e0 := HEO.out.len
              have e1 := HEO.out.oth 1 (by decide)
              have e2 := HEO.out.oth 2 (by decide)
              have e3 := HEO.out.oth 3 (by decide)
              have := HES.out
              have := HEL.out
              show _ ∧ _ ∧ _ ∧ _
              rw [updF_other _ _ (show (0 : Nat) ≠ 3 by decide), updF_other _ _ (show (1 : Nat) ≠ 3 by decide), updF_other _ _ (show (2 : Nat) ≠ 3 by decide), updF_same]
              exact ⟨e0, by omega, e1, e2⟩
end Go.Proofs.YtahdlejgjcjeoaaGreatDoor

namespace Go.Proofs.YtahdlejgjcjeoaaGreatDoor
open Go.RowKit
section
variable {Z w w1 : World} {col : Col} {W x y B M N : Nat} {U : List At} {KR : RefC} {KP : PrK} {c cR cP : Clu}

theorem GSt.ownE (h : GSt Z w col W x y B M KR KP cR cP) (hM : M ≤ 15000000) (hb : Below w.heap.size w w1) {v : Value} {ds : List Pe} (he : EntsOwn w1 w.heap.size v ds) (hn : ds.length ≤ 8) (hdl : ∀ e ∈ ds, e.d.length ≤ 8388608) :
    Calls Tryz.prog 130 #[.pointer (some ⟨B, 0, none⟩), v] w1 fun e w' => e = .returned (.tuple #[]) ∧ GSt Z w' (paint col w.heap.size (3, 9)) W x y B (M + 36) KR KP cR cP := by
  obtain ⟨va, es, hk⟩ := h.bk
  have hlt := hk.bk.lt
  refine (ownEntries_any B w.heap.size va es v ds w1 (hk.bk.below hb) he hb.size hlt (fun q hq => ⟨by omega, fun j hj e => ?_, fun j hj p hp e => ?_⟩) (by omega) hdl (by have := hk.len 0 (by decide); omega) (by have := hk.len 3 (by decide); omega)).mono ?_
  · have := own_lt (hk.bk.row j hj) q e.symm; omega
  · have := (hk.bk.sep j hj p hp q e).1; omega
  rintro e w' ⟨rfl, va', es', hr, hl⟩
  have hr := hr.out
  have hl := hl.out
  have hX : ∀ q, q < w.heap.size → XB B w.heap.size va q → (col q).1 = 3 := fun q hq hX => by
    rcases hX with rfl | hX | ⟨f, hf, hX⟩
    · exact hk.cB
    · omega
    · exact hk.cv f hf q hX
  have hF : FrC (ofOwn 3) col (paint col w.heap.size (3, 9)) w w' := ⟨((Fr.refl _ w).below hb).trans hr.fr (fun q hq hx => hX q hq hx), fun q hq => paint_old col _ hq⟩
  refine ⟨rfl, h.book hF ⟨hr.bk, fun f hf => ?_, ?_, fun f hf q hq => ?_, fun f hf p hp q hq => ?_⟩⟩
  · have := hk.len f hf
    rcases (show f = 0 ∨ f = 1 ∨ f = 2 ∨ f = 3 by omega) with rfl | rfl | rfl | rfl <;> omega
  · rw [paint_old col _ hlt]; exact hk.cB
  · by_cases hq' : q < w.heap.size
    · rw [paint_old col _ hq']
      exact (hr.xa f hf q hq).elim (fun h => by omega) (hX q hq')
    · rw [paint_new col _ (by omega)]
  · by_cases hq' : q < w.heap.size
    · rw [paint_old col _ hq']
      rcases hr.ent f hf p hp with h1 | h1
      · exact hk.ce f hf p h1 q hq
      · have := h1 q hq; omega
    · rw [paint_new col _ (by omega)]

theorem ok_buf (hok : c.ok U N) (hL : Lim U N) {r : Int} : (if c.works r = 0 then (c.rep r.toNat).buf else []).length ≤ 8 ∧ ∀ e ∈ (if c.works r = 0 then (c.rep r.toNat).buf else []), e.d.length ≤ 131072 := by
  by_cases hw : c.works r = 0
  · rw [if_pos hw]
    rcases works_cases c r with ⟨h5, _⟩ | ⟨i, rfl, hi, _⟩
    · rw [h5] at hw; cases hw
    have hrep := hok.rep hi
    refine ⟨Nat.le_trans hrep.bufL hok.room8, fun e he => ?_⟩
    have hb := hrep.buf e he
    exact Nat.le_trans (length_le_of_sub (sorted_ne hb.1.1.sorted) hb.2.1) hL.2
  · rw [if_neg hw]
    exact ⟨Nat.zero_le _, fun e he => by cases he⟩

set_option maxRecDepth 100000 in
set_option maxHeartbeats 1000000 in
theorem GSt.lBuffer (h : GSt Z w col W x y B M KR KP c c) (hok : c.ok U N) (hL : Lim U N) (hM : M ≤ 15000000) (r : Int) :
    Calls Tryz.prog 86 #[.pointer (some ⟨W, 0, none⟩), .int .i64 r] w fun e w' => e = .returned (.bool true) ∧ ∃ col', GSt Z w' col' W x y B (M + 36) KR KP c c := by
  have c0 := blk_cell h.wb 0
  simp at c0
  have HN := Hid.mk h
  have hE := works_val c r
  have HB8 := Hid.mk (ok_buf (c := c) hok hL (r := r))
  have HP := Hid.mk (prgBuffer h.prg.at_ h.prg.is hok hL r)
  have HD := Hid.mk (fun W' (h' : GSt Z W' col W x y B M KR KP c c) => refBuffer h'.ref hok hL r)
  clear h hok hL
  generalize (if c.works r = 0 then (c.rep r.toNat).buf else []) = T at *
  generalize c.works r = E at *
  go_enter Tryz.func86, Tryz.ntmps86
  go_wp2_with fail
  refine HP.out.mono ?_
  rintro e w1 ⟨v1, ds, rfl, ho1, he1, hv1, hb1⟩
  have HN1 := Hid.mk (HN.out.same hb1)
  have c1 := blk_cell HN1.out.wb 1
  simp at c1
  obtain ⟨ad1, cp1, hf1⟩ := own_form ho1.out.row
  subst hf1
  go_wp2_with fail
  refine (HD.out _ HN1.out).mono ?_
  rintro e w2 ⟨v2, ns, col2, rfl, hr2, hh2, he2, hb2⟩
  have HN2 := Hid.mk (HN1.out.same hb2)
  obtain ⟨ad2, cp2, hf2, hc2, hel2⟩ := RowC.elem en_len hr2.out
  subst hf2
  have e12 : ns.length = ds.length := by have := congrArg List.length (he2.out.trans he1.out.symm); simpa using this
  have hn8 : ds.length ≤ 8 := by have := HB8.out.1; rw [← he1.out] at this; simpa using this
  have HDL : Hid (∀ e ∈ ds, e.d.length ≤ 131072) := fun e he => HB8.out.2 e.ent (by rw [← he1.out]; exact List.mem_map_of_mem he)
  have HO := Hid.mk (show EntsOwn w2 w.heap.size (.slice ad1 ds.length cp1) ds from ⟨owns_below ho1.out.row hb2, fun e he => owns_below (ho1.out.own e he) hb2, ho1.out.off, ho1.out.far⟩)
  have HB := Hid.mk (hb1.trans (hb2.mono hb1.size))
  have HEN : Hid (∀ k (h1 : k < ds.length) (h2 : k < ns.length), (ns[k]).e = (ds[k]).ent) := fun k h1 h2 => by
    have : (ns.map En.e)[k]? = (ds.map Pe.ent)[k]? := by rw [he2.out, he1.out]
    simpa [h1, h2] using this
  have HEL := Hid.mk hel2
  have HHD := hh2
  rw [e12]
  have HLN := Hid.mk e12
  clear hr2 hh2 he1 he2 hb1 hb2 ho1 HP HD HB8 hel2 e12 hc2 HN1 c0 c1
  have c2 := blk_cell HN2.out.wb 2
  simp at c2
  have HC := Hid.mk (fun W' (hW : Below w2.heap.size w2 W') => HN.out.ownE hM (HB.out.trans (hW.mono HB.out.size)) (v := .slice ad1 ds.length cp1) (ds := ds) ⟨owns_below HO.out.row hW, fun e he => owns_below (HO.out.own e he) hW, HO.out.off, HO.out.far⟩ hn8 (fun e he => Nat.le_trans (HDL.out e he) (by decide)))
  have HSM : Hid (∀ k (h1 : k < ds.length) (h2 : k < ns.length) W', Below w2.heap.size w2 W' → Calls Tryz.prog 91 #[(ds[k]).v, (ns[k]).v] W' fun e w' => e = .returned (.bool true) ∧ Below W'.heap.size W' w') := fun k h1 h2 W' hW => sameAtoms_any _ _ (ds[k]).d W' (sliceOf_owns rfl (owns_below (HO.out.own _ (List.getElem_mem h1)) hW)) (by
    have h3 := HHD.out _ (List.getElem_mem h2)
    rw [HEN.out k h1 h2] at h3
    exact h3.slice.below hW) (by have := HDL.out _ (List.getElem_mem h1); omega)
  clear HB HN
  rcases hE with rfl | rfl | rfl
  · clear hv1
    go_wp2
    go_loopw [9] (fun s wr => ∃ k : Nat, k ≤ ds.length ∧ s = .int .i64 k ∧ Below w2.heap.size w2 wr) (fun s _ => ds.length - (intOf s).toNat)
    case atStart => exact ⟨0, Nat.zero_le _, rfl, Below.refl _ _⟩
    case round =>
      clear c2
      obtain ⟨k, hk, rfl, hbw⟩ := hrel
      by_cases hl : k < ds.length
      · have hl2 : k < ns.length := by rw [HLN.out]; exact hl
        obtain ⟨g1, rfl, hg1, a0, a1, a2⟩ := ent_cells HO.out.row hl
        obtain ⟨g2, rfl, hg2, -, -, hb⟩ := HEL.out (by omega)
        have b0 := hb k hl2 0 _ rfl
        have b1 := hb k hl2 1 _ rfl
        have b2 := hb k hl2 2 _ rfl
        rw [HEN.out k hl hl2] at b0 b1
        have HS := Hid.mk (HSM.out k hl hl2)
        have a2' := (hbw.cell (p := ⟨g1, k * 3 + 2, none⟩) hg1).trans a2
        have b2' := (hbw.cell (p := ⟨g2, k * 3 + 2, none⟩) hg2).trans b2
        have HA0 := Hid.mk a0
        have HA1 := Hid.mk a1
        have HB0 := Hid.mk b0
        have HB1 := Hid.mk b1
        obtain ⟨ad3, cp3, hv3⟩ := own_form (HO.out.own _ (List.getElem_mem hl))
        obtain ⟨ad4, cp4, hv4, -⟩ := HHD.out _ (List.getElem_mem hl2)
        rw [hv3] at a2' HS
        rw [hv4] at b2' HS
        generalize ((ns[k]).e.d.length) = m4 at *
        generalize ((ds[k]).d.length) = m3 at *
        clear a0 a1 a2 b0 b1 b2 hb hv3 hv4
        have q1 : (0 : Int) ≤ (k : Int) := by omega
        have q2 : (k : Int) < (ds.length : Int) := by omega
        have HBW := Hid.mk hbw
        have hgl1 := Nat.lt_of_lt_of_le hg1 hbw.size
        have hgl2 := Nat.lt_of_lt_of_le hg2 hbw.size
        clear hbw
        go_wp2_with fail
        go_region_law (first | (go_simp; go_at_call 91; refine (HS.out _ (by first | exact HBW.out | exact HBW.out.drew)).mono ?_; rintro e w3 ⟨rfl, hb3⟩; have hbw3 : Below w2.heap.size w2 w3 := (by first | exact HBW.out.trans (hb3.mono HBW.out.size) | exact HBW.out.drew.trans (hb3.mono HBW.out.drew.size))) | fail)
        all_goals
          have a0 := (hbw3.cell (p := ⟨g1, k * 3, none⟩) hg1).trans HA0.out
          have a1 := (hbw3.cell (p := ⟨g1, k * 3 + 1, none⟩) hg1).trans HA1.out
          have b0 := (hbw3.cell (p := ⟨g2, k * 3 + 0, none⟩) hg2).trans HB0.out
          have b1 := (hbw3.cell (p := ⟨g2, k * 3 + 1, none⟩) hg2).trans HB1.out
          simp only [Pe.ent] at b0 b1
          rw [Nat.add_zero] at b0
          generalize (((ds[k]).num : Nat) : Int) = x0 at *
          generalize (((ds[k]).org : Nat) : Int) = x1 at *
          have HB3 := Hid.mk hbw3
          clear hb3 hbw3 HA0 HA1 HB0 HB1 HS a2' b2' HSM HC
          go_wp2
          go_quiet (fail)
          go_wp2
          exact ⟨⟨k + 1, by omega, by go_num, by first | exact HB3.out | exact below_drewN HB3.out _⟩, by simp [intOf]; omega⟩
      · have hk' : k = ds.length := by omega
        subst hk'
        have HN3 := Hid.mk (HN2.out.same hbw)
        have c2 := blk_cell HN3.out.wb 2
        simp at c2
        have HCC := Hid.mk (HC.out wr hbw)
        clear HC HSM hbw
        go_wp2_with fail
        refine HCC.out.mono ?_
        rintro e w4 ⟨rfl, hn4⟩
        have HR := Hid.mk hn4
        clear HCC hn4
        go_wp2
        go_ret
        exact ⟨rfl, _, HR.out⟩
  all_goals
    have hvv := hv1.out (by decide)
    obtain ⟨rfl, rfl, hl0⟩ : ad1 = none ∧ cp1 = 0 ∧ ds.length = 0 := by injection hvv with e1 e2 e3; exact ⟨e1, e3, e2⟩
    have HCC := Hid.mk (HC.out w2 (Below.refl _ _))
    rw [hl0] at HCC
    simp only [hl0]
    clear hv1 hvv HC HSM HO HEL HEN HHD HLN HDL hn8 hl0
    go_wp2
    go_loopw [9] (fun s wr => s = .int .i64 0 ∧ wr = w2) (fun _ _ => 0)
    case atStart => exact ⟨rfl, rfl⟩
    case round =>
      obtain ⟨rfl, rfl⟩ := hrel
      go_wp2_with fail
      refine HCC.out.mono ?_
      rintro e w4 ⟨rfl, hn4⟩
      have HR := Hid.mk hn4
      clear HCC hn4
      go_wp2
      go_ret
      exact ⟨rfl, _, HR.out⟩
end
end Go.Proofs.YtahdlejgjcjeoaaGreatDoor
