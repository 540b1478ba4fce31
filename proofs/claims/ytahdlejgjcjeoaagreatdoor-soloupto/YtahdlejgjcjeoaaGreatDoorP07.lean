/- Walks of the document's cluster: keep, State, Read, Frame. -/
import Derived.Test.YtahdlejgjcjeoaaGreatDoorP03
import Derived.Test.YtahdlejgjcjeoaaGreatDoorP02
import Derived.Deep.DeepCutAuto
import Derived.Test.YtahdlejgjcjeoaaGreatDoorP06
import Derived.Test.YtahdlejgjcjeoaaGreatDoorP04
import Derived.Deep.RegionHeld3
import Derived.Deep.Light
import Derived.Test.YtahdlejgjcjeoaaGreatDoorP05
namespace Go.Proofs.YtahdlejgjcjeoaaGreatDoor
open Go.RowKit

set_option maxRecDepth 100000 in
set_option maxHeartbeats 4000000 in
theorem told_any (v : Value) (l : List At) (w : World) (hv : SliceOf w v l) (hs : ∀ a ∈ l, fits a) (hlen : l.length ≤ 1099511627776) :
    Calls Tryz.prog 72 #[v] w fun e w' => ∃ v' out, e = .returned v' ∧ w'.ownsRow w.heap.size 77 6 v' out.length (flat out) ∧ Hid (IsTold l out) ∧ Below w.heap.size w w' := by
  obtain ⟨ad, cap, rfl, hcap, H⟩ := hv
  have HR : Hid (0 < l.length → ∃ b off, ad = some ⟨b, off, none⟩ ∧ b < w.heap.size ∧ RowAt w b off l) := H
  clear H
  have HS : Hid (∀ a ∈ l, fits a) := hs
  clear hs
  obtain ⟨i0, hi, hz0, hz1, hz2⟩ := info_parts infoAtom
  go_enter Tryz.func72, Tryz.ntmps72
  go_wp2
  go_loopw [3, 4] (fun v j wr => ∃ k : Nat, k ≤ l.length ∧ j = .int .i64 k ∧ wr.ownsRow w.heap.size 77 6 v (leftTo l k).length (flat (leftTo l k)) ∧ Below w.heap.size w wr) (fun _ j _ => l.length - (intOf j).toNat)
  case atStart => exact ⟨0, Nat.zero_le _, rfl, by simp [flat, leftTo, World.ownsRow], Below.refl _ _⟩
  case round =>
    obtain ⟨k, hk, rfl, hown, hbw⟩ := hrel
    by_cases hl : k < l.length
    · obtain ⟨b, off, rfl, hb, hrow⟩ := HR.out (by omega)
      have hsz := hbw.size
      have hcon := counts_some b off cap l k wr (hrow.below hbw hb) HS.out hcap (by omega) (by omega) hl
      have hsucc := leftTo_succ l k
      have hll := leftTo_length l k
      cases hc : cntTo l k l.length
      · rw [hc] at hcon hsucc
        have HSU : Hid (leftTo l (k + 1) = leftTo l k) := by simpa [Hid] using hsucc
        clear hsucc hrow HR hc hll
        go_wp2_with (go_at_call 117; refine hcon.mono ?_; rintro e w1 ⟨rfl, hb1⟩)
        go_roundw
        case rel => exact ⟨k + 1, by omega, by go_num, by rw [HSU.out]; exact owns_below hown hb1, hbw.trans (hb1.mono hsz)⟩
        case measure => simp [intOf]; omega
      · rw [hc] at hcon hsucc
        have HSU : Hid (leftTo l (k + 1) = leftTo l k ++ [nth l k]) := by simpa [Hid] using hsucc
        clear hsucc hc
        have hrow' := (hrow.below hbw hb).nth hl
        clear hrow HR
        have hft := flat_snoc (leftTo l k) (nth l k)
        generalize nth l k = x at *
        have HF : Hid (flat (leftTo l k ++ [x]) = flat (leftTo l k) ++ enc x) := hft
        clear hft
        go_wp2_with fail
        refine hcon.mono ?_
        rintro e w1 ⟨rfl, hb1⟩
        obtain ⟨c0, c1, c2, c3, c4, c5⟩ := cellsAt_below hb1 (by omega) hrow'
        have hown1 := owns_below hown hb1
        have hbw1 : Below w.heap.size w w1 := hbw.trans (hb1.mono hsz)
        have hsz1 := hbw1.size
        clear hcon hrow' hb1 hown hbw
        generalize hM : leftTo l k = M at *
        have HM : Hid (leftTo l k = M) := hM
        clear hM
        go_wp2_with (at_builtin; refine wpList_append_lies _ rfl _ _ 56 rfl w.heap.size 77 i0 _ 6 64 Tryz.underlying56 hi hz0 hz1 hz2 rfl (by decide) _ M.length _ rfl (hown1.alloc _) ⟨w1.heap.size, 0, none⟩ 1 1 (enc x) rfl rfl (news_at w1 x _) (enc_oneCell x) (by decide) (by unfold maxLen; omega) (by omega) (by simp; omega) (w1.heap.size + 1) (by simp) ?_; intro g capn w2 hown2 hgrow2 hat2 hlt2)
        go_roundw
        case rel => exact ⟨k + 1, by omega, by go_num, by rw [HSU.out, HF.out, List.length_append]; exact hown2, (hbw1.alloc hsz1 _).grown hgrow2 (by simp; omega) (owns_base hown1)⟩
        case measure => simp [intOf]; omega
    · have hkl : k = l.length := by omega
      subst hkl
      clear HR hl hk
      have hap := left_apart (l := l)
      have hll := leftTo_length l l.length
      have hsub : ∀ x ∈ leftTo l l.length, fits x := fun x hx => HS.out x (left_great x hx).1
      have hdone := fun O => Sel.done (l := l) (O := O)
      generalize leftTo l l.length = L at *
      have HAP : Hid (L.Pairwise (fun x y => plc x y ≠ 0)) := hap
      have HDN : Hid (∀ O, Sel L O → L.length ≤ O.length → IsTold l O) := hdone
      have HSB : Hid (∀ x ∈ L, fits x) := hsub
      clear hap hdone hsub HS
      obtain ⟨adL, capL, rfl, hcL, HL⟩ := sliceOf_owns rfl hown
      have HRL : Hid (0 < L.length → ∃ b off, adL = some ⟨b, off, none⟩ ∧ b < wr.heap.size ∧ RowAt wr b off L) := HL
      clear HL
      obtain ⟨wL, rfl⟩ : ∃ wo : World, wo = wr := ⟨_, rfl⟩
      go_wp2
      go_loopw [6] (fun s6 wr => ∃ O, O.length ≤ L.length ∧ wr.ownsRow wL.heap.size 77 6 s6 O.length (flat O) ∧ Hid (Sel L O) ∧ Below wL.heap.size wL wr) (fun s6 _ => L.length - lenOf s6)
      case atStart => exact ⟨[], Nat.zero_le _, by simp [flat, World.ownsRow], Sel.start L, Below.refl _ _⟩
      case round =>
        obtain ⟨O, hO, hownO, hSel, hbO⟩ := hrel
        by_cases hmore : O.length < L.length
        · obtain ⟨ad6, cap6, rfl, hc6, H6⟩ := sliceOf_owns rfl hownO
          have HR6 : Hid (0 < O.length → ∃ b off, ad6 = some ⟨b, off, none⟩ ∧ b < wr.heap.size ∧ RowAt wr b off O) := H6
          clear H6
          obtain ⟨bL, offL, rfl, hbL, hrowL⟩ := HRL.out (by omega)
          have HRW : Hid (RowAt wL bL offL L) := hrowL
          clear hrowL HRL
          have hszO := hbO.size
          obtain ⟨wo, rfl⟩ : ∃ wo : World, wo = wr := ⟨_, rfl⟩
          go_wp2
          go_loopw [7, 8] (fun s7 s8 wr => ∃ (i : Nat) (bb : Int), i ≤ L.length ∧ s8 = .int .i64 i ∧ s7 = .int .i64 bb ∧ Hid (Best L O i bb) ∧ Below wo.heap.size wo wr) (fun _ s8 _ => L.length - (intOf s8).toNat)
          case atStart => exact ⟨0, -1, Nat.zero_le _, rfl, rfl, Best.start L O, Below.refl _ _⟩
          case round =>
            obtain ⟨i, bb, hiL, rfl, rfl, hbest, hbi⟩ := hrel
            by_cases hil : i < L.length
            · have hszi := hbi.size
              have hx := (HRW.out.below (hbO.trans (hbi.mono hszO)) hbL).nth hil
              have hfx := HSB.out _ (nth_mem L i hil)
              go_upto_if 43 with fail
              go_cut [9] (fun s9 wx => s9 = .bool (bhB O (nth L i)) ∧ Below wr.heap.size wr wx)
              case first =>
                by_cases hO0 : 0 < O.length
                · obtain ⟨b6, off6, rfl, hb6, hrow6⟩ := HR6.out hO0
                  obtain ⟨p, hp⟩ : ∃ p, O.length = p + 1 := ⟨O.length - 1, by omega⟩
                  have hy := (hrow6.below hbi hb6).nth (k := p) (by omega)
                  have hfy := HSB.out _ (hSel.out.sub _ (nth_mem O p (by omega)))
                  have hbl := bhB_last O p hp (nth L i)
                  clear hrow6 HR6
                  obtain ⟨c0, c1, c2, c3, c4, c5⟩ := hx
                  obtain ⟨d0, d1, d2, d3, d4, d5⟩ := hy
                  generalize nth L i = x at *
                  generalize nth O p = y at *
                  have HBL : Hid (bhB O x = decide (0 < plc x y)) := hbl
                  clear hbl
                  have hbr : bL < wr.heap.size := by omega
                  have hbr6 : b6 < wr.heap.size := by omega
                  have q1 : (0 : Int) ≤ (i : Int) := by omega
                  have q2 : (i : Int) < (L.length : Int) := by omega
                  have q3 : (0 : Int) ≤ (p : Int) := by omega
                  have q4 : (p : Int) < (O.length : Int) := by omega
                  have q5 : (0 : Int) < (O.length : Int) := by omega
                  have hw1 : IntKind.i64.wrap (p : Int) = (p : Int) := by rw [IntKind.wrap_i64]; omega
                  have hw2 : (O.length : Int) - 1 = (p : Int) := by omega
                  have HP : Hid (O.length = p + 1) := hp
                  clear hp
                  go_wp2
                  go_region_held3 (fun w' => w'.cell? ⟨bL, offL + i * 6, none⟩ = some (.int .i64 x.ty) ∧ w'.cell? ⟨bL, offL + i * 6 + 1, none⟩ = some (.string x.key) ∧ w'.cell? ⟨bL, offL + i * 6 + 2, none⟩ = some (.int .i64 x.side) ∧ w'.cell? ⟨bL, offL + i * 6 + 3, none⟩ = some (.int .i64 x.who) ∧ w'.cell? ⟨bL, offL + i * 6 + 4, none⟩ = some (.string x.elem) ∧ w'.cell? ⟨bL, offL + i * 6 + 5, none⟩ = some (.int .i64 x.n) ∧ w'.cell? ⟨b6, off6 + p * 6, none⟩ = some (.int .i64 y.ty) ∧ w'.cell? ⟨b6, off6 + p * 6 + 1, none⟩ = some (.string y.key) ∧ w'.cell? ⟨b6, off6 + p * 6 + 2, none⟩ = some (.int .i64 y.side) ∧ w'.cell? ⟨b6, off6 + p * 6 + 3, none⟩ = some (.int .i64 y.who) ∧ w'.cell? ⟨b6, off6 + p * 6 + 4, none⟩ = some (.string y.elem) ∧ w'.cell? ⟨b6, off6 + p * 6 + 5, none⟩ = some (.int .i64 y.n)) (first | go_keep | (go_split_ands; refine ⟨?_, ?_, ?_, ?_, ?_, ?_, ?_, ?_, ?_, ?_, ?_, ?_⟩ <;> (first | (rw [hb1.cell (p := ⟨bL, _, none⟩) (by simpa using hbr)]; assumption) | (rw [hb1.cell (p := ⟨b6, _, none⟩) (by simpa using hbr6)]; assumption)))) (first | (go_at_call 118; refine (places_any x y _ hfx hfy).mono ?_; rintro e w1 ⟨rfl, hb1⟩))
                  go_wp2
                  go_meet
                  case rel => exact ⟨by rw [HBL.out], (Below.refl _ wr).drew.trans hb1⟩
                · have hO1 : O = [] := List.length_eq_zero_iff.1 (by omega)
                  have HBL : Hid (bhB O (nth L i) = true) := by rw [hO1]; rfl
                  have hz : (O.length : Int) = 0 := by omega
                  clear hO1
                  go_wp2
                  go_meet
                  case rel => exact ⟨by rw [HBL.out], Below.refl _ _⟩
              case rest =>
                obtain ⟨rfl, hbc⟩ := hcut
                have hszc := hbc.size
                have hbic : Below wo.heap.size wo wc := hbi.trans (hbc.mono hszi)
                have hx' := cellsAt_below hbc (by omega) hx
                clear hx hbc hbi
                cases hbb : bhB O (nth L i)
                · have hnb : ¬ bh O (nth L i) := fun h => by rw [(bhB_iff _ _).2 h] at hbb; cases hbb
                  have HB : Hid (Best L O (i + 1) bb) := hbest.out.skip hnb
                  clear hnb hbb
                  go_wp2
                  exact ⟨⟨i + 1, bb, by omega, by go_num, rfl, HB, hbic⟩, by simp [intOf]; omega⟩
                · have hbh : bh O (nth L i) := (bhB_iff _ _).1 hbb
                  clear hbb
                  by_cases hneg : bb = -1
                  · subst hneg
                    have HB : Hid (Best L O (i + 1) i) := hbest.out.first hbh
                    clear hbh
                    go_wp2
                    exact ⟨⟨i + 1, i, by omega, by go_num, rfl, HB, hbic⟩, by simp [intOf]; omega⟩
                  · obtain ⟨m, rfl, hmi⟩ : ∃ m : Nat, bb = m ∧ m < i := by
                      rcases hbest.out with ⟨h0, _⟩ | ⟨m, h1, h2, _⟩
                      · exact absurd h0 hneg
                      · exact ⟨m, h1, h2⟩
                    clear hneg
                    have hszo := hbic.size
                    have hy := (HRW.out.below (hbO.trans (hbic.mono hszO)) hbL).nth (k := m) (by omega)
                    have hfy := HSB.out _ (nth_mem L m (by omega))
                    have htk := fun h => hbest.out.take hbh h
                    have hkp := fun h => hbest.out.keep h
                    obtain ⟨c0, c1, c2, c3, c4, c5⟩ := hx'
                    obtain ⟨d0, d1, d2, d3, d4, d5⟩ := hy
                    clear hbh
                    generalize nth L i = x at *
                    generalize nth L m = y at *
                    have HTK : Hid (plc x y < 0 → Best L O (i + 1) i) := htk
                    have HKP : Hid (0 ≤ plc x y → Best L O (i + 1) m) := hkp
                    clear htk hkp
                    have hbr : bL < wc.heap.size := by omega
                    have q1 : (0 : Int) ≤ (i : Int) := by omega
                    have q2 : (i : Int) < (L.length : Int) := by omega
                    have q3 : (0 : Int) ≤ (m : Int) := by omega
                    have q4 : (m : Int) < (L.length : Int) := by omega
                    go_wp2
                    go_region_held3 (fun w' => w'.cell? ⟨bL, offL + i * 6, none⟩ = some (.int .i64 x.ty) ∧ w'.cell? ⟨bL, offL + i * 6 + 1, none⟩ = some (.string x.key) ∧ w'.cell? ⟨bL, offL + i * 6 + 2, none⟩ = some (.int .i64 x.side) ∧ w'.cell? ⟨bL, offL + i * 6 + 3, none⟩ = some (.int .i64 x.who) ∧ w'.cell? ⟨bL, offL + i * 6 + 4, none⟩ = some (.string x.elem) ∧ w'.cell? ⟨bL, offL + i * 6 + 5, none⟩ = some (.int .i64 x.n) ∧ w'.cell? ⟨bL, offL + m * 6, none⟩ = some (.int .i64 y.ty) ∧ w'.cell? ⟨bL, offL + m * 6 + 1, none⟩ = some (.string y.key) ∧ w'.cell? ⟨bL, offL + m * 6 + 2, none⟩ = some (.int .i64 y.side) ∧ w'.cell? ⟨bL, offL + m * 6 + 3, none⟩ = some (.int .i64 y.who) ∧ w'.cell? ⟨bL, offL + m * 6 + 4, none⟩ = some (.string y.elem) ∧ w'.cell? ⟨bL, offL + m * 6 + 5, none⟩ = some (.int .i64 y.n)) (first | go_keep | (go_split_ands; refine ⟨?_, ?_, ?_, ?_, ?_, ?_, ?_, ?_, ?_, ?_, ?_, ?_⟩ <;> (rw [hb1.cell (p := ⟨bL, _, none⟩) (by simpa using hbr)]; assumption))) (first | (go_at_call 118; refine (places_any x y _ hfx hfy).mono ?_; rintro e w1 ⟨rfl, hb1⟩))
                    have hbw1 : Below wo.heap.size wo w1 := hbic.drew.trans (hb1.mono hszo)
                    clear hb1
                    go_wp2
                    all_goals go_light
                    · exact ⟨⟨i + 1, i, by omega, by go_num, rfl, HTK.out (by assumption), hbw1⟩, by simp [intOf]; omega⟩
                    · exact ⟨⟨i + 1, m, by omega, by go_num, rfl, HKP.out (by assumption), hbw1⟩, by simp [intOf]; omega⟩
            · have hiL' : i = L.length := by omega
              subst hiL'
              obtain ⟨m, rfl, hm, hbm, hmin⟩ := hbest.out.found HAP.out hSel.out hmore
              have HSel' : Hid (Sel L (O ++ [nth L m])) := hSel.out.step HAP.out hm hbm hmin
              have hszi := hbi.size
              have hx := (HRW.out.below (hbO.trans (hbi.mono hszO)) hbL).nth hm
              have hft := flat_snoc O (nth L m)
              obtain ⟨c0, c1, c2, c3, c4, c5⟩ := hx
              clear hbm hmin hbest hSel
              generalize nth L m = x at *
              have HF : Hid (flat (O ++ [x]) = flat O ++ enc x) := hft
              clear hft
              have hown1 := owns_below hownO hbi
              have hbw1 : Below wL.heap.size wL wr := hbO.trans (hbi.mono hszO)
              have hsz1 := hbw1.size
              go_wp2_with (at_builtin; refine wpList_append_lies _ rfl _ _ 56 rfl wL.heap.size 77 i0 _ 6 64 Tryz.underlying56 hi hz0 hz1 hz2 rfl (by decide) _ O.length _ rfl (hown1.alloc _) ⟨wr.heap.size, 0, none⟩ 1 1 (enc x) rfl rfl (news_at wr x _) (enc_oneCell x) (by decide) (by unfold maxLen; omega) (by omega) (by simp; omega) (wr.heap.size + 1) (by simp) ?_; intro g capn w2 hown2 hgrow2 hat2 hlt2)
              go_roundw
              case rel => exact ⟨O ++ [x], by simp; omega, by rw [HF.out, List.length_append]; exact hown2, HSel', (hbw1.alloc hsz1 _).grown hgrow2 (by simp; omega) (owns_base hown1)⟩
              case measure => simp [lenOf]; omega
        · have hdn := HDN.out O hSel.out (by omega)
          have hfin := owns_mono hownO hbw.size
          have hbf : Below w.heap.size w wr := hbw.trans (hbO.mono hbw.size)
          obtain ⟨ad6, cap6, rfl, hc6, H6⟩ := sliceOf_owns rfl hownO
          clear H6
          have HDN' : Hid (IsTold l O) := hdn
          clear hdn
          have hz : O.length = L.length := by omega
          go_wp2
          go_ret
          exact ⟨_, O, rfl, hfin, HDN', hbf⟩
end Go.Proofs.YtahdlejgjcjeoaaGreatDoor

namespace Go.Proofs.YtahdlejgjcjeoaaGreatDoor
open Go.RowKit

set_option maxHeartbeats 400000 in
theorem there_any (x : Nat) (r : Int) (ad : Option Addr) (n cap : Nat) (w : World) (c5 : w.cell? ⟨x, 5, none⟩ = some (.slice ad n cap)) :
    Calls Tryz.prog 69 #[.pointer (some ⟨x, 0, none⟩), .int .i64 r] w fun e w' => e = .returned (.bool (decide (0 ≤ r ∧ r < n))) ∧ w' = w := by
  by_cases h : 0 ≤ r
  · go_enter Tryz.func69, Tryz.ntmps69
    go_wp2
    go_ret
    exact ⟨ret_bool (by simp [h]), rfl⟩
  · go_enter Tryz.func69, Tryz.ntmps69
    go_wp2
    go_ret
    exact ⟨ret_bool (by simp; omega), rfl⟩

set_option maxHeartbeats 400000 in
theorem has_any (x : Nat) (r : Int) (ad : Option Addr) (n cap : Nat) (w : World) (c6 : w.cell? ⟨x, 6, none⟩ = some (.slice ad n cap)) :
    Calls Tryz.prog 122 #[.pointer (some ⟨x, 0, none⟩), .int .i64 r] w fun e w' => e = .returned (.bool (decide (0 ≤ r ∧ r < n))) ∧ w' = w := by
  by_cases h : 0 ≤ r
  · go_enter Tryz.func122, Tryz.ntmps122
    go_wp2
    go_ret
    exact ⟨ret_bool (by simp [h]), rfl⟩
  · go_enter Tryz.func122, Tryz.ntmps122
    go_wp2
    go_ret
    exact ⟨ret_bool (by simp; omega), rfl⟩

set_option maxHeartbeats 400000 in
theorem refFlight_any (x : Nat) (ad : Option Addr) (n cap : Nat) (w : World) (c6 : w.cell? ⟨x, 6, none⟩ = some (.slice ad n cap)) :
    Calls Tryz.prog 40 #[.pointer (some ⟨x, 0, none⟩)] w fun e w' => e = .returned (.int .i64 n) ∧ w' = w := by
  go_enter Tryz.func40, Tryz.ntmps40
  go_wp2
  go_ret
  exact ⟨rfl, rfl⟩

theorem refThere {w : World} {col : Col} {o x : Nat} {K : RefC} {c : Clu} (h : RefAt w col o x K c) (r : Int) :
    Calls Tryz.prog 69 #[.pointer (some ⟨x, 0, none⟩), .int .i64 r] w fun e w' => e = .returned (.bool (c.there r)) ∧ w' = w := by
  obtain ⟨ad, cap, hv, _⟩ := h.rows.form
  have c5 := h.cells.2.2.2.2.2.1
  rw [hv, h.len] at c5
  exact there_any x r ad _ cap w c5
theorem refHas {w : World} {col : Col} {o x : Nat} {K : RefC} {c : Clu} (h : RefAt w col o x K c) (r : Int) :
    Calls Tryz.prog 122 #[.pointer (some ⟨x, 0, none⟩), .int .i64 r] w fun e w' => e = .returned (.bool (c.has r)) ∧ w' = w := by
  obtain ⟨ad, cap, hv, _⟩ := h.net.form
  have c6 := h.cells.2.2.2.2.2.2.1
  have hl : K.ns.length = c.net.length := by rw [← h.nets, List.length_map]
  rw [hv, hl] at c6
  exact has_any x r ad _ cap w c6
theorem refFlight {w : World} {col : Col} {o x : Nat} {K : RefC} {c : Clu} (h : RefAt w col o x K c) :
    Calls Tryz.prog 40 #[.pointer (some ⟨x, 0, none⟩)] w fun e w' => e = .returned (.int .i64 c.net.length) ∧ w' = w := by
  obtain ⟨ad, cap, hv, _⟩ := h.net.form
  have c6 := h.cells.2.2.2.2.2.2.1
  have hl : K.ns.length = c.net.length := by rw [← h.nets, List.length_map]
  rw [hv, hl] at c6
  exact refFlight_any x ad _ cap w c6

set_option maxHeartbeats 400000 in
theorem refWorks {w : World} {col : Col} {o x : Nat} {K : RefC} {c : Clu} (h : RefAt w col o x K c) (_h6 : c.reps.length ≤ 6) (r : Int) :
    Calls Tryz.prog 68 #[.pointer (some ⟨x, 0, none⟩), .int .i64 r] w fun e w' => e = .returned (.int .i64 (c.works r)) ∧ w' = w := by
  have HT := refThere h r
  cases ht : c.there r
  · rw [ht] at HT
    go_enter Tryz.func68, Tryz.ntmps68
    go_wp2_with fail
    refine HT.mono ?_
    rintro e w' ⟨rfl, rfl⟩
    go_wp2
    go_ret
    exact ⟨ret_int (by unfold Clu.works; rw [ht]; rfl), rfl⟩
  · obtain ⟨h0, hr⟩ := there_lt ht
    obtain ⟨n, rfl⟩ : ∃ n : Nat, r = n := ⟨r.toNat, by omega⟩
    simp only [Int.toNat_natCast] at hr
    obtain ⟨g, cap, D, hv, hc, hD, hp, hR⟩ := h.ptr hr
    have c5 := h.cells.2.2.2.2.2.1
    rw [hv] at c5
    have d0 := hR.cells.1
    have HW : Hid (c.works (n : Int) = if (c.rep n).down then 8 else 0) := by unfold Clu.works Hid; rw [ht]; simp
    rw [ht] at HT
    clear h hR ht
    generalize (c.rep n).down = dn at *
    generalize c.reps.length = L at *
    have q1 : (n : Int) < (L : Int) := by omega
    cases dn
    · go_enter Tryz.func68, Tryz.ntmps68
      go_wp2_with fail
      refine HT.mono ?_
      rintro e w' ⟨rfl, rfl⟩
      go_wp2
      go_ret
      exact ⟨ret_int (by rw [HW.out]; rfl), rfl⟩
    · go_enter Tryz.func68, Tryz.ntmps68
      go_wp2_with fail
      refine HT.mono ?_
      rintro e w' ⟨rfl, rfl⟩
      go_wp2
      go_ret
      exact ⟨ret_int (by rw [HW.out]; rfl), rfl⟩

end Go.Proofs.YtahdlejgjcjeoaaGreatDoor

namespace Go.Proofs.YtahdlejgjcjeoaaGreatDoor
open Go.RowKit Go.MuLone

/-- The lock taken and given back: nothing has turned. -/
theorem below_lock {w w2 : World} {x : Nat} (h : w.cell? ⟨x, 0, none⟩ = some (.int .i32 0)) (hb : Below w.heap.size (w.setCell ⟨x, 0, none⟩ (.int .i32 1)) w2) : Below w.heap.size w (w2.setCell ⟨x, 0, none⟩ (.int .i32 0)) := by
  have g1 := grown_setCell w ⟨x, 0, none⟩ (.int .i32 1)
  have g2 := grown_setCell w2 ⟨x, 0, none⟩ (.int .i32 0)
  obtain ⟨cs, e, fz, hx, h0⟩ := Go.Sort.cells_of_cell? h
  have hlt : x < w.heap.size := (Array.getElem?_eq_some_iff.1 hx).1
  refine ⟨g2.os.trans (hb.os.trans g1.os), g2.tape.trans (hb.tape.trans g1.tape), g2.output.trans (hb.output.trans g1.output), Nat.le_trans (Nat.le_trans g1.size hb.size) g2.size, fun k hk => ?_⟩
  by_cases hkx : k = x
  · subst hkx
    have h1 : w2.heap[k]? = some (.cells (cs.setIfInBounds 0 (.int .i32 1)) e fz) := by
      rw [hb.block k hk]
      exact heap_setCell_at hx _
    rw [heap_setCell_at h1, hx]
    have : (cs.setIfInBounds 0 (Value.int .i32 1)).setIfInBounds 0 (.int .i32 0) = cs := by
      apply Array.ext_getElem?
      intro i
      by_cases hi : i = 0
      · subst hi
        rw [h0]
        have : 0 < cs.size := (Array.getElem?_eq_some_iff.1 h0).1
        simp [this]
      · simp [Ne.symm hi]
    rw [this]
  · have n1 : some k ≠ some (⟨x, 0, none⟩ : Addr).block := fun e => hkx (by cases e; rfl)
    rw [g2.block k (Nat.lt_of_lt_of_le hk (Nat.le_trans g1.size hb.size)) n1, hb.block k hk]
    exact g1.block k hk n1

set_option maxRecDepth 100000 in
theorem one_no (x : Nat) (r : Int) (ad : Option Addr) (n cap : Nat) (w : World) (c41 : w.cell? ⟨x, 41, none⟩ = some (.slice ad n cap)) (hr : ¬ (0 ≤ r ∧ r < n)) :
    Calls Tryz.prog 52 #[.pointer (some ⟨x, 0, none⟩), .int .i64 r] w fun e w' => e = .returned (.tuple #[.pointer none, .int .i64 5]) ∧ w' = w := by
  go_enter Tryz.func52, Tryz.ntmps52
  by_cases h0 : r < 0
  · go_wp2
    go_ret2
    exact ⟨rfl, rfl⟩
  · have q1 : (n : Int) ≤ r := by omega
    have q0 : 0 ≤ r := by omega
    go_wp2
    go_ret2
    exact ⟨rfl, rfl⟩
set_option maxRecDepth 100000 in
theorem one_yes (x R i n cap : Nat) (w : World) (c41 : w.cell? ⟨x, 41, none⟩ = some (.slice (some ⟨R, 0, none⟩) n cap)) (hi : i < n) :
    Calls Tryz.prog 52 #[.pointer (some ⟨x, 0, none⟩), .int .i64 i] w fun e w' => e = .returned (.tuple #[.pointer (some ⟨R, i * 14, none⟩), .int .i64 0]) ∧ w' = w := by
  have q1 : (i : Int) < (n : Int) := by omega
  have q0 : (0 : Int) ≤ (i : Int) := by omega
  go_enter Tryz.func52, Tryz.ntmps52
  go_wp2
  go_ret2
  exact ⟨by simp, rfl⟩
end Go.Proofs.YtahdlejgjcjeoaaGreatDoor

namespace Go.Proofs.YtahdlejgjcjeoaaGreatDoor
open Go.RowKit Go.MuLone

/-- The cluster's block: the lock is free, the row of replicas. -/
structure ClAt (w : World) (x R n cap : Nat) : Prop where
  c0 : w.cell? ⟨x, 0, none⟩ = some (.int .i32 0)
  f0 : w.frozen? ⟨x, 0, none⟩ = false
  c41 : w.cell? ⟨x, 41, none⟩ = some (.slice (some ⟨R, 0, none⟩) n cap)
  xR : x ≠ R
  cap : n ≤ cap
theorem ClAt.lt {w : World} {x R n cap : Nat} (h : ClAt w x R n cap) : x < w.heap.size := by
  obtain ⟨cs, e, fz, hx, _⟩ := Go.Sort.cells_of_cell? h.c0
  exact (Array.getElem?_eq_some_iff.1 hx).1
theorem ClAt.l41 {w : World} {x R n cap : Nat} (h : ClAt w x R n cap) : (w.setCell ⟨x, 0, none⟩ (.int .i32 1)).cell? ⟨x, 41, none⟩ = some (.slice (some ⟨R, 0, none⟩) n cap) :=
  (World.cell?_setCell_other _ ⟨x, 0, none⟩ ⟨x, 41, none⟩ _ (by simp)).trans h.c41
theorem ClAt.lR {w : World} {x R n cap k : Nat} {v : Value} (h : ClAt w x R n cap) (hv : w.cell? ⟨R, k, none⟩ = some v) : (w.setCell ⟨x, 0, none⟩ (.int .i32 1)).cell? ⟨R, k, none⟩ = some v :=
  (World.cell?_setCell_other _ ⟨x, 0, none⟩ ⟨R, k, none⟩ _ (fun e => h.xR (by cases e; rfl))).trans hv
theorem lock_size (w : World) (x : Nat) : (w.setCell ⟨x, 0, none⟩ (.int .i32 1)).heap.size = w.heap.size := by simp
theorem ClAt.unlock {w w2 : World} {x R n cap : Nat} (h : ClAt w x R n cap) (hb : Below w.heap.size (w.setCell ⟨x, 0, none⟩ (.int .i32 1)) w2) : w2.cell? ⟨x, 0, none⟩ = some (.int .i32 1) ∧ w2.frozen? ⟨x, 0, none⟩ = false ∧ Below w.heap.size w (w2.setCell ⟨x, 0, none⟩ (.int .i32 0)) := by
  refine ⟨?_, ?_, below_lock h.c0 hb⟩
  · rw [hb.cell (p := ⟨x, 0, none⟩) h.lt]
    exact World.cell?_setCell_same _ _ _ h.c0
  · rw [hb.frozen (p := ⟨x, 0, none⟩) h.lt, World.frozen?_setCell]
    exact h.f0
theorem ClAt.below {w w' : World} {x R n cap : Nat} {B : Nat} (h : ClAt w x R n cap) (hb : Below B w w') (hx : x < B) : ClAt w' x R n cap :=
  ⟨by rw [hb.cell (p := ⟨x, 0, none⟩) hx]; exact h.c0, by rw [hb.frozen (p := ⟨x, 0, none⟩) hx]; exact h.f0, by rw [hb.cell (p := ⟨x, 41, none⟩) hx]; exact h.c41, h.xR, h.cap⟩

set_option maxRecDepth 100000 in
theorem upOne_no (x : Nat) (r : Int) (ad : Option Addr) (n cap : Nat) (w : World) (c41 : w.cell? ⟨x, 41, none⟩ = some (.slice ad n cap)) (hr : ¬ (0 ≤ r ∧ r < n)) :
    Calls Tryz.prog 54 #[.pointer (some ⟨x, 0, none⟩), .int .i64 r] w fun e w' => e = .returned (.tuple #[.pointer none, .int .i64 5]) ∧ w' = w := by
  go_enter Tryz.func54, Tryz.ntmps54
  go_wp2_with fail
  refine (one_no x r ad n cap w c41 hr).mono ?_
  rintro e w1 ⟨rfl, rfl⟩
  go_wp2
  go_ret2
  exact ⟨rfl, rfl⟩
set_option maxRecDepth 100000 in
theorem upOne_yes (x R i n cap : Nat) (up : Bool) (w : World) (c41 : w.cell? ⟨x, 41, none⟩ = some (.slice (some ⟨R, 0, none⟩) n cap)) (hi : i < n) (hup : w.cell? ⟨R, i * 14, none⟩ = some (.bool up)) :
    Calls Tryz.prog 54 #[.pointer (some ⟨x, 0, none⟩), .int .i64 i] w fun e w' => e = .returned (.tuple #[.pointer (if up then some ⟨R, i * 14, none⟩ else none), .int .i64 (if up then 0 else 8)]) ∧ w' = w := by
  go_enter Tryz.func54, Tryz.ntmps54
  go_wp2_with fail
  refine (one_yes x R i n cap w c41 hi).mono ?_
  rintro e w1 ⟨rfl, rfl⟩
  cases up
  · go_wp2
    go_ret2
    exact ⟨rfl, rfl⟩
  · go_wp2
    go_ret2
    exact ⟨rfl, rfl⟩

set_option maxRecDepth 100000 in
theorem prgFlight (x R n cap : Nat) (ad : Option Addr) (m cp : Nat) (w : World) (h : ClAt w x R n cap) (c42 : w.cell? ⟨x, 42, none⟩ = some (.slice ad m cp)) :
    Calls Tryz.prog 93 #[.pointer (some ⟨x, 0, none⟩)] w fun e w' => e = .returned (.int .i64 m) ∧ Below w.heap.size w w' := by
  have k42 : (w.setCell ⟨x, 0, none⟩ (.int .i32 1)).cell? ⟨x, 42, none⟩ = some (.slice ad m cp) := (World.cell?_setCell_other _ ⟨x, 0, none⟩ ⟨x, 42, none⟩ _ (by simp)).trans c42
  go_enter_defers Tryz.func93, Tryz.ntmps93
  go_wp2_with (go_at_call 50; refine (lock_free muLib ⟨x, 0, none⟩ _ h.c0 h.f0).mono ?_; rintro e w' ⟨rfl, rfl⟩)
  refine leaves_cons (f := 51) (args := #[.pointer (some ⟨x, 0, none⟩)]) (by simp) (by simp [go_sem]) ?_
  obtain ⟨u0, u1, u2⟩ := h.unlock (w2 := _) (Below.refl _ _)
  refine (unlock_deferred muLib ⟨x, 0, none⟩ .returning _ u0 u1).mono ?_
  rintro e u' w'' ⟨rfl, rfl, rfl⟩
  exact ⟨_, results_tmp rfl _ _ _, rfl, u2⟩
end Go.Proofs.YtahdlejgjcjeoaaGreatDoor

namespace Go.Proofs.YtahdlejgjcjeoaaGreatDoor
open Go.RowKit

theorem infoTaken : (Tryz.prog.info? 156).map (fun i => (i.zero, i.size, i.bytes)) = some (some (.agg #[.int .i64 0, .int .i64 0, .slice none 0 0, .bool false]), 4, 48) := by kernel_rfl
theorem tk_len (t : Tk) : t.cells.length = 4 := rfl
theorem filter_snoc {α : Type} (q : α → Bool) (l : List α) (k : Nat) (h : k < l.length) : (l.take (k + 1)).filter q = if q l[k] then (l.take k).filter q ++ [l[k]] else (l.take k).filter q := by
  rw [List.take_succ_eq_append_getElem h, List.filter_append]
  cases hq : q l[k] <;> simp [hq]
theorem held_one {w : World} {col : Col} {κ : Nat × Nat} {v : Value} {l : List At} (h : Held w col κ v l) : v.oneCell' = true := by
  obtain ⟨ad, cap, rfl, _⟩ := h
  rfl

theorem four_one {a b : Int} {v : Value} (h : v.oneCell' = true) (q : Bool) : ∀ u ∈ [Value.int .i64 a, .int .i64 b, v, .bool q], u.oneCell' = true := by
  intro u hu
  simp only [List.mem_cons, List.not_mem_nil, or_false] at hu
  rcases hu with rfl | rfl | rfl | rfl
  · rfl
  · rfl
  · exact h
  · rfl

set_option maxHeartbeats 1000000 in
theorem keep_any {w : World} {col : Col} {o i : Nat} {near : List Bool} {D : RefD} {p : Rep} (h : RefRep w col o i near D p) (hn : p.num ≤ 4294967296) :
    Calls Tryz.prog 111 #[.pointer (some ⟨D.ρ, 0, none⟩)] w fun e w' => ∃ v, e = .returned v ∧ w'.ownsRow w.heap.size 156 4 v (D.ts.filter (·.kept)).length ((D.ts.filter (·.kept)).flatMap Tk.cells) ∧ Below w.heap.size w w' := by
  have d4 := h.cells.2.2.2.2.1
  have hlt := blk_lt h.blk
  obtain ⟨ad, cap, hv, hc, H⟩ := h.taken.elem tk_len
  rw [hv] at d4
  have HR : Hid (0 < D.ts.length → ∃ g, ad = some ⟨g, 0, none⟩ ∧ g < w.heap.size ∧ ∀ k (hk : k < D.ts.length) j u, (D.ts[k].cells)[j]? = some u → w.cell? ⟨g, k * 4 + j, none⟩ = some u) := fun h0 => by
    obtain ⟨g, h1, h2, _, _, h3⟩ := H h0
    exact ⟨g, h1, h2, h3⟩
  have HV : Hid (∀ t ∈ D.ts, t.v.oneCell' = true) := fun t ht => held_one (h.tkd t ht)
  have hl : D.ts.length ≤ 4294967296 := Nat.le_trans h.tsl hn
  clear H h hv
  generalize D.ρ = ρ at *
  generalize D.ts = ts at *
  obtain ⟨i0, hi, hz0, hz1, hz2⟩ := info_parts infoTaken
  go_enter Tryz.func111, Tryz.ntmps111
  go_wp2
  go_loopw [3, 4] (fun v j wr => ∃ (k m : Nat), k ≤ ts.length ∧ m ≤ k ∧ j = .int .i64 k ∧ Hid (m = ((ts.take k).filter (·.kept)).length) ∧ wr.ownsRow w.heap.size 156 4 v m (((ts.take k).filter (·.kept)).flatMap Tk.cells) ∧ Below w.heap.size w wr) (fun _ j _ => ts.length - (intOf j).toNat)
  case atStart => exact ⟨0, 0, Nat.zero_le _, Nat.le_refl _, rfl, by simp [Hid], by simp [World.ownsRow], Below.refl _ _⟩
  case round =>
    obtain ⟨k, m, hk, hmk, rfl, hm, hown, hbw⟩ := hrel
    have d4r : wr.cell? ⟨ρ, 4, none⟩ = some (.slice ad ts.length cap) := by rw [hbw.cell (p := ⟨ρ, 4, none⟩) hlt]; exact d4
    by_cases hl : k < ts.length
    · obtain ⟨g, rfl, hg, hrow⟩ := HR.out (by omega)
      have e0 : wr.cell? ⟨g, k * 4, none⟩ = some (.int .i64 (ts[k].num)) := by rw [hbw.cell (p := ⟨g, k * 4, none⟩) hg]; exact hrow k hl 0 _ rfl
      have e1 : wr.cell? ⟨g, k * 4 + 1, none⟩ = some (.int .i64 (ts[k].org)) := by rw [hbw.cell (p := ⟨g, k * 4 + 1, none⟩) hg]; exact hrow k hl 1 _ rfl
      have e2 : wr.cell? ⟨g, k * 4 + 2, none⟩ = some ts[k].v := by rw [hbw.cell (p := ⟨g, k * 4 + 2, none⟩) hg]; exact hrow k hl 2 _ rfl
      have e3 : wr.cell? ⟨g, k * 4 + 3, none⟩ = some (.bool ts[k].kept) := by rw [hbw.cell (p := ⟨g, k * 4 + 3, none⟩) hg]; exact hrow k hl 3 _ rfl
      have hone := HV.out ts[k] (List.getElem_mem hl)
      have HF : Hid (((ts.take (k + 1)).filter (·.kept)) = if ts[k].kept then (ts.take k).filter (·.kept) ++ [ts[k]] else (ts.take k).filter (·.kept)) := filter_snoc _ ts k hl
      clear hrow HR HV
      have hsz := hbw.size
      generalize ts[k] = t at *
      obtain ⟨tn, tg, tv, td, tb⟩ := t
      simp only at e0 e1 e2 e3 hone
      cases tb
      · go_wp2
        go_roundw
        case rel => exact ⟨k + 1, m, by omega, by omega, by go_num, by rw [Hid, HF.out]; exact hm.out, by rw [HF.out]; exact hown, hbw⟩
        case measure => simp [intOf]; omega
      · go_wp2_with (at_builtin; refine wpList_append_lies _ rfl _ _ 130 rfl w.heap.size 156 i0 _ 4 48 Tryz.underlying130 hi hz0 hz1 hz2 rfl (by decide) _ m _ rfl (hown.alloc _) ⟨wr.heap.size, 0, none⟩ 1 1 [.int .i64 tn, .int .i64 tg, tv, .bool true] rfl rfl (World.news_of_block (heap_alloc_new wr _)) (four_one hone _) (by decide) (by unfold maxLen; omega) (by omega) (by simp; omega) (wr.heap.size + 1) (by simp) ?_; intro g1 capn w1 hown1 hgrow1 hat1 hlt1)
        go_roundw
        case rel => exact ⟨k + 1, m + 1, by omega, by omega, by go_num, by rw [Hid, HF.out, hm.out]; simp, by rw [HF.out]; simpa [Tk.cells] using hown1, (hbw.alloc hsz _).grown hgrow1 (by simp; omega) (owns_base hown)⟩
        case measure => simp [intOf]; omega
    · go_wp2
      go_ret
      rw [List.take_of_length_le (by omega)] at hown hm
      exact ⟨_, rfl, by rw [← hm.out]; exact hown, hbw⟩

/-- As great as a script can make it. -/
def Lim (U : List At) (N : Nat) : Prop := N ≤ 2097152 ∧ U.length ≤ 131072
theorem Lim.prod {U : List At} {N : Nat} (h : Lim U N) : (N + 1) * U.length ≤ 274878038016 := Nat.le_trans (Nat.mul_le_mul (Nat.succ_le_succ h.1) h.2) (by decide)
theorem Rep.ok.may {U : List At} {N n room : Nat} {p : Rep} (h : p.ok U N n room) (hU : ∀ a ∈ U, mayB a = true) : ∀ a ∈ p.atoms, mayB a = true := fun a ha => hU a (h.sub a ha)

set_option maxHeartbeats 1000000 in
theorem refState {w : World} {col : Col} {o x N : Nat} {U : List At} {K : RefC} {c : Clu} (h : RefAt w col o x K c) (hok : c.ok U N) (hL : Lim U N) (r : Int) :
    Calls Tryz.prog 125 #[.pointer (some ⟨x, 0, none⟩), .int .i64 r] w fun e w' => ∃ v out, e = .returned (.tuple #[v, .int .i64 (c.works r)]) ∧ w'.ownsRow w.heap.size 77 6 v out.length (flat out) ∧ Hid (out = if c.works r = 0 then tell (c.rep r.toNat).atoms else []) ∧ Below w.heap.size w w' := by
  have HW := refWorks h hok.n6 r
  by_cases hw : c.works r = 0
  · obtain ⟨⟨h0, hr⟩, hd⟩ := works_zero hw
    obtain ⟨n, rfl⟩ : ∃ n : Nat, r = n := ⟨r.toNat, by omega⟩
    simp only [Int.toNat_natCast] at hr hd ⊢
    obtain ⟨g, cap, D, hv, hc, hD, hp, hR⟩ := h.ptr hr
    have c5 := h.cells.2.2.2.2.2.1
    rw [hv] at c5
    have d1 := hR.cells.2.1
    have hrep := hok.rep hr
    have HT := told_any D.va (c.rep n).atoms w hR.atoms.slice (fun a ha => fits_of_may (hok.may a (hrep.sub a ha))) (by have := hrep.alen; have := hL.prod; omega)
    have HU : Hid (∀ out, IsTold (c.rep n).atoms out → out = tell (c.rep n).atoms) := fun out ho => ho.unique (hrep.may hok.may) (tell_told _)
    obtain ⟨ad, cp, hva, _⟩ := hR.atoms
    rw [hw] at HW ⊢
    rw [hva] at d1 HT
    clear h hR hok hrep hw hD hva hv
    generalize c.reps.length = L at *
    generalize (c.rep n).atoms = A at *
    have q1 : (n : Int) < (L : Int) := by omega
    go_enter Tryz.func125, Tryz.ntmps125
    go_wp2_with fail
    refine HW.mono ?_
    rintro e w' ⟨rfl, rfl⟩
    go_wp2_with fail
    refine HT.mono ?_
    rintro e w' ⟨v', out, rfl, hown, hto, hb⟩
    go_wp2
    go_ret2
    exact ⟨v', rfl, out, hown, HU.out _ hto.out, hb⟩
  · generalize c.works r = cd at *
    go_enter Tryz.func125, Tryz.ntmps125
    go_wp2_with fail
    refine HW.mono ?_
    rintro e w' ⟨rfl, rfl⟩
    go_wp2
    go_ret2
    exact ⟨.slice none 0 0, rfl, [], by simp [flat, World.ownsRow], rfl, Below.refl _ _⟩

theorem fm_len (m : Fm) : m.cells.length = 5 := rfl
/-- What Frame tells. -/
def Clu.frmAt (c : Clu) (k : Int) : Frm := if c.has k then c.frm k.toNat else ⟨0, 0, 0, 0, []⟩

theorem RefAt.frame {w : World} {col : Col} {o x k : Nat} {K : RefC} {c : Clu} (h : RefAt w col o x K c) (hk : k < c.net.length) : ∃ g cap v, K.vN = .slice (some ⟨g, 0, none⟩) c.net.length cap ∧ c.net.length ≤ cap ∧ Held w col (o, 1) v (c.frm k).d ∧ K.ns[k]? = some ⟨c.frm k, v⟩ ∧
    w.cell? ⟨g, k * 5, none⟩ = some (.int .i64 (c.frm k).kind) ∧ w.cell? ⟨g, k * 5 + 1, none⟩ = some (.int .i64 (c.frm k).src) ∧ w.cell? ⟨g, k * 5 + 2, none⟩ = some (.int .i64 (c.frm k).dst) ∧ w.cell? ⟨g, k * 5 + 3, none⟩ = some (.int .i64 (c.frm k).upto) ∧ w.cell? ⟨g, k * 5 + 4, none⟩ = some v := by
  have hl : K.ns.length = c.net.length := by rw [← h.nets, List.length_map]
  have hk' : k < K.ns.length := by omega
  obtain ⟨ad, cap, hv, hc, H⟩ := h.net.elem fm_len
  obtain ⟨g, rfl, hg, _, _, hrow⟩ := H (by omega)
  have hf : c.frm k = (K.ns[k]).f := by
    unfold Clu.frm
    rw [List.getD_eq_getElem?_getD, ← h.nets, List.getElem?_map, List.getElem?_eq_getElem hk']
    rfl
  rw [hl] at hv hc
  refine ⟨g, cap, (K.ns[k]).v, hv, hc, ?_, ?_, ?_, ?_, ?_, ?_, ?_⟩
  · rw [hf]; exact h.netd _ (List.getElem_mem hk')
  · rw [hf, List.getElem?_eq_getElem hk']
  · rw [hf]; exact hrow k hk' 0 _ rfl
  · rw [hf]; exact hrow k hk' 1 _ rfl
  · rw [hf]; exact hrow k hk' 2 _ rfl
  · rw [hf]; exact hrow k hk' 3 _ rfl
  · exact hrow k hk' 4 _ rfl

set_option maxHeartbeats 1000000 in
theorem refFrame {w : World} {col : Col} {o x N : Nat} {U : List At} {K : RefC} {c : Clu} (h : RefAt w col o x K c) (hok : c.ok U N) (k : Int) :
    Calls Tryz.prog 90 #[.pointer (some ⟨x, 0, none⟩), .int .i64 k] w fun e w' => ∃ v, e = .returned (.tuple #[.agg #[.int .i64 (c.frmAt k).kind, .int .i64 (c.frmAt k).src, .int .i64 (c.frmAt k).dst, .int .i64 (c.frmAt k).upto, v], .int .i64 (c.netErr k)]) ∧ SliceOf w' v (c.frmAt k).d ∧ Below w.heap.size w w' := by
  have HW : Hid (∀ W, Below w.heap.size w W → Calls Tryz.prog 122 #[.pointer (some ⟨x, 0, none⟩), .int .i64 k] W fun e w' => e = .returned (.bool (c.has k)) ∧ w' = W) := fun W hW => refHas (h.same hW) k
  have hx := blk_lt h.blk
  unfold Clu.frmAt Clu.netErr
  cases hh : c.has k
  · rw [hh] at HW
    go_enter Tryz.func90, Tryz.ntmps90
    go_wp2_with fail
    refine (HW.out _ (below_alloc (Below.refl _ _) _)).mono ?_
    rintro e w' ⟨rfl, rfl⟩
    go_wp2
    refine bodyPost_ret (v := .tuple #[.agg #[.int .i64 0, .int .i64 0, .int .i64 0, .int .i64 0, .slice none 0 0], .int .i64 10]) ?_ rfl ⟨.slice none 0 0, rfl, sliceOf_nil _, ?_⟩
    · simp [results, Tryz.results90, go_sem]
    · exact below_alloc (Below.refl _ _) _
  · obtain ⟨h0, hlt⟩ := has_lt hh
    obtain ⟨n, rfl⟩ : ∃ n : Nat, k = n := ⟨k.toNat, by omega⟩
    simp only [Int.toNat_natCast] at hlt ⊢
    obtain ⟨g, cap, v, hv, hc, hh1, hh2, e0, e1, e2, e3, e4⟩ := h.frame hlt
    have c6 := h.cells.2.2.2.2.2.2.1
    rw [hv] at c6
    rw [hh] at HW
    have HS : Hid (SliceOf w v (c.frm n).d) := hh1.slice
    have hnl := hok.netL
    obtain ⟨ad, cp, hva, _⟩ := hh1
    have hg : g < w.heap.size := World.block_lt_of_cell? w ⟨g, n * 5, none⟩ e0
    clear h hok hh hh2
    generalize c.frm n = F at *
    obtain ⟨f0, f1, f2, f3, f4⟩ := F
    simp only at *
    generalize c.net.length = L at *
    subst hva
    have q1 : (n : Int) < (L : Int) := by omega
    go_enter Tryz.func90, Tryz.ntmps90
    go_wp2_with fail
    refine (HW.out _ (below_alloc (Below.refl _ _) _)).mono ?_
    rintro e w' ⟨rfl, rfl⟩
    go_wp2
    refine bodyPost_ret (v := .tuple #[.agg #[.int .i64 f0, .int .i64 f1, .int .i64 f2, .int .i64 f3, .slice ad f4.length cp], .int .i64 0]) ?_ rfl ⟨.slice ad f4.length cp, rfl, HS.out.below ?_, ?_⟩
    · simp [results, Tryz.results90, go_sem]
    · exact below_alloc (below_alloc (Below.refl _ _) _) _
    · exact below_alloc (below_alloc (Below.refl _ _) _) _

end Go.Proofs.YtahdlejgjcjeoaaGreatDoor
