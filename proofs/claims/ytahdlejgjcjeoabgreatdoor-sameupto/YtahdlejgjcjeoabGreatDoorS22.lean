/- The program's State and Read, of any cluster. -/
import Derived.Test.YtahdlejgjcjeoabGreatDoorS21
import Derived.Test.YtahdlejgjcjeoabGreatDoorS18
import Derived.Test.YtahdlejgjcjeoabGreatDoorS14
namespace Go.Proofs.YtahdlejgjcjeoabGreatDoor
open Go.RowKit

theorem RiseMid.drew {w : World} {col : Col} {o x i : Nat} {K : PrK} {D : PrD} {p : Rep} {V k : Nat} {wr : World} (h : RiseMid w col o x i K D p V k wr) : RiseMid w col o x i K D p V k wr.drew := by
  obtain ⟨col1, h1, h2⟩ := h
  exact ⟨col1, h1.same ⟨rfl, rfl, rfl, Nat.le_refl _, fun _ _ => rfl⟩, h2.trans (frC_same ⟨rfl, rfl, rfl, Nat.le_refl _, fun _ _ => rfl⟩)⟩
def strSz (v : Value) : Nat := match v with | .string b => b.size | _ => 0

set_option maxRecDepth 100000 in
set_option maxHeartbeats 1000000 in
theorem prgRise {w : World} {col : Col} {o x i N n room : Nat} {U : List At} {K : PrK} {D : PrD} {p : Rep} (h : PrI w col o x i K D) (ho : o ≠ 0) (hT : Tab w col) (hD : D.is p) (hp : p.ok U N n room) (hd : p.down = true) (hL : Lim U N) :
    Calls Tryz.prog 72 #[.pointer (some ⟨K.R, i * 14, none⟩)] w fun e w' => e = .returned (.tuple #[]) ∧ ∃ col' vl, Hid (PrI w' col' o x i K { riseD D p U.length p.log.length with up := true, vl := vl, bytes := ((p.log.map recBytes).flatten) }) ∧ Hid (FrC (ofPrg o i) col col' w w') := by
  obtain ⟨d1, d2, d3, d4, d5⟩ := hp.dn hd
  have c11 := h.cells.c11
  have hcv := row_string h.p.log.own
  obtain ⟨adl, capl, hvl, hcl⟩ := h.p.log.form
  rw [hvl] at c11 hcv
  rw [hD.bytes] at c11 hcv hcl
  have hlb := log_len hp hL
  have HS0 : Hid (RiseMid w col o x i K D p U.length 0 w) := by
    have h0 := h.norm (l := []) (V := U) (by rw [hD.M, d1]) (fun a ha => by cases ha)
    have e : ({ D with n := U.length } : PrD) = riseD D p U.length 0 := by
      unfold riseD
      rw [show D.M = addTo (fun _ => none) ((p.log.take 0).map (·.d)).flatten by rw [hD.M, d1]; rfl]
      have e1 : D.num = lastNum (p.log.take 0) := by rw [hD.num, d2]; rfl
      have e2 : D.base = lastNum (p.log.take 0) := by rw [hD.base, d3]; rfl
      have e3 : D.base = D.num := by rw [e2, e1]
      rw [← e1, e3]
    rw [e] at h0
    exact ⟨col, h0, FrC.refl _ _ _⟩
  have HREC : Hid (∀ k (hk : k < p.log.length), (p.log[k]).ok ∧ (encS (p.log[k]).d).length ≤ 2752520 ∧ (p.log[k]).num ≤ 2097152 ∧ (∀ a ∈ (p.log[k]).d, a ∈ U) ∧ (p.log[k]).d.length ≤ 131072) := fun k hk => by
    obtain ⟨a1, a2, a3, a4⟩ := hp.log _ (List.getElem_mem hk)
    obtain ⟨b1, b2, b3⟩ := Rec.okOf hL a1 a2 a3 a4
    exact ⟨b1, b2, b3, a2, Nat.le_trans (a1.length a2) hL.2⟩
  have HEND : Hid (FirstOk p.torn ∧ ∀ t, Good (fBody p.torn) t → fKind p.torn = 1 ∨ fKind p.torn = 2 → ¬ recBytes ⟨fKind p.torn, fNum p.torn, t⟩ <+: p.torn) := by
    rcases hp.torn with e | ⟨_, r, k, a1, a2, a3, a4, a5, e⟩
    · rw [e]
      refine ⟨⟨by simp, by decide, by decide, by simp [fBody]⟩, fun t _ _ hpre => ?_⟩
      have := hpre.length_le
      rw [recBytes_length] at this
      simp at this
    · rw [e]
      obtain ⟨b1, b2, b3⟩ := Rec.okOf hL a1 a2 a3 a4
      exact first_torn b1 b2 b3 a5
  have HT : Hid (∀ wr col1, FrC (ofPrg o i) col col1 w wr → Tab wr col1) := fun wr col1 hf => hT.kept hf (ofPrg_tab ho)
  have hU := hL.2
  have HDV : Hid (D.vl = .slice adl (logBytes p).length capl) := by rw [Hid, hvl, hD.bytes]
  have HDB := hid_of hD.bytes
  clear h hT hD hp hd hL d1 d2 d3 d4 d5 hvl
  go_enter Tryz.func72, Tryz.ntmps72
  go_wp2
  go_loopw [2] (fun s wr => ∃ k : Nat, k ≤ p.log.length ∧ s = .string (bstr (restOf p k)) ∧ Hid (RiseMid w col o x i K D p U.length k wr)) (fun s _ => strSz s)
  case atStart => exact ⟨0, Nat.zero_le _, rfl, HS0⟩
  case round =>
    obtain ⟨k, hk, rfl, hmid⟩ := hrel
    obtain ⟨col1, hI, hF⟩ := hmid.out
    have hTr := HT.out wr col1 hF
    by_cases hlt : k < p.log.length
    · obtain ⟨hrok, hre, hrn, hru, hrl⟩ := HREC.out k hlt
      have HRS := hid_of (restOf_succ p k hlt)
      have hrle := restOf_le p k
      rw [HRS.out] at hrle
      obtain ⟨f1, f2, f3, f4⟩ := first_whole (l := restOf p (k + 1)) hrok hre hrn (by omega)
      have hyes := first_yes (recBytes p.log[k] ++ restOf p (k + 1)) (p.log[k]).d wr hTr.rules f1 f4 (by rw [f2]; exact hrok.kind) (by rw [f2, f3]; exact List.prefix_append _ _)
      rw [f2, f3] at hyes
      rw [HRS.out]
      have HST := hid_of hI.p.st
      have HTR := hid_of hTr
      have hmay : ∀ a ∈ (p.log[k]).d, mayB a = true := hrok.told.2
      have HMAY := hid_of hmay
      have HNX : Hid (∀ W w3, Below wr.heap.size wr W → W.grownBy w3 (some D.b) → StMap w3 D.b (U.length + (p.log[k]).d.length) (addTo (riseD D p U.length k).M (p.log[k]).d) → w3.cell? ⟨K.R, i * 14 + 1, none⟩ = some (.int .i64 (lastNum (p.log.take k))) ∧ w3.cell? ⟨K.R, i * 14 + 2, none⟩ = some (.int .i64 (lastNum (p.log.take k))) ∧ (∀ q, w3.frozen? ⟨K.R, q, none⟩ = false) ∧ RiseMid w col o x i K D p U.length (k + 1) ((w3.setCell ⟨K.R, i * 14 + 1, none⟩ (.int .i64 (p.log[k]).num)).setCell ⟨K.R, i * 14 + 2, none⟩ (.int .i64 (p.log[k]).num))) := by
        intro W w3 a1 a2 a3
        have b1 := hI.same a1
        obtain ⟨b2, g2⟩ := b1.newSt a2 a3
        obtain ⟨b3, g3⟩ := b2.put (k := 1) (u := .int .i64 (p.log[k]).num) (by omega) { riseD D p U.length k with n := U.length + (p.log[k]).d.length, M := addTo (riseD D p U.length k).M (p.log[k]).d, num := (p.log[k]).num } rfl rfl rfl rfl rfl rfl rfl rfl
        obtain ⟨b4, g4⟩ := b3.put (k := 2) (u := .int .i64 (p.log[k]).num) (by omega) { riseD D p U.length k with n := U.length + (p.log[k]).d.length, M := addTo (riseD D p U.length k).M (p.log[k]).d, num := (p.log[k]).num, base := (p.log[k]).num } rfl rfl rfl rfl rfl rfl rfl rfl
        have hfl : ((p.log.take (k + 1)).map (·.d)).flatten = ((p.log.take k).map (·.d)).flatten ++ (p.log[k]).d := by rw [List.take_succ_eq_append_getElem hlt, List.map_append, List.flatten_append, List.map_cons, List.map_nil, List.flatten_cons, List.flatten_nil, List.append_nil]
        have hMM : addTo (riseD D p U.length k).M (p.log[k]).d = addTo (fun _ => none) ((p.log.take (k + 1)).map (·.d)).flatten := by rw [hfl, addTo_append]; rfl
        have b5 := b4.norm (V := U) (l := ((p.log.take (k + 1)).map (·.d)).flatten) hMM (fun a ha => by
          obtain ⟨l, hl, hal⟩ := List.mem_flatten.1 ha
          obtain ⟨r, hr, rfl⟩ := List.mem_map.1 hl
          obtain ⟨j, hj, hje⟩ := List.mem_iff_getElem.1 (List.mem_of_mem_take hr)
          rw [← hje] at hal
          exact (HREC.out j hj).2.2.2.1 a hal)
        refine ⟨b2.cells.c1, b2.cells.c2, b2.cells.fz, _, ?_, ((hF.trans (frC_same a1)).trans g2).trans (g3.trans g4)⟩
        have e : ({ riseD D p U.length k with n := U.length, M := addTo (riseD D p U.length k).M (p.log[k]).d, num := (p.log[k]).num, base := (p.log[k]).num } : PrD) = riseD D p U.length (k + 1) := by
          unfold riseD at hMM ⊢
          rw [lastNum_succ p.log k hlt, ← hMM]
        rw [← e]
        exact b5
      have hbl := hI.p.st.lt
      have c3 := hI.cells.c3
      have hRl := hI.ltR
      clear hI hF hmid hTr f1 f2 f3 f4 HEND hcv c11 HS0 HDV HDB hmay hrok HREC HT
      generalize lastNum (p.log.take k) = ln0 at *
      generalize hMk : (riseD D p U.length k).M = Mk at *
      have hMk2 : (riseD D p U.length k).b = D.b := rfl
      have hMk3 : (riseD D p U.length k).n = U.length := rfl
      rw [hMk2] at hbl c3
      rw [hMk2, hMk3] at HST
      have hrb := recBytes_length p.log[k]
      generalize p.log[k] = rc at *
      generalize hrs : restOf p (k + 1) = rest at *
      have hrE : recBytes ⟨rc.kind, rc.num, rc.d⟩ = recBytes rc := rfl
      rw [hrE] at hyes
      have HEX : Hid ((bstr (recBytes rc ++ rest)).extract (recBytes rc).length ((recBytes rc).length + rest.length) = bstr rest) := by rw [Hid, bstr_extract, List.drop_left, List.take_of_length_le (by omega)]
      have hsz : (bstr (recBytes rc ++ rest)).size = (recBytes rc).length + rest.length := by rw [bstr_size, List.length_append]
      rw [List.length_append] at hrle
      have hex := HEX.out
      generalize bstr (recBytes rc ++ rest) = bt at *
      generalize (recBytes rc).length = sz at *
      have z1 : ¬ (sz : Int) = 0 := by omega
      have z2 : ¬ sz = 0 := by omega
      have z3 : ((sz : Int) == 0) = false := by simp; omega
      clear hrE HRS HEX hrb
      have hrsz : (bstr rest).size = rest.length := bstr_size rest
      have HRSZ := hid_of hrsz
      clear hrsz
      generalize rest.length = rl at *
      go_wp2_with fail
      refine hyes.mono ?_
      rintro e w1 ⟨v1, rfl, hown1, hb1⟩
      have hs1 := sliceOf_owns rfl hown1
      obtain ⟨ad1, cp1, hv1⟩ := own_form hown1
      subst hv1
      have hbA : Below wr.heap.size wr (w1.alloc (.cells #[.int .i64 rc.kind, .int .i64 rc.num, .slice ad1 rc.d.length cp1] 186)) := below_alloc hb1 _
      have hc3 := (hbA.cell (p := ⟨K.R, i * 14 + 3, none⟩) hRl).trans c3
      have HADD : Hid (Calls Tryz.prog 110 #[.map (some D.b), .slice ad1 rc.d.length cp1] (w1.alloc (.cells #[.int .i64 rc.kind, .int .i64 rc.num, .slice ad1 rc.d.length cp1] 186)).drew fun e w' => e = .returned (.tuple #[]) ∧ StMap w' D.b (U.length + rc.d.length) (addTo Mk rc.d) ∧ (w1.alloc (.cells #[.int .i64 rc.kind, .int .i64 rc.num, .slice ad1 rc.d.length cp1] 186)).drew.grownBy w' (some D.b)) :=
        add_any (.slice ad1 rc.d.length cp1) rc.d D.b U.length Mk _ (HTR.out.rules.below hbA.drew HTR.out.rules.1) (HST.out.below hbA.drew) (hs1.below (below_alloc (Below.refl _ _) _).drew) HMAY.out (by omega)
      have HNX2 : Hid (∀ w3, (w1.alloc (.cells #[.int .i64 rc.kind, .int .i64 rc.num, .slice ad1 rc.d.length cp1] 186)).drew.grownBy w3 (some D.b) → StMap w3 D.b (U.length + rc.d.length) (addTo Mk rc.d) → w3.cell? ⟨w1.heap.size, 1, none⟩ = some (.int .i64 rc.num) ∧ w3.cell? ⟨K.R, i * 14 + 1, none⟩ = some (.int .i64 ln0) ∧ w3.cell? ⟨K.R, i * 14 + 2, none⟩ = some (.int .i64 ln0) ∧ (∀ q, w3.frozen? ⟨K.R, q, none⟩ = false) ∧ RiseMid w col o x i K D p U.length (k + 1) ((w3.setCell ⟨K.R, i * 14 + 1, none⟩ (.int .i64 rc.num)).setCell ⟨K.R, i * 14 + 2, none⟩ (.int .i64 rc.num))) := by
        intro w3 hg hst
        have hne : (some w1.heap.size : Option Nat) ≠ some D.b := fun e => by have := Option.some.inj e; have := hb1.size; omega
        have hblk : w3.heap[w1.heap.size]? = some (.cells #[.int .i64 rc.kind, .int .i64 rc.num, .slice ad1 rc.d.length cp1] 186 (0, 0)) := (hg.block w1.heap.size (by simp [World.drew]) hne).trans (heap_alloc_new w1 _)
        obtain ⟨n1, n2, n3, n4⟩ := HNX.out _ w3 hbA.drew hg hst
        exact ⟨(three_cells hblk).2.1, n1, n2, n3, n4⟩
      clear hown1 hs1 hyes HNX HST HTR HMAY hbA
      go_wp2_with fail
      go_cut [] from 17 to 24 (fun wc => wc.cell? ⟨w1.heap.size, 1, none⟩ = some (.int .i64 rc.num) ∧ wc.cell? ⟨K.R, i * 14 + 1, none⟩ = some (.int .i64 ln0) ∧ wc.cell? ⟨K.R, i * 14 + 2, none⟩ = some (.int .i64 ln0) ∧ (∀ q, wc.frozen? ⟨K.R, q, none⟩ = false) ∧ Hid (RiseMid w col o x i K D p U.length (k + 1) ((wc.setCell ⟨K.R, i * 14 + 1, none⟩ (.int .i64 rc.num)).setCell ⟨K.R, i * 14 + 2, none⟩ (.int .i64 rc.num))))
      case first =>
        go_region_law (first | (go_simp; go_at_call 110; refine HADD.out.mono ?_; rintro e w3 ⟨rfl, hst3, hg3⟩; have hnx3 := HNX2.out w3 hg3 hst3) | fail)
        all_goals go_wp2
        all_goals go_meet
        all_goals (case rel => exact hnx3)
      case rest =>
        obtain ⟨m1, m2, m3, m4, m5⟩ := hcut
        generalize wc = w4 at *
        have hR1 : w1.heap.size ≠ K.R := by have := hb1.size; omega
        have hR2 : K.R ≠ w1.heap.size := fun e => hR1 e.symm
        clear HADD HNX2 hc3 c3
        go_wp2
        go_region
        all_goals go_wp2
        all_goals go_roundw
        all_goals first | (case rel => exact ⟨k + 1, by omega, by rw [← hrs], m5.out.drew⟩) | (case measure => show (bstr rest).size < bt.size; rw [HRSZ.out, hsz]; omega)
    · have hke : k = p.log.length := by omega
      subst hke
      rw [restOf_end]
      have hno := first_no p.torn wr hTr.rules HEND.out.1 HEND.out.2
      have HI := hid_of hI
      have HF := hid_of hF
      clear hI hF hmid hTr HREC HT HS0 c11 hcv
      have hml : (logBytes p).length = ((p.log.map recBytes).flatten).length + p.torn.length := by unfold logBytes; rw [List.length_append]
      have hts := bstr_size p.torn
      have HFIN : Hid (∀ W, Below wr.heap.size wr W → W.cell? ⟨K.R, i * 14 + 11, none⟩ = some (.slice adl (((p.log.map recBytes).flatten).length + p.torn.length) capl) ∧ (∀ k, W.frozen? ⟨K.R, k, none⟩ = false) ∧ (∃ ub, W.cell? ⟨K.R, i * 14, none⟩ = some (.bool ub)) ∧ (adl = none → ((p.log.map recBytes).flatten).length = 0 ∧ p.torn.length = 0 ∧ capl = 0) ∧ ∃ col', PrI ((W.setCell ⟨K.R, i * 14 + 11, none⟩ (.slice adl ((p.log.map recBytes).flatten).length capl)).setCell ⟨K.R, i * 14, none⟩ (.bool true)) col' o x i K { riseD D p U.length p.log.length with up := true, vl := .slice adl ((p.log.map recBytes).flatten).length capl, bytes := ((p.log.map recBytes).flatten) } ∧ FrC (ofPrg o i) col col' w ((W.setCell ⟨K.R, i * 14 + 11, none⟩ (.slice adl ((p.log.map recBytes).flatten).length capl)).setCell ⟨K.R, i * 14, none⟩ (.bool true))) := by
        intro W hW
        have hI2 := HI.out.same hW
        have hrow := hI2.p.log
        have e1 : (riseD D p U.length p.log.length).vl = .slice adl (logBytes p).length capl := HDV.out
        have e2 : (riseD D p U.length p.log.length).bytes = logBytes p := HDB.out
        rw [e1, e2] at hrow
        have q11 := hI2.cells.c11
        rw [e1, hml] at q11
        refine ⟨q11, hI2.cells.fz, ⟨_, hI2.cells.c0⟩, fun hn => ?_, ?_⟩
        · rw [hn] at hrow
          rcases hrow.own.2 with ⟨h1, h2⟩ | ⟨g, cap', cur, h1, _⟩
          · injection h1 with _ hz hc
            exact ⟨by omega, by omega, hc⟩
          · cases h1
        · have htr := hrow.trunc (m := ((p.log.map recBytes).flatten).length) (by omega)
          have hbt : (bcells (logBytes p)).take ((p.log.map recBytes).flatten).length = bcells ((p.log.map recBytes).flatten) := by
            unfold logBytes
            rw [bcells_append, List.take_append_of_le_length (by rw [bcells_length]; exact Nat.le_refl _), List.take_of_length_le (by rw [bcells_length]; exact Nat.le_refl _)]
          rw [hbt] at htr
          obtain ⟨h3, f3⟩ := hI2.newLog (FrC.refl _ _ _) htr
          obtain ⟨h4, f4⟩ := h3.put (k := 0) (u := .bool true) (by omega) { riseD D p U.length p.log.length with up := true, vl := .slice adl ((p.log.map recBytes).flatten).length capl, bytes := ((p.log.map recBytes).flatten) } rfl rfl rfl rfl rfl rfl rfl rfl
          exact ⟨_, h4, ((HF.out.trans (frC_same hW)).trans f3).trans f4⟩
      generalize ((p.log.map recBytes).flatten).length = mm at *
      generalize hmd : ({ riseD D p U.length p.log.length with up := true, vl := .slice adl mm capl, bytes := ((p.log.map recBytes).flatten) } : PrD) = DF at *
      have HMD : Hid (({ riseD D p U.length p.log.length with up := true, vl := .slice adl mm capl, bytes := ((p.log.map recBytes).flatten) } : PrD) = DF) := hmd
      clear hmd
      generalize htl : p.torn.length = tl at *
      rw [hml] at hcl hlb
      clear hml HDV HDB HI HF HEND htl
      generalize bstr p.torn = ts at *
      go_wp2_with fail
      refine hno.mono ?_
      rintro e w1 ⟨hb1, rfl⟩
      obtain ⟨q11, qf, ⟨ub, q0⟩, hnil, hfin⟩ := HFIN.out (w1.alloc (.cells #[.int .i64 0, .int .i64 0, .slice none 0 0] 186)) (below_alloc hb1 _)
      have HFI := hid_of hfin
      clear hfin HFIN hno hb1
      cases adl with
      | none =>
        obtain ⟨rfl, rfl, rfl⟩ := hnil rfl
        go_wp2
        go_region
        all_goals go_wp2
        all_goals go_end0
        all_goals (obtain ⟨colF, hIF, hFF⟩ := HFI.out; rw [← HMD.out] at hIF)
        all_goals exact ⟨rfl, colF, _, hid_of (hIF.same ⟨rfl, rfl, rfl, Nat.le_refl _, fun _ _ => rfl⟩), hid_of (hFF.trans (frC_same ⟨rfl, rfl, rfl, Nat.le_refl _, fun _ _ => rfl⟩))⟩
      | some A =>
        clear hnil
        go_wp2
        go_region
        all_goals go_wp2
        all_goals go_end0
        all_goals (obtain ⟨colF, hIF, hFF⟩ := HFI.out; rw [← HMD.out] at hIF)
        all_goals exact ⟨rfl, colF, _, hid_of (hIF.same ⟨rfl, rfl, rfl, Nat.le_refl _, fun _ _ => rfl⟩), hid_of (hFF.trans (frC_same ⟨rfl, rfl, rfl, Nat.le_refl _, fun _ _ => rfl⟩))⟩
end Go.Proofs.YtahdlejgjcjeoabGreatDoor

namespace Go.Proofs.YtahdlejgjcjeoabGreatDoor
open Go.RowKit Go.MuLone

theorem PrD.is.rise {D : PrD} {p : Rep} {V : Nat} (h : D.is p) (hat : p.atoms = []) (vl : Value) : ({ riseD D p V p.log.length with up := true, vl := vl, bytes := ((p.log.map recBytes).flatten) } : PrD).is p.rise where
  up := rfl
  num := by show lastNum (p.log.take p.log.length) = lastNum p.log; rw [List.take_length]
  base := by show lastNum (p.log.take p.log.length) = lastNum p.log; rw [List.take_length]
  M := by
    show addTo (fun _ => none) ((p.log.take p.log.length).map (·.d)).flatten = addTo (fun _ => none) (p.atoms ++ (p.log.map (·.d)).flatten)
    rw [List.take_length, hat, List.nil_append]
  buf := h.buf
  ak := h.ak
  bytes := by show (p.log.map recBytes).flatten = logBytes p.rise; simp [logBytes, Rep.rise]
  frames := h.frames
  weight := h.weight

set_option maxRecDepth 100000 in
set_option maxHeartbeats 1000000 in
theorem prgStart {w : World} {col : Col} {o x N : Nat} {U : List At} {K : PrK} {c : Clu} (h : PrgAt w col o x K c) (ho : o ≠ 0) (hT : Tab w col) (hok : c.ok U N) (hL : Lim U N) (r : Int) :
    Calls Tryz.prog 28 #[.pointer (some ⟨x, 0, none⟩), .int .i64 r] w fun e w' => e = .returned (.int .i64 (c.startErr r)) ∧ ∃ K' col', Hid (PrgAt w' col' o x K' (c.start r)) ∧ Hid (FrC (ofOwn o) col col' w w') := by
  have hcl := h.at_.clAt h.is.lk
  have k41 := hcl.l41
  by_cases hr : 0 ≤ r ∧ r < c.reps.length
  · obtain ⟨i, rfl⟩ : ∃ i : Nat, r = i := ⟨r.toNat, by omega⟩
    have hi : i < c.reps.length := by omega
    have hi' : i < K.Ds.length := by rw [h.is.len]; exact hi
    have hth : c.there (i : Int) = true := by simp [Clu.there, hr]
    cases hd : (c.rep i).down
    · have he : c.startErr (i : Int) = 9 := by simp [Clu.startErr, hth, hd]
      have hs : c.start (i : Int) = c := by simp [Clu.start, he]
      have kup := (h.at_.cells hi').c0
      rw [h.is.down hi', hd] at kup
      rw [he, hs]
      refine (prgStart_up x K.R _ _ i w hcl hi' kup).mono ?_
      rintro e w' ⟨rfl, hb⟩
      exact ⟨rfl, K, col, h.same hb, frC_same hb⟩
    · have he : c.startErr (i : Int) = 0 := by simp [Clu.startErr, hth, hd]
      have hcr : c.start (i : Int) = c.setRep i (c.rep i).rise := by simp [Clu.start, he]
      have kup := hcl.lR (h.at_.cells hi').c0
      rw [h.is.down hi', hd] at kup
      obtain ⟨hl, hlf⟩ := h.at_.lock 1
      have hI := PrAt.inside hl (i := i) (by show K.Ds.length ≤ 6; rw [h.is.len]; exact hok.n6) hi'
      have hT1 := hT.kept hlf (fun e => ho (congrArg Prod.fst e).symm)
      have hDi := h.is.reps i hi'
      have hrep := hok.rep hi
      have hri := prgRise hI ho hT1 hDi hrep hd hL
      have HFIN : Hid (∀ w2 col2 vl, PrI w2 col2 o x i { K with lk := 1 } { riseD (K.Ds[i]) (c.rep i) U.length (c.rep i).log.length with up := true, vl := vl, bytes := (((c.rep i).log.map recBytes).flatten) } → FrC (ofPrg o i) col col2 (w.setCell ⟨x, 0, none⟩ (.int .i32 1)) w2 → w2.cell? ⟨x, 0, none⟩ = some (.int .i32 1) ∧ w2.frozen? ⟨x, 0, none⟩ = false ∧ ∃ K', PrgAt (w2.setCell ⟨x, 0, none⟩ (.int .i32 0)) col2 o x K' (c.start i) ∧ FrC (ofOwn o) col col2 w (w2.setCell ⟨x, 0, none⟩ (.int .i32 0))) := by
        intro w2 col2 vl a2 a3
        obtain ⟨u0, u1, u2, u3⟩ := PrI.unlock a2 h.is.lk
        obtain ⟨K', hK', _⟩ := u2.done (V := U) h.is h.n (hDi.rise (hrep.dn hd).1 vl) (fun a ha => by
          have ha' : a ∈ (c.rep i).atoms ++ ((c.rep i).log.map (·.d)).flatten := ha
          rw [List.mem_append] at ha'
          rcases ha' with h1 | h1
          · exact hrep.sub a h1
          · obtain ⟨l, hl', hal⟩ := List.mem_flatten.1 h1
            obtain ⟨q, hq, rfl⟩ := List.mem_map.1 hl'
            exact (hrep.log q hq).2.1 a hal) (by have := hL.2; omega)
        rw [← hcr] at hK'
        exact ⟨u0, u1, K', hK', ((hlf.mono ofOwn_lock).trans (a3.mono ofOwn_prg)).trans u3⟩
      rw [he]
      clear h hT hok hL hl hlf hI hT1 hDi hrep hcr he hd hth
      go_enter_defers Tryz.func28, Tryz.ntmps28
      go_wp2_with (go_at_call 44; refine (lock_free muLib ⟨x, 0, none⟩ _ hcl.c0 hcl.f0).mono ?_; rintro e w' ⟨rfl, rfl⟩)
      refine (one_yes x K.R i K.Ds.length K.Ds.length _ k41 hi').mono ?_
      rintro e w1 ⟨rfl, rfl⟩
      go_wp2_with fail
      refine hri.mono ?_
      rintro e w2 ⟨rfl, col2, vl, a2, a3⟩
      obtain ⟨u0, u1, K', hK', hF'⟩ := HFIN.out w2 col2 vl a2.out a3.out
      have HK' := hid_of hK'
      have HF' := hid_of hF'
      clear hri a2 a3 hK' hF' HFIN
      go_wp2
      refine leaves_cons (f := 45) (args := #[.pointer (some ⟨x, 0, none⟩)]) (by simp) (by simp [go_sem]) ?_
      refine (unlock_deferred muLib ⟨x, 0, none⟩ .returning _ u0 u1).mono ?_
      rintro e u' w'' ⟨rfl, rfl, rfl⟩
      exact ⟨_, results_tmp rfl _ _ _, rfl, K', col2, HK', HF'⟩
  · have hth : c.there r = false := by simp only [Clu.there, decide_eq_false_iff_not]; exact hr
    have he : c.startErr r = 5 := by simp [Clu.startErr, hth]
    have hs : c.start r = c := by simp [Clu.start, he]
    rw [he, hs]
    refine (prgStart_no x K.R _ _ r w hcl (by rw [h.is.len]; exact hr)).mono ?_
    rintro e w' ⟨rfl, hb⟩
    exact ⟨rfl, K, col, h.same hb, frC_same hb⟩
end Go.Proofs.YtahdlejgjcjeoabGreatDoor

namespace Go.Proofs.YtahdlejgjcjeoabGreatDoor
open Go.RowKit

theorem rec_pos (r : Rec) : 0 < (recBytes r).length := by rw [recBytes_length]; omega
/-- The log is written anew. -/
theorem PrI.freshLog {w w1 : World} {col : Col} {o x i : Nat} {K : PrK} {D : PrD} {v : Value} {bs : List UInt8} (h : PrI w col o x i K D) (h1 : Below w.heap.size w w1) (hb : Buf w.heap.size w1 v bs) :
    w1.cell? ⟨K.R, i * 14 + 11, none⟩ = some D.vl ∧ w1.frozen? ⟨K.R, i * 14 + 11, none⟩ = false ∧ PrI (w1.setCell ⟨K.R, i * 14 + 11, none⟩ v) (paint col w.heap.size (o, 50 + i)) o x i K { D with vl := v, bytes := bs } ∧ FrC (ofPrg o i) col (paint col w.heap.size (o, 50 + i)) w (w1.setCell ⟨K.R, i * 14 + 11, none⟩ v) := by
  have h2 := h.same h1
  obtain ⟨h4, h5⟩ := h.newLog (frC_below h1 (o, 50 + i)) (rowC_made hb.1)
  exact ⟨h2.cells.c11, h2.cells.fz _, h4, h5⟩

set_option maxRecDepth 100000 in
set_option maxHeartbeats 1000000 in
theorem prgCompactR {w : World} {col : Col} {o x i : Nat} {K : PrK} {D : PrD} (h : PrI w col o x i K D) (hT : Tab w col) (hn : D.num ≤ 16777216) (hmm : MayMap D.M) (hbn : D.n ≤ 8388608) (hML : ∀ out, TellOf D.M out → out.length ≤ 131072) :
    Calls Tryz.prog 75 #[.pointer (some ⟨K.R, i * 14, none⟩)] w fun e w' => e = .returned (.tuple #[]) ∧ ∃ col' vl out, Hid (TellOf D.M out) ∧ Hid (PrI w' col' o x i K { D with vl := vl, bytes := recBytes ⟨2, D.num, out⟩ }) ∧ Hid (FrC (ofPrg o i) col col' w w') := by
  have c1 := h.cells.c1
  have c3 := h.cells.c3
  have c11 := h.cells.c11
  obtain ⟨adl, capl, hvl, hcl⟩ := h.p.log.form
  rw [hvl] at c11
  have HTL : Hid (∀ W, Below w.heap.size w W → Calls Tryz.prog 102 #[.map (some D.b)] W fun e w' => ∃ v' out, e = .returned v' ∧ w'.ownsRow W.heap.size 76 6 v' out.length (flat out) ∧ Hid (TellOf D.M out) ∧ Below W.heap.size W w') :=
    fun W hW => tell_any D.b D.n D.M W (hT.below hW).rules ((h.same hW).p.st) hmm hbn
  have HBY : Hid (∀ W v out, Below w.heap.size w W → TellOf D.M out → SliceOf W v out → Calls Tryz.prog 120 #[.agg #[.int .i64 2, .int .i64 D.num, v]] W fun e w' => ∃ v', e = .returned v' ∧ Hid (Buf W.heap.size w' v' (recBytes ⟨2, D.num, out⟩)) ∧ Below W.heap.size W w') :=
    fun W v out hW ht hs => prgBytes 2 D.num v out W (hT.below hW).rules hs (fun a ha => ((ht.mem a).1 ha).1) (Nat.le_trans (hML out ht) (by decide)) (by omega) (by omega)
  have HFL : Hid (∀ w1 v bs, Below w.heap.size w w1 → Buf w.heap.size w1 v bs → w1.cell? ⟨K.R, i * 14 + 11, none⟩ = some (.slice adl D.bytes.length capl) ∧ w1.frozen? ⟨K.R, i * 14 + 11, none⟩ = false ∧ ∃ col', PrI (w1.setCell ⟨K.R, i * 14 + 11, none⟩ v) col' o x i K { D with vl := v, bytes := bs } ∧ FrC (ofPrg o i) col col' w (w1.setCell ⟨K.R, i * 14 + 11, none⟩ v)) := fun w1 v bs a1 a2 => by
    obtain ⟨b1, b2, b3, b4⟩ := h.freshLog a1 a2
    rw [hvl] at b1
    exact ⟨b1, b2, _, b3, b4⟩
  have hltR := h.ltR
  have HDR : Hid (Below w.heap.size w w.drew) := ⟨rfl, rfl, rfl, Nat.le_refl _, fun _ _ => rfl⟩
  clear h hT hmm hML hvl
  go_enter Tryz.func75, Tryz.ntmps75
  go_wp2_with fail
  go_region_law (first | (go_simp; go_at_call 102; refine (HTL.out _ HDR.out).mono ?_; rintro e w1 ⟨v1, out, rfl, hown1, htl, hb1⟩; have hB1 : Below w.heap.size w w1 := HDR.out.trans hb1; have HS1 : Hid (SliceOf w1 v1 out) := sliceOf_owns rfl hown1; obtain ⟨ad1, cap1, hv1⟩ := own_form hown1; clear hown1; subst hv1; have k1 := (hB1.cell (p := ⟨K.R, i * 14 + 1, none⟩) hltR).trans c1) | (go_simp; go_at_call 120; refine (HBY.out w1 _ out hB1 htl.out HS1.out).mono ?_; rintro e w2 ⟨v2, rfl, hb2, hbw2⟩; have hB2 : Below w.heap.size w w2 := hB1.trans (hbw2.mono hB1.size); obtain ⟨b2, cp2, hv2, -⟩ := buf_at hb2.out (rec_pos _); subst hv2; obtain ⟨q11, q11f, col2, hI2, hF2⟩ := HFL.out w2 _ _ hB2 ⟨owns_mono hb2.out.1 hB1.size, hB2.size⟩))
  all_goals go_wp2
  all_goals go_end0
  all_goals exact ⟨rfl, col2, _, out, htl, hI2, hF2⟩
end Go.Proofs.YtahdlejgjcjeoabGreatDoor

namespace Go.Proofs.YtahdlejgjcjeoabGreatDoor
open Go.RowKit Go.MuLone

theorem tellOf_is {l out : List At} (hl : ∀ a ∈ l, mayB a = true) (h : TellOf (addTo (fun _ => none) l) out) : out = tell l :=
  ((tell_told l).unique hl ((holds_list l).told hl h)).symm
theorem PrD.is.compact {D : PrD} {p : Rep} (h : D.is p) (hup : p.torn = []) (vl : Value) : ({ D with vl := vl, bytes := recBytes ⟨2, D.num, tell p.atoms⟩ } : PrD).is p.compact where
  up := h.up
  num := h.num
  base := h.base
  M := h.M
  buf := h.buf
  ak := h.ak
  bytes := by show recBytes ⟨2, D.num, tell p.atoms⟩ = _; simp [logBytes, Rep.compact, hup, h.num]
  frames := h.frames
  weight := h.weight
theorem torn_up {U : List At} {N n room : Nat} {p : Rep} (h : p.ok U N n room) (hd : p.down = false) : p.torn = [] := by
  rcases h.torn with e | ⟨e, _⟩
  · exact e
  · rw [hd] at e; cases e

set_option maxRecDepth 100000 in
set_option maxHeartbeats 1000000 in
theorem prgCompact {w : World} {col : Col} {o x N : Nat} {U : List At} {K : PrK} {c : Clu} (h : PrgAt w col o x K c) (ho : o ≠ 0) (hT : Tab w col) (hok : c.ok U N) (hL : Lim U N) (r : Int) :
    Calls Tryz.prog 30 #[.pointer (some ⟨x, 0, none⟩), .int .i64 r] w fun e w' => e = .returned (.int .i64 (c.works r)) ∧ ∃ K' col', Hid (PrgAt w' col' o x K' (c.compact r)) ∧ Hid (FrC (ofOwn o) col col' w w') := by
  have hcl := h.at_.clAt h.is.lk
  have k41 := hcl.l41
  rcases works_cases c r with ⟨hw, hr⟩ | ⟨i, rfl, hi, ⟨hw, hd⟩ | ⟨hw, hd⟩⟩
  · have hcr : c.compact r = c := by simp [Clu.compact, hw]
    rw [hcr, hw]
    have HK := hid_of h
    have hlen := h.is.len
    clear h hT hok hL
    go_enter_defers Tryz.func30, Tryz.ntmps30
    go_wp2_with (go_at_call 44; refine (lock_free muLib ⟨x, 0, none⟩ _ hcl.c0 hcl.f0).mono ?_; rintro e w' ⟨rfl, rfl⟩)
    refine (upOne_no x r _ _ _ _ k41 (by rw [hlen]; exact hr)).mono ?_
    rintro e w1 ⟨rfl, rfl⟩
    go_wp2
    refine leaves_cons (f := 45) (args := #[.pointer (some ⟨x, 0, none⟩)]) (by simp) (by simp [go_sem]) ?_
    obtain ⟨u0, u1, u2⟩ := hcl.unlock (w2 := _) (Below.refl _ _)
    refine (unlock_deferred muLib ⟨x, 0, none⟩ .returning _ u0 u1).mono ?_
    rintro e u' w'' ⟨rfl, rfl, rfl⟩
    exact ⟨_, results_tmp rfl _ _ _, rfl, K, col, HK.out.same u2, frC_same u2⟩
  · have hi' : i < K.Ds.length := by rw [h.is.len]; exact hi
    have kup := hcl.lR (h.at_.cells hi').c0
    rw [h.is.down hi', hd] at kup
    have hcr : c.compact (i : Int) = c := by simp [Clu.compact, hw]
    rw [hcr, hw]
    have HK := hid_of h
    clear h hT hok hL
    go_enter_defers Tryz.func30, Tryz.ntmps30
    go_wp2_with (go_at_call 44; refine (lock_free muLib ⟨x, 0, none⟩ _ hcl.c0 hcl.f0).mono ?_; rintro e w' ⟨rfl, rfl⟩)
    refine (upOne_yes x K.R i K.Ds.length K.Ds.length false _ k41 hi' kup).mono ?_
    rintro e w1 ⟨rfl, rfl⟩
    go_wp2
    refine leaves_cons (f := 45) (args := #[.pointer (some ⟨x, 0, none⟩)]) (by simp) (by simp [go_sem]) ?_
    obtain ⟨u0, u1, u2⟩ := hcl.unlock (w2 := _) (Below.refl _ _)
    refine (unlock_deferred muLib ⟨x, 0, none⟩ .returning _ u0 u1).mono ?_
    rintro e u' w'' ⟨rfl, rfl, rfl⟩
    exact ⟨_, results_tmp rfl _ _ _, rfl, K, col, HK.out.same u2, frC_same u2⟩
  · have hi' : i < K.Ds.length := by rw [h.is.len]; exact hi
    have kup := hcl.lR (h.at_.cells hi').c0
    rw [h.is.down hi', hd] at kup
    have hcr : c.compact (i : Int) = c.setRep i (c.rep i).compact := by simp [Clu.compact, hw]
    obtain ⟨hl, hlf⟩ := h.at_.lock 1
    have hI := PrAt.inside hl (i := i) (by show K.Ds.length ≤ 6; rw [h.is.len]; exact hok.n6) hi'
    have hT1 := hT.kept hlf (fun e => ho (congrArg Prod.fst e).symm)
    have hDi := h.is.reps i hi'
    have hrep := hok.rep hi
    have hmay : ∀ a ∈ (c.rep i).atoms, mayB a = true := fun a ha => hok.may a (hrep.sub a ha)
    have hcmp := prgCompactR hI hT1 (by show (K.Ds[i]).num ≤ _; rw [hDi.num]; have := hrep.num; have := hL.1; omega) (by show MayMap (K.Ds[i]).M; rw [hDi.M]; exact (holds_list _).mayMap hmay) (by have := h.n i hi'; show (K.Ds[i]).n ≤ _; omega) (fun out ht => by
      have ht' : TellOf (addTo (fun _ => none) (c.rep i).atoms) out := by rw [← hDi.M]; exact ht
      rw [tellOf_is hmay ht']
      have htt := tell_told (c.rep i).atoms
      exact Nat.le_trans (length_le_of_sub (sorted_ne htt.sorted) (fun a ha => hrep.sub a (htt.great a ha).1)) hL.2)
    have HFIN : Hid (∀ w2 col2 vl out, TellOf (K.Ds[i]).M out → PrI w2 col2 o x i { K with lk := 1 } { K.Ds[i] with vl := vl, bytes := recBytes ⟨2, (K.Ds[i]).num, out⟩ } → FrC (ofPrg o i) col col2 (w.setCell ⟨x, 0, none⟩ (.int .i32 1)) w2 → w2.cell? ⟨x, 0, none⟩ = some (.int .i32 1) ∧ w2.frozen? ⟨x, 0, none⟩ = false ∧ ∃ K', PrgAt (w2.setCell ⟨x, 0, none⟩ (.int .i32 0)) col2 o x K' (c.compact i) ∧ FrC (ofOwn o) col col2 w (w2.setCell ⟨x, 0, none⟩ (.int .i32 0))) := by
      intro w2 col2 vl out a1 a2 a3
      obtain ⟨u0, u1, u2, u3⟩ := PrI.unlock a2 h.is.lk
      have a1' : TellOf (addTo (fun _ => none) (c.rep i).atoms) out := by rw [← hDi.M]; exact a1
      rw [tellOf_is hmay a1'] at u2
      obtain ⟨K', hK', _⟩ := u2.done (V := U) h.is h.n (hDi.compact (torn_up hrep hd) vl) (fun a ha => hrep.sub a ha) (by have := hL.2; omega)
      rw [← hcr] at hK'
      exact ⟨u0, u1, K', hK', ((hlf.mono ofOwn_lock).trans (a3.mono ofOwn_prg)).trans u3⟩
    rw [hw]
    clear h hT hok hL hl hlf hI hT1 hDi hrep hmay hcr hw hd
    go_enter_defers Tryz.func30, Tryz.ntmps30
    go_wp2_with (go_at_call 44; refine (lock_free muLib ⟨x, 0, none⟩ _ hcl.c0 hcl.f0).mono ?_; rintro e w' ⟨rfl, rfl⟩)
    refine (upOne_yes x K.R i K.Ds.length K.Ds.length true _ k41 hi' kup).mono ?_
    rintro e w1 ⟨rfl, rfl⟩
    go_wp2_with fail
    refine hcmp.mono ?_
    rintro e w2 ⟨rfl, col2, vl, out, a1, a2, a3⟩
    obtain ⟨u0, u1, K', hK', hF'⟩ := HFIN.out w2 col2 vl out a1.out a2.out a3.out
    have HK' := hid_of hK'
    have HF' := hid_of hF'
    clear hcmp a1 a2 a3 hK' hF' HFIN
    go_wp2
    refine leaves_cons (f := 45) (args := #[.pointer (some ⟨x, 0, none⟩)]) (by simp) (by simp [go_sem]) ?_
    refine (unlock_deferred muLib ⟨x, 0, none⟩ .returning _ u0 u1).mono ?_
    rintro e u' w'' ⟨rfl, rfl, rfl⟩
    exact ⟨_, results_tmp rfl _ _ _, rfl, K', col2, HK', HF'⟩
end Go.Proofs.YtahdlejgjcjeoabGreatDoor

namespace Go.Proofs.YtahdlejgjcjeoabGreatDoor
open Go.RowKit Go.MuLone

theorem PrB.x0 {w : World} {col : Col} {o x : Nat} {ex : Option Nat} {K : PrK} (h : PrB w col o x ex K) (hT : Tab w col) (ho : o ≠ 0) : x ≠ 1 := by
  by_cases e : x = 1
  · have h1 := h.cx
    rw [e, hT.c0] at h1
    exact absurd (congrArg Prod.fst h1).symm ho
  · omega

set_option maxRecDepth 100000 in
theorem prgState {w : World} {col : Col} {o x N : Nat} {U : List At} {K : PrK} {c : Clu} (h : PrgAt w col o x K c) (ho : o ≠ 0) (hT : Tab w col) (hok : c.ok U N) (r : Int) :
    Calls Tryz.prog 50 #[.pointer (some ⟨x, 0, none⟩), .int .i64 r] w fun e w' => ∃ v out, e = .returned (.tuple #[v, .int .i64 (c.works r)]) ∧ w'.ownsRow w.heap.size 76 6 v out.length (flat out) ∧ Hid (out = if c.works r = 0 then tell (c.rep r.toNat).atoms else []) ∧ Hid (c.works r ≠ 0 → v = .slice none 0 0) ∧ Below w.heap.size w w' := by
  have hcl := h.at_.clAt h.is.lk
  have k41 := hcl.l41
  rcases works_cases c r with ⟨hw, hr⟩ | ⟨i, rfl, hi, ⟨hw, hd⟩ | ⟨hw, hd⟩⟩
  · rw [hw]
    refine (prgState_no x K.R _ _ r w hcl (by rw [h.is.len]; exact hr)).mono ?_
    rintro e w' ⟨rfl, hb⟩
    exact ⟨_, [], rfl, World.ownsRow_nil _ _ _ _, rfl, fun _ => rfl, hb⟩
  · have hi' : i < K.Ds.length := by rw [h.is.len]; exact hi
    have kup := hcl.lR (h.at_.cells hi').c0
    rw [h.is.down hi', hd] at kup
    rw [hw]
    clear h hT hok
    go_enter_defers Tryz.func50, Tryz.ntmps50
    go_wp2_with (go_at_call 44; refine (lock_free muLib ⟨x, 0, none⟩ _ hcl.c0 hcl.f0).mono ?_; rintro e w' ⟨rfl, rfl⟩)
    refine (upOne_yes x K.R i K.Ds.length K.Ds.length false _ k41 hi' kup).mono ?_
    rintro e w1 ⟨rfl, rfl⟩
    go_wp2
    refine leaves_cons (f := 45) (args := #[.pointer (some ⟨x, 0, none⟩)]) (by simp) (by simp [go_sem]) ?_
    obtain ⟨u0, u1, u2⟩ := hcl.unlock (w2 := _) (Below.refl _ _)
    refine (unlock_deferred muLib ⟨x, 0, none⟩ .returning _ u0 u1).mono ?_
    rintro e u' w'' ⟨rfl, rfl, rfl⟩
    exact ⟨_, results_tmp2 rfl _ _ _, _, rfl, [], World.ownsRow_nil _ _ _ _, rfl, rfl, u2⟩
  · have hi' : i < K.Ds.length := by rw [h.is.len]; exact hi
    have kup := (h.at_.cells hi').c0
    rw [h.is.down hi', hd] at kup
    have hDi := h.is.reps i hi'
    have hrep := hok.rep hi
    have hmay : ∀ a ∈ (c.rep i).atoms, mayB a = true := fun a ha => hok.may a (hrep.sub a ha)
    have hp := h.at_.reps i hi' (by simp)
    have hst := hp.st
    rw [hDi.M] at hst
    have hbx : (K.Ds[i]).b ≠ x := fun e => by
      have h1 := hp.cb
      rw [e, h.at_.cx] at h1
      exact neκ (by omega) h1
    have hs := prgState_yes x K.R K.Ds.length K.Ds.length i (K.Ds[i]).b (K.Ds[i]).n _ w hcl hi' kup (h.at_.cells hi').c3 hT.rules (h.at_.x0 hT ho) hbx hst ((holds_list _).mayMap hmay) (by have := h.n i hi'; omega)
    rw [hw]
    refine hs.mono ?_
    rintro e w' ⟨v, out, rfl, hown, htl, hb⟩
    exact ⟨v, out, rfl, hown, by rw [Hid, if_pos rfl]; exact tellOf_is hmay htl.out, fun h => absurd rfl h, hb⟩

/-- What Read answers. -/
def readErr (c : Clu) (r kind : Int) : Int := if c.works r ≠ 0 then c.works r else readCode (tell (c.rep r.toNat).atoms) kind
set_option maxRecDepth 100000 in
set_option maxHeartbeats 1000000 in
theorem prgRead {w : World} {col : Col} {o x N : Nat} {U : List At} {K : PrK} {c : Clu} (h : PrgAt w col o x K c) (ho : o ≠ 0) (hT : Tab w col) (hok : c.ok U N) (hL : Lim U N) (r kind : Int) (key : ByteArray) (hk : key.size ≤ 1099511627776) :
    Calls Tryz.prog 56 #[.pointer (some ⟨x, 0, none⟩), .int .i64 r, .int .i64 kind, .string key] w fun e w' => ∃ n v es, e = .returned (.tuple #[.agg #[.int .i64 n, v], .int .i64 (readErr c r kind)]) ∧ w'.ownsRow w.heap.size 9 1 v es.length (es.map Value.string) ∧ Hid (if c.works r = 0 then ReadSpec (tell (c.rep r.toNat).atoms) kind key n es else n = 0 ∧ es = []) ∧ Below w.heap.size w w' := by
  have hbA : ∀ ob, Below w.heap.size w (w.alloc ob) := fun ob => below_alloc (Below.refl _ w) ob
  have HST : Hid (∀ ob, Calls Tryz.prog 50 #[.pointer (some ⟨x, 0, none⟩), .int .i64 r] (w.alloc ob) fun e w' => ∃ v out, e = .returned (.tuple #[v, .int .i64 (c.works r)]) ∧ w'.ownsRow (w.alloc ob).heap.size 76 6 v out.length (flat out) ∧ Hid (out = if c.works r = 0 then tell (c.rep r.toNat).atoms else []) ∧ Hid (c.works r ≠ 0 → v = .slice none 0 0) ∧ Below (w.alloc ob).heap.size (w.alloc ob) w') := fun ob => prgState (h.same (hbA ob)) ho (hT.below (hbA ob)) hok r
  have HR : Hid (RulesAt w) := hT.rules
  have HTL : Hid (c.works r = 0 → (∀ a ∈ tell (c.rep r.toNat).atoms, short a) ∧ (tell (c.rep r.toNat).atoms).length ≤ 131072) := fun hw => by
    rcases works_cases c r with ⟨h5, _⟩ | ⟨i, rfl, hi, _⟩
    · rw [h5] at hw; cases hw
    have hrep := hok.rep hi
    have htt := tell_told (c.rep i).atoms
    exact ⟨fun a ha => short_of_may (hok.may a (hrep.sub a (htt.great a ha).1)), Nat.le_trans (length_le_of_sub (sorted_ne htt.sorted) (fun a ha => hrep.sub a (htt.great a ha).1)) hL.2⟩
  clear h hT hok hL
  by_cases hw : c.works r = 0
  · have hcd : readErr c r kind = readCode (tell (c.rep r.toNat).atoms) kind := by simp [readErr, hw]
    obtain ⟨hsh, hln⟩ := HTL.out hw
    rw [hw] at HST
    rw [hcd]
    have HSH : Hid (∀ a ∈ tell (c.rep r.toNat).atoms, short a) := hsh
    clear hcd HTL hsh
    generalize hT : tell (c.rep r.toNat).atoms = T at *
    clear hT
    generalize hcd : readCode T kind = cd
    have HCD : Hid (readCode T kind = cd) := hcd
    clear hcd
    go_enter Tryz.func56, Tryz.ntmps56
    go_wp2_with fail
    refine (HST.out _).mono ?_
    rintro e w1 ⟨v1, out, rfl, hown1, hout, _, hb1⟩
    have hout' : out = T := by have := hout.out; rwa [if_pos (by trivial)] at this
    subst hout'
    have hs1 := sliceOf_owns rfl hown1
    obtain ⟨ad1, cp1, hv1⟩ := own_form hown1
    subst hv1
    have hbw1 := (below_alloc (Below.refl _ w) (.cells #[.int .i64 0, .slice none 0 0] 129)).trans (hb1.mono (by simp))
    have HC : Hid (∀ W, W = w1 → Calls Tryz.prog 106 #[.slice ad1 out.length cp1, .int .i64 kind, .string key] W fun e w' => ∃ n v' es, e = .returned (.tuple #[.agg #[.int .i64 n, v'], .int .i64 cd]) ∧ w'.ownsRow w1.heap.size 9 1 v' es.length (es.map Value.string) ∧ Hid (ReadSpec out kind key n es) ∧ Below w1.heap.size w1 w') := by
      rintro W rfl
      rw [← HCD.out]
      refine (latRead_any _ out kind key W (HR.out.below hbw1 HR.out.1) hs1 HSH.out (by omega) hk).mono ?_
      rintro e w' ⟨n2, v2, es, rfl, ho, hsp, hb⟩
      exact ⟨n2, v2, es, rfl, ho, hsp.out.1, hb⟩
    clear hown1 hs1 hout
    go_wp2_with fail
    refine (HC.out _ rfl).mono ?_
    rintro e w2 ⟨n2, v2, es, rfl, hown2, hsp, hb2⟩
    obtain ⟨ad2, cp2, hv2⟩ := own_form hown2
    subst hv2
    have hs1' := hb1.size
    have hlt1 : w.heap.size < w1.heap.size := by simp at hs1'; omega
    have hrb := (hb2.block w.heap.size hlt1).trans ((hb1.block w.heap.size (by simp)).trans (heap_alloc_new w (.cells #[.int .i64 0, .slice none 0 0] 129)))
    have r0 : w2.cell? ⟨w.heap.size, 0, none⟩ = some (.int .i64 0) := blk_cell hrb 0
    have r1 : w2.cell? ⟨w.heap.size, 1, none⟩ = some (.slice none 0 0) := blk_cell hrb 1
    have rf0 : w2.frozen? ⟨w.heap.size, 0, none⟩ = false := blk_thaw hrb 0
    have rf1 : w2.frozen? ⟨w.heap.size, 1, none⟩ = false := blk_thaw hrb 1
    have hbw : Below w.heap.size w w2 := hbw1.trans (hb2.mono hbw1.size)
    have HO : Hid (w2.ownsRow (w.heap.size + 1) 9 1 (.slice ad2 es.length cp2) es.length (es.map Value.string)) := owns_mono hown2 (by omega)
    clear HC hown2 hb2 hrb hb1 hs1'
    go_wp2
    refine bodyPost_ret (v := .tuple #[.agg #[.int .i64 n2, .slice ad2 es.length cp2], .int .i64 cd]) ?_ rfl ⟨n2, _, rfl, es, owns_mono (owns_put (owns_put HO.out (by omega)) (by omega)) (by omega), hsp, (hbw.setCell (Nat.le_refl _) _).setCell (Nat.le_refl _) _⟩
    simp [results, Tryz.results56, go_sem, r0, r1]
  · have hcd : readErr c r kind = c.works r := by simp [readErr, hw]
    rw [hcd]
    generalize c.works r = er at *
    go_enter Tryz.func56, Tryz.ntmps56
    go_wp2_with fail
    refine (HST.out _).mono ?_
    rintro e w2 ⟨v1, out, rfl, hown1, hout, _, hb2⟩
    obtain ⟨ad1, cp1, hv1⟩ := own_form hown1
    subst hv1
    have hrb := (hb2.block w.heap.size (by simp)).trans (heap_alloc_new w (.cells #[.int .i64 0, .slice none 0 0] 129))
    have r0 : w2.cell? ⟨w.heap.size, 0, none⟩ = some (.int .i64 0) := blk_cell hrb 0
    have r1 : w2.cell? ⟨w.heap.size, 1, none⟩ = some (.slice none 0 0) := blk_cell hrb 1
    have rf0 : w2.frozen? ⟨w.heap.size, 0, none⟩ = false := blk_thaw hrb 0
    have rf1 : w2.frozen? ⟨w.heap.size, 1, none⟩ = false := blk_thaw hrb 1
    have hbw := (below_alloc (Below.refl _ w) (.cells #[.int .i64 0, .slice none 0 0] 129)).trans (hb2.mono (by simp))
    clear hb2 hrb hown1 hout HST HTL
    go_wp2
    refine bodyPost_ret (v := .tuple #[.agg #[.int .i64 0, .slice none 0 0], .int .i64 er]) ?_ rfl ⟨0, _, rfl, [], World.ownsRow_nil _ _ _ _, ⟨rfl, rfl⟩, (hbw.setCell (Nat.le_refl _) _).setCell (Nat.le_refl _) _⟩
    simp [results, Tryz.results56, go_sem, r0, r1]
end Go.Proofs.YtahdlejgjcjeoabGreatDoor
