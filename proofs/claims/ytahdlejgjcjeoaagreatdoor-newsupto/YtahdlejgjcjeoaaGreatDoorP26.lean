/- Walks of the laws' sameSlot, lower, below. -/
import Derived.Test.YtahdlejgjcjeoaaGreatDoorP25
namespace Go.Proofs.YtahdlejgjcjeoaaGreatDoor
open Go.RowKit

set_option maxRecDepth 100000 in
set_option maxHeartbeats 2000000 in
theorem sameSlot_any (x y : At) (w : World) :
    Calls Tryz.prog 56 #[x.val, y.val] w fun e w' => ∃ r : Bool, e = .returned (.bool r) ∧ Hid (x = y → r = true) ∧ Below w.heap.size w w' := by
  by_cases hxy : x = y
  · subst hxy
    obtain ⟨ty, key, side, who, elem, n⟩ := x
    unfold At.val
    by_cases h5 : ty = 5
    · subst h5
      go_enter Tryz.func56, Tryz.ntmps56
      go_wp2
      go_ret
      exact ⟨true, rfl, fun _ => rfl, below_alloc (below_alloc (Below.refl _ _) _) _⟩
    · go_enter Tryz.func56, Tryz.ntmps56
      go_wp2
      go_ret
      exact ⟨true, by simp, fun _ => rfl, below_alloc (below_alloc (Below.refl _ _) _) _⟩
  · have HX : ∀ r : Bool, Hid (x = y → r = true) := fun r h => absurd h hxy
    clear hxy
    generalize hP : (fun r : Bool => Hid (x = y → r = true)) = P
    have HP : ∀ r, P r := by rw [← hP]; exact HX
    have hPe : ∀ r, (Hid (x = y → r = true)) = P r := fun r => by rw [← hP]
    simp only [hPe]
    clear HX hP hPe
    obtain ⟨ty, key, side, who, elem, n⟩ := x
    obtain ⟨ty2, key2, side2, who2, elem2, n2⟩ := y
    unfold At.val
    go_enter Tryz.func56, Tryz.ntmps56
    go_wp2
    all_goals go_ret
    all_goals exact ⟨_, rfl, HP _, below_alloc (below_alloc (Below.refl _ _) _) _⟩

set_option maxRecDepth 100000 in
set_option maxHeartbeats 2000000 in
theorem lower_any (x y : At) (w : World) :
    Calls Tryz.prog 57 #[x.val, y.val] w fun e w' => ∃ r : Bool, e = .returned (.bool r) ∧ Hid (y = x → r = false) ∧ Below w.heap.size w w' := by
  by_cases hxy : y = x
  · subst hxy
    obtain ⟨ty, key, side, who, elem, n⟩ := y
    have hl := Go.Proofs.YtahdlejgjcjeoaaGreatDoor.lessS elem elem
    rw [ordS_self] at hl
    unfold At.val
    by_cases h5 : ty = 5
    · subst h5
      go_enter Tryz.func57, Tryz.ntmps57
      go_wp2
      go_ret
      exact ⟨false, by simp, fun _ => rfl, below_alloc (below_alloc (Below.refl _ _) _) _⟩
    · go_enter Tryz.func57, Tryz.ntmps57
      go_wp2
      go_ret
      exact ⟨false, by simp, fun _ => rfl, below_alloc (below_alloc (Below.refl _ _) _) _⟩
  · generalize hP : (fun r : Bool => Hid (y = x → r = false)) = P
    have HP : ∀ r, P r := by rw [← hP]; exact fun r h => absurd h hxy
    have hPe : ∀ r, (Hid (y = x → r = false)) = P r := fun r => by rw [← hP]
    simp only [hPe]
    clear hxy hP hPe
    obtain ⟨ty, key, side, who, elem, n⟩ := x
    obtain ⟨ty2, key2, side2, who2, elem2, n2⟩ := y
    unfold At.val
    go_enter Tryz.func57, Tryz.ntmps57
    go_wp2
    all_goals go_ret
    all_goals exact ⟨_, rfl, HP _, below_alloc (below_alloc (Below.refl _ _) _) _⟩

theorem cell_keep {w w' : World} {p : Addr} {u : Value} (h : w.cell? p = some u) (hb : Below w.heap.size w w') : w'.cell? p = some u := by
  have : p.block < w.heap.size := by
    have h0 : w.heap[p.block]? ≠ none := by
      intro hn
      unfold World.cell? at h
      simp [hn] at h
    have := mt Array.getElem?_eq_none h0
    omega
  rw [hb.cell this]
  exact h
theorem twelve_keep {w w' : World} {b1 o1 b2 o2 : Nat} {x y : At} (h : w.cell? ⟨b1, o1, none⟩ = some (.int .i64 x.ty) ∧ w.cell? ⟨b1, o1 + 1, none⟩ = some (.string x.key) ∧ w.cell? ⟨b1, o1 + 2, none⟩ = some (.int .i64 x.side) ∧ w.cell? ⟨b1, o1 + 3, none⟩ = some (.int .i64 x.who) ∧ w.cell? ⟨b1, o1 + 4, none⟩ = some (.string x.elem) ∧ w.cell? ⟨b1, o1 + 5, none⟩ = some (.int .i64 x.n) ∧ w.cell? ⟨b2, o2, none⟩ = some (.int .i64 y.ty) ∧ w.cell? ⟨b2, o2 + 1, none⟩ = some (.string y.key) ∧ w.cell? ⟨b2, o2 + 2, none⟩ = some (.int .i64 y.side) ∧ w.cell? ⟨b2, o2 + 3, none⟩ = some (.int .i64 y.who) ∧ w.cell? ⟨b2, o2 + 4, none⟩ = some (.string y.elem) ∧ w.cell? ⟨b2, o2 + 5, none⟩ = some (.int .i64 y.n)) (hb : Below w.heap.size w w') :
    w'.cell? ⟨b1, o1, none⟩ = some (.int .i64 x.ty) ∧ w'.cell? ⟨b1, o1 + 1, none⟩ = some (.string x.key) ∧ w'.cell? ⟨b1, o1 + 2, none⟩ = some (.int .i64 x.side) ∧ w'.cell? ⟨b1, o1 + 3, none⟩ = some (.int .i64 x.who) ∧ w'.cell? ⟨b1, o1 + 4, none⟩ = some (.string x.elem) ∧ w'.cell? ⟨b1, o1 + 5, none⟩ = some (.int .i64 x.n) ∧ w'.cell? ⟨b2, o2, none⟩ = some (.int .i64 y.ty) ∧ w'.cell? ⟨b2, o2 + 1, none⟩ = some (.string y.key) ∧ w'.cell? ⟨b2, o2 + 2, none⟩ = some (.int .i64 y.side) ∧ w'.cell? ⟨b2, o2 + 3, none⟩ = some (.int .i64 y.who) ∧ w'.cell? ⟨b2, o2 + 4, none⟩ = some (.string y.elem) ∧ w'.cell? ⟨b2, o2 + 5, none⟩ = some (.int .i64 y.n) := by
  obtain ⟨c0, c1, c2, c3, c4, c5, d0, d1, d2, d3, d4, d5⟩ := h
  exact ⟨cell_keep c0 hb, cell_keep c1 hb, cell_keep c2 hb, cell_keep c3 hb, cell_keep c4 hb, cell_keep c5 hb, cell_keep d0 hb, cell_keep d1 hb, cell_keep d2 hb, cell_keep d3 hb, cell_keep d4 hb, cell_keep d5 hb⟩

set_option maxRecDepth 100000 in
set_option maxHeartbeats 4000000 in
theorem below_walk (v1 v2 : Value) (l m : List At) (w : World) (h1 : SliceOf w v1 l) (h2 : SliceOf w v2 m) (hlen : l.length ≤ 4194304) (hlen2 : m.length ≤ 4194304) :
    Calls Tryz.prog 22 #[v1, v2] w fun e w' => ∃ r : Bool, e = .returned (.bool r) ∧ Hid ((∀ x ∈ l, x ∈ m) → r = true) ∧ Below w.heap.size w w' := by
  have H1 : Hid (SliceOf w v1 l) := h1
  have H2 : Hid (SliceOf w v2 m) := h2
  obtain ⟨ad1, cap1, rfl, _, _⟩ := h1
  obtain ⟨ad2, cap2, rfl, _, _⟩ := h2
  go_enter Tryz.func22, Tryz.ntmps22
  go_wp2
  go_loopw [5] (fun j wr => ∃ i : Nat, i ≤ l.length ∧ j = .int .i64 i ∧ Below w.heap.size w wr) (fun j _ => l.length - (intOf j).toNat)
  case atStart => exact ⟨0, Nat.zero_le _, rfl, Below.refl _ _⟩
  case round =>
    obtain ⟨i, hi, rfl, hbw⟩ := hrel
    by_cases hil : i < l.length
    · go_wp2
      go_loopw [6, 7] (fun t j w2 => ∃ (k : Nat) (b : Bool), k ≤ m.length ∧ j = .int .i64 k ∧ t = .bool b ∧ Hid (nth l i ∈ m.take k → b = true) ∧ Below w.heap.size w w2) (fun _ j _ => m.length - (intOf j).toNat)
      case atStart => exact ⟨0, false, Nat.zero_le _, rfl, rfl, by simp [Hid], hbw⟩
      case round =>
        obtain ⟨k, b, hk, rfl, rfl, hb, hbw2⟩ := hrel
        by_cases hkm : k < m.length
        · obtain ⟨ad', cap', e', -, HS1⟩ := H1.out.below hbw2
          cases e'
          obtain ⟨b1, off1, rfl, hb1, hrow1⟩ := HS1 (by omega)
          obtain ⟨ad', cap', e', -, HS2⟩ := H2.out.below hbw2
          cases e'
          obtain ⟨b2, off2, rfl, hb2, hrow2⟩ := HS2 (by omega)
          have hcs : wr.cell? ⟨b1, off1 + i * 6, none⟩ = some (.int .i64 (nth l i).ty) ∧ wr.cell? ⟨b1, off1 + i * 6 + 1, none⟩ = some (.string (nth l i).key) ∧ wr.cell? ⟨b1, off1 + i * 6 + 2, none⟩ = some (.int .i64 (nth l i).side) ∧ wr.cell? ⟨b1, off1 + i * 6 + 3, none⟩ = some (.int .i64 (nth l i).who) ∧ wr.cell? ⟨b1, off1 + i * 6 + 4, none⟩ = some (.string (nth l i).elem) ∧ wr.cell? ⟨b1, off1 + i * 6 + 5, none⟩ = some (.int .i64 (nth l i).n) ∧ wr.cell? ⟨b2, off2 + k * 6, none⟩ = some (.int .i64 (nth m k).ty) ∧ wr.cell? ⟨b2, off2 + k * 6 + 1, none⟩ = some (.string (nth m k).key) ∧ wr.cell? ⟨b2, off2 + k * 6 + 2, none⟩ = some (.int .i64 (nth m k).side) ∧ wr.cell? ⟨b2, off2 + k * 6 + 3, none⟩ = some (.int .i64 (nth m k).who) ∧ wr.cell? ⟨b2, off2 + k * 6 + 4, none⟩ = some (.string (nth m k).elem) ∧ wr.cell? ⟨b2, off2 + k * 6 + 5, none⟩ = some (.int .i64 (nth m k).n) := by
            obtain ⟨c0, c1, c2, c3, c4, c5⟩ := hrow1.nth hil
            obtain ⟨d0, d1, d2, d3, d4, d5⟩ := hrow2.nth hkm
            exact ⟨c0, c1, c2, c3, c4, c5, d0, d1, d2, d3, d4, d5⟩
          have HST : Hid (nth l i ∈ m.take (k + 1) → nth l i ∈ m.take k ∨ nth l i = nth m k) := fun h => by
            rw [List.take_succ_eq_append_getElem hkm, List.mem_append] at h
            rcases h with h | h
            · exact .inl h
            · exact .inr (by rw [nth_eq m k hkm]; simpa using h)
          have HSS : Hid (∀ W : World, Calls Tryz.prog 56 #[(nth l i).val, (nth m k).val] W fun e w' => ∃ r : Bool, e = .returned (.bool r) ∧ Hid (nth l i = nth m k → r = true) ∧ Below W.heap.size W w') := fun W => sameSlot_any _ _ W
          have HLO : Hid (∀ W : World, Calls Tryz.prog 57 #[(nth m k).val, (nth l i).val] W fun e w' => ∃ r : Bool, e = .returned (.bool r) ∧ Hid (nth l i = nth m k → r = false) ∧ Below W.heap.size W w') := fun W => lower_any _ _ W
          clear hrow1 hrow2 HS1 HS2 H1 H2 hb1 hb2
          generalize nth l i = x at *
          generalize nth m k = y at *
          unfold At.val at HSS HLO
          have q1 : (0 : Int) ≤ (k : Int) := by omega
          have q2 : (k : Int) < (m.length : Int) := by omega
          have q3 : (0 : Int) ≤ (i : Int) := by omega
          have q4 : (i : Int) < (l.length : Int) := by omega
          obtain ⟨c0, c1, c2, c3, c4, c5, d0, d1, d2, d3, d4, d5⟩ := id hcs
          go_wp2
          go_region_held3 (fun w' => w'.cell? ⟨b1, off1 + i * 6, none⟩ = some (.int .i64 x.ty) ∧ w'.cell? ⟨b1, off1 + i * 6 + 1, none⟩ = some (.string x.key) ∧ w'.cell? ⟨b1, off1 + i * 6 + 2, none⟩ = some (.int .i64 x.side) ∧ w'.cell? ⟨b1, off1 + i * 6 + 3, none⟩ = some (.int .i64 x.who) ∧ w'.cell? ⟨b1, off1 + i * 6 + 4, none⟩ = some (.string x.elem) ∧ w'.cell? ⟨b1, off1 + i * 6 + 5, none⟩ = some (.int .i64 x.n) ∧ w'.cell? ⟨b2, off2 + k * 6, none⟩ = some (.int .i64 y.ty) ∧ w'.cell? ⟨b2, off2 + k * 6 + 1, none⟩ = some (.string y.key) ∧ w'.cell? ⟨b2, off2 + k * 6 + 2, none⟩ = some (.int .i64 y.side) ∧ w'.cell? ⟨b2, off2 + k * 6 + 3, none⟩ = some (.int .i64 y.who) ∧ w'.cell? ⟨b2, off2 + k * 6 + 4, none⟩ = some (.string y.elem) ∧ w'.cell? ⟨b2, off2 + k * 6 + 5, none⟩ = some (.int .i64 y.n)) (first | go_keep | exact twelve_keep (by assumption) hbN | fail) (first | (go_at_call 56; refine (HSS.out _).mono ?_; rintro e wN ⟨r1, rfl, hr1, hbN⟩) | fail)
          have hbx : Below w.heap.size w wN := hbw2.trans ((Below.refl _ _).drew.trans hbN |>.mono hbw2.size)
          have hcs2 := twelve_keep (twelve_keep hcs (Below.refl _ wr).drew) hbN
          clear hcs c0 c1 c2 c3 c4 c5 d0 d1 d2 d3 d4 d5 HSS hbN
          obtain ⟨c0, c1, c2, c3, c4, c5, d0, d1, d2, d3, d4, d5⟩ := id hcs2
          go_wp2
          go_region_held3 (fun w' => w'.cell? ⟨b1, off1 + i * 6, none⟩ = some (.int .i64 x.ty) ∧ w'.cell? ⟨b1, off1 + i * 6 + 1, none⟩ = some (.string x.key) ∧ w'.cell? ⟨b1, off1 + i * 6 + 2, none⟩ = some (.int .i64 x.side) ∧ w'.cell? ⟨b1, off1 + i * 6 + 3, none⟩ = some (.int .i64 x.who) ∧ w'.cell? ⟨b1, off1 + i * 6 + 4, none⟩ = some (.string x.elem) ∧ w'.cell? ⟨b1, off1 + i * 6 + 5, none⟩ = some (.int .i64 x.n) ∧ w'.cell? ⟨b2, off2 + k * 6, none⟩ = some (.int .i64 y.ty) ∧ w'.cell? ⟨b2, off2 + k * 6 + 1, none⟩ = some (.string y.key) ∧ w'.cell? ⟨b2, off2 + k * 6 + 2, none⟩ = some (.int .i64 y.side) ∧ w'.cell? ⟨b2, off2 + k * 6 + 3, none⟩ = some (.int .i64 y.who) ∧ w'.cell? ⟨b2, off2 + k * 6 + 4, none⟩ = some (.string y.elem) ∧ w'.cell? ⟨b2, off2 + k * 6 + 5, none⟩ = some (.int .i64 y.n)) (first | go_keep | exact twelve_keep (by assumption) hbM | fail) (first | (go_at_call 57; refine (HLO.out _).mono ?_; rintro e wM ⟨r2, rfl, hr2, hbM⟩) | fail)
          have hby : Below w.heap.size w wM := hbx.trans ((Below.refl _ _).drew.trans hbM |>.mono hbx.size)
          have HB2 : Hid (x ∈ m.take (k + 1) → (b || (r1 && !r2)) = true) := fun h => by
            rcases HST.out h with h | h
            · rw [hb.out h]; rfl
            · rw [hr1.out h, hr2.out h]; simp
          clear hcs2 c0 c1 c2 c3 c4 c5 d0 d1 d2 d3 d4 d5 HLO hbM hbx hb hr1 hr2 HST
          cases b <;> cases r1 <;> cases r2
          all_goals go_wp2
          all_goals exact ⟨⟨k + 1, _, by omega, by go_num, rfl, HB2, hby⟩, by simp [intOf]; omega⟩
        · have HNI : Hid (nth l i ∈ m → b = true) := fun h => hb.out (by rw [List.take_of_length_le (by omega)]; exact h)
          have HIN : Hid (nth l i ∈ l) := nth_mem l i hil
          cases b
          · go_wp2
            go_ret
            exact ⟨false, rfl, fun h => absurd (HNI.out (h _ HIN.out)) (by simp), hbw2⟩
          · go_wp2
            exact ⟨⟨i + 1, by omega, by go_num, hbw2⟩, by simp [intOf]; omega⟩
    · go_wp2
      go_ret
      exact ⟨true, rfl, fun _ => rfl, hbw⟩
end Go.Proofs.YtahdlejgjcjeoaaGreatDoor
