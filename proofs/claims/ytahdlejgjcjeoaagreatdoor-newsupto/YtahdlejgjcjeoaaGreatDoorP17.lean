/- Neighbours: the plain side of New (P9). -/
import Derived.Test.YtahdlejgjcjeoaaGreatDoorP16
import Derived.Shelf.SlSortCmp.NoneTotal
import Derived.Test.YtahdlejgjcjeoaaGreatDoorP14
import Derived.Test.YtahdlejgjcjeoaaGreatDoorP05
import Derived.Test.YtahdlejgjcjeoaaGreatDoorP12
namespace Go.Proofs.YtahdlejgjcjeoaaGreatDoor
open Go.RowKit Go.Maps

theorem owns_grown {w w' : World} {base r : Nat} {e : TypeId} {s n : Nat} {v : Value} {xs : List Value} (h : w.ownsRow base e s v n xs) (hg : w.grownBy w' (some r)) (hr : r < base) : w'.ownsRow base e s v n xs := by
  obtain ⟨h0, h⟩ := h
  refine ⟨h0, ?_⟩
  rcases h with h | ⟨g, cap, cur, hv, hgb, hh, k⟩
  · exact .inl h
  · exact .inr ⟨g, cap, cur, hv, hgb, by rw [hg.block g (Array.getElem?_eq_some_iff.1 hh).1 (fun e => by cases e; omega)]; exact hh, k⟩
theorem ne_own {w : World} {base : Nat} {e : TypeId} {s n : Nat} {v : Value} {xs : List Value} (h : w.ownsRow base e s v n xs) : ∀ q, q < base → some q ≠ v.ownBlock := by
  intro q hq e'
  have := owns_base h q e'.symm
  omega
theorem unite_exp (s : Sl) (g : Gr) (w : World) (h : RulesAt w) (h1 : 1 ≤ s.ty) (h5 : s.ty ≤ 5) :
    Calls Tryz.prog 103 #[.agg #[.int .i64 s.ty, .string s.key, .int .i64 s.side, .int .i64 s.who, .string s.elem], .agg #[.int .i64 g.n, .int .i64 g.who, .string g.elem]] w fun e w' => e = .returned (.agg #[.int .i64 (unite s g).ty, .string (unite s g).key, .int .i64 (unite s g).side, .int .i64 (unite s g).who, .string (unite s g).elem, .int .i64 (unite s g).n]) ∧ Below w.heap.size w w' := unite_any s g w h h1 h5

set_option maxRecDepth 100000 in
set_option maxHeartbeats 2000000 in
theorem tell_any (b n : Nat) (M : Sl → Option Gr) (w : World) (hr : RulesAt w) (hm : StMap w b n M) (hmm : MayMap M) (hn : n ≤ 8388608) :
    Calls Tryz.prog 55 #[.map (some b)] w fun e w' => ∃ v' out, e = .returned v' ∧ w'.ownsRow w.heap.size 77 6 v' out.length (flat out) ∧ Hid (TellOf M out) ∧ Below w.heap.size w w' := by
  obtain ⟨D, hown, h2, h3⟩ := hm
  have HR : Hid (RulesAt w) := hr
  have HMM : Hid (MayMap M) := hmm
  have H2 : Hid (∀ s : Sl, s.ok → M s = none → Maps.has D s.lit = false) := h2
  have H3 : Hid (∀ s g, M s = some g → s.ok ∧ Maps.has D s.lit = true ∧ ∀ z, D.atKey s.lit z = g.dat) := h3
  have hsz := hown.size_le
  clear hr hmm h2 h3
  obtain ⟨i0, hi, hz0, hz1, hz2⟩ := info_parts infoAtom
  have hbw := hown.lt
  go_enter Tryz.func55, Tryz.ntmps55
  go_wp2_with (at_range; refine wpList_range_own _ rfl _ 122 rfl 172 174 slotKeyed Tryz.underlying122 grElem b n D rfl hown ?_; intro w0 hrg0 hg0 hs0)
  go_frame
  have hb0 : Below w.heap.size w w0 := (Below.refl _ w).grown hg0 (Nat.le_refl _) (fun k hk => by cases hk)
  go_loopw [3, 4] (fun v _ wr => ∃ (left : Lit → Bool) (cnt : Nat) (C : List At), wr.ranges Tryz.prog 172 grElem b w.heap.size n D left cnt ∧ wr.ownsRow (w.heap.size + 1) 77 6 v C.length (flat C) ∧ Hid (Coll M left C) ∧ C.length + cnt ≤ n ∧ Below w.heap.size w wr) (fun _ _ wr => wr.rangeLeft b w.heap.size)
  case atStart =>
    refine ⟨Maps.has D, Maps.size D, [], hrg0, by simp [flat, World.ownsRow], ⟨.nil, fun a => ?_⟩, by simpa using hsz, hb0⟩
    constructor
    · intro h; cases h
    · rintro ⟨h1, h2⟩
      have := (H3.out _ _ h1.2).2.1
      rw [this] at h2; cases h2
  case round =>
    obtain ⟨left, cnt, C, hrg, hrow, hC, hcnt, hbr⟩ := hrel
    go_wp2_with (at_next; refine wpList_next_ranges _ rfl _ rfl 172 slotKeyed grElem (fun s : Sl => .agg #[.int .i64 s.ty, .string s.key, .int .i64 s.side, .int .i64 s.who, .string s.elem]) (fun g : Gr => .agg #[.int .i64 g.n, .int .i64 g.who, .string g.elem]) slot_key_inv (fun v y hv => by obtain ⟨g, rfl, _⟩ := grElem_inv hv; exact ⟨g, rfl⟩) b w.heap.size n D left cnt rfl hrg ?_ ?_)
    · intro _ hl0
      have HL0 : Hid (∀ kl, left kl = false) := hl0
      clear hl0 hi hz0 hz1 hz2
      rcases hrow.2 with ⟨hv, hC0⟩ | ⟨g, cap, cur, hv, hbase, hblk, h1, h2, h3, h4⟩
      · subst hv
        obtain rfl := List.length_eq_zero_iff.1 hC0
        have hsn := fun W => AnyF.slices_SortFunc_none (P := Tryz.prog) sortAtoms none 0 (.func (.func 105) #[] #[]) W
        go_wp2_with fail
        refine Calls.mono (show Calls Tryz.prog 104 _ _ _ from hsn _) ?_
        rintro e w5 ⟨rfl, rfl⟩
        clear hsn
        go_wp2
        go_ret
        exact ⟨_, [], rfl, by simp [flat, World.ownsRow], tell_of hC.out HL0.out (List.Perm.refl _) .nil, hbr⟩
      · subst hv
        have hso := sort_any (w.heap.size + 1) g cap C wr hrow (by omega)
        clear h4
        go_wp2_with fail
        refine hso.mono ?_
        rintro e w5 ⟨rfl, C', hperm, hsorted, hown5, hg5⟩
        have HTL : Hid (TellOf M C') := tell_of hC.out HL0.out hperm hsorted
        have hl5 : C.length = C'.length := hperm.length_eq.symm
        have hfin : w5.ownsRow w.heap.size 77 6 (.slice (some ⟨g, 0, none⟩) C.length cap) C'.length (flat C') := by rw [← hl5]; exact owns_mono hown5 (by omega)
        have hb5 : Below w.heap.size w w5 := hbr.grown hg5 hbr.size (fun k hk => by cases hk; omega)
        clear hso hperm hsorted hown5 hg5 hl5
        go_wp2
        go_ret
        exact ⟨_, C', rfl, hfin, HTL, hb5⟩
    · intro x c kl yd yp w2 cnt2 hkey hlk hv hat hrg2 hlt hg2 hs2 hen
      obtain ⟨hxok, rfl⟩ := slot_ok_of_key x kl hkey
      have hMx : M x = some c := by
        obtain ⟨g', hg', hz'⟩ := grElem_inv hv
        cases hM : M x with
        | none =>
          have hh := H2.out x hxok hM
          rw [Maps.has_true_of_atKey hat] at hh
          cases hh
        | some g0 =>
          have := (H3.out x g0 hM).2.2 .nil
          rw [hat] at this
          have hcc : grElem c.val = some (c.dat, []) := grElem_mk c
          have hv' : grElem c.val = some (yd, yp) := hv
          rw [hcc] at hv'
          simp only [Option.some.injEq, Prod.mk.injEq] at hv'
          rw [Gr.dat_inj (hv'.1.trans this)]
      obtain ⟨a, ha, rfl, rfl⟩ := HMM.out x c hMx
      have hu := unite_eq a ha
      have hty := ty_of_may ha
      rw [← slot_ty a] at hty
      have HC2 : Hid (Coll M (fun z => left z && !z.sameKey (slot a).lit) (C ++ [a])) := hC.out.step ⟨ha, hMx⟩ hlk (fun s g h => (H3.out s g h).1)
      have hft := flat_snoc C a
      have HF : Hid (flat (C ++ [a]) = flat C ++ enc a) := hft
      have hsz2 : wr.heap.size ≤ w2.heap.size := by omega
      clear hkey hat hv hMx hs2 hft hxok hlk
      have hbr2 : Below w.heap.size w w2 := hbr.grown hg2 hbr.size (fun k hk => by cases hk; exact Nat.le_refl _)
      have hrow2 := owns_grown hrow hg2 (Nat.lt_succ_self _)
      have HL : Hid (wr.rangeLeft b w.heap.size = cnt) := hrg.left_eq
      clear hg2 hrow hrg
      have HUN : Hid (unite (slot a) (grade a) = a) := hu
      clear hu
      have hlink : ∀ W, RulesAt W → Calls Tryz.prog 103 #[.agg #[.int .i64 (slot a).ty, .string (slot a).key, .int .i64 (slot a).side, .int .i64 (slot a).who, .string (slot a).elem], .agg #[.int .i64 (grade a).n, .int .i64 (grade a).who, .string (grade a).elem]] W fun e w' => e = .returned (.agg #[.int .i64 a.ty, .string a.key, .int .i64 a.side, .int .i64 a.who, .string a.elem, .int .i64 a.n]) ∧ Below W.heap.size W w' := by
        intro W hW
        have := unite_exp (slot a) (grade a) W hW hty.1 hty.2
        rw [HUN.out] at this
        exact this
      clear hty ha HUN
      generalize (slot a).lit = kl at *
      generalize slot a = x at *
      generalize grade a = c at *
      have HLK : Hid (∀ W, RulesAt W → Calls Tryz.prog 103 #[.agg #[.int .i64 x.ty, .string x.key, .int .i64 x.side, .int .i64 x.who, .string x.elem], .agg #[.int .i64 c.n, .int .i64 c.who, .string c.elem]] W fun e w' => e = .returned (.agg #[.int .i64 a.ty, .string a.key, .int .i64 a.side, .int .i64 a.who, .string a.elem, .int .i64 a.n]) ∧ Below W.heap.size W w') := hlink
      clear hlink
      go_wp2_with fail
      refine (HLK.out _ ?hrl).mono ?_
      case hrl => exact HR.out.below (below_alloc (below_alloc hbr2 _) _) HR.out.1
      rintro e w3 ⟨rfl, hb3⟩
      have hbr3 : Below w.heap.size w w3 := (below_alloc (below_alloc hbr2 _) _).trans (hb3.mono (by simp; have := hbr2.size; omega))
      have hrow3 := owns_below ((hrow2.alloc _).alloc _) hb3
      have hrg3 := ((hrg2.alloc _).alloc _).kept (below_grown hb3 none) (by simp) (by simp)
      have hsz3 := hbr3.size
      have hsb3 : w.heap.size + 1 ≤ w3.heap.size := by have := hrg3.lt; omega
      clear hb3 hrow2 hrg2 hbr2 hen HLK
      go_wp2_with (at_builtin; refine wpList_append_lies _ rfl _ _ 56 rfl (w.heap.size + 1) 77 i0 _ 6 64 Tryz.underlying56 hi hz0 hz1 hz2 rfl (by decide) _ C.length _ rfl (hrow3.alloc _) ⟨w3.heap.size, 0, none⟩ 1 1 (enc a) rfl rfl (news_at w3 a _) (enc_oneCell a) (by decide) (by unfold maxLen; omega) (by omega) (by simp; omega) (w3.heap.size + 1) (by simp) ?_; intro g capn w4 hown4 hgrow4 hat4 hlt4)
      have hne := ne_own hrow3
      have hrg4 := (hrg3.alloc _).kept hgrow4 (hne b (by omega)) (hne w.heap.size (by omega))
      clear hne
      go_roundw
      case rel => exact ⟨_, cnt2, C ++ [a], hrg4, by rw [HF.out, List.length_append]; exact hown4, HC2, by simp; omega, (below_alloc hbr3 _).grown hgrow4 (by simp; omega) (fun q hq => by have := owns_base hrow3 q hq; omega)⟩
      case measure => rw [hrg4.left_eq, HL.out]; exact hlt
end Go.Proofs.YtahdlejgjcjeoaaGreatDoor

namespace Go.Proofs.YtahdlejgjcjeoaaGreatDoor
open Go.RowKit Go.MuLone

set_option maxRecDepth 100000 in
theorem prgState_no (x R n cap : Nat) (r : Int) (w : World) (h : ClAt w x R n cap) (hr : ¬ (0 ≤ r ∧ r < n)) :
    Calls Tryz.prog 20 #[.pointer (some ⟨x, 0, none⟩), .int .i64 r] w fun e w' => e = .returned (.tuple #[.slice none 0 0, .int .i64 5]) ∧ Below w.heap.size w w' := by
  have k41 := h.l41
  go_enter_defers Tryz.func20, Tryz.ntmps20
  go_wp2_with (go_at_call 50; refine (lock_free muLib ⟨x, 0, none⟩ _ h.c0 h.f0).mono ?_; rintro e w' ⟨rfl, rfl⟩)
  refine (upOne_no x r _ n cap _ k41 hr).mono ?_
  rintro e w1 ⟨rfl, rfl⟩
  go_wp2
  refine leaves_cons (f := 51) (args := #[.pointer (some ⟨x, 0, none⟩)]) (by simp) (by simp [go_sem]) ?_
  obtain ⟨u0, u1, u2⟩ := h.unlock (w2 := _) (Below.refl _ _)
  refine (unlock_deferred muLib ⟨x, 0, none⟩ .returning _ u0 u1).mono ?_
  rintro e u' w'' ⟨rfl, rfl, rfl⟩
  exact ⟨_, results_tmp2 rfl _ _ _, rfl, u2⟩
set_option maxRecDepth 100000 in
theorem prgBuffer_no (x R n cap : Nat) (r : Int) (w : World) (h : ClAt w x R n cap) (hr : ¬ (0 ≤ r ∧ r < n)) :
    Calls Tryz.prog 128 #[.pointer (some ⟨x, 0, none⟩), .int .i64 r] w fun e w' => e = .returned (.tuple #[.slice none 0 0, .int .i64 5]) ∧ Below w.heap.size w w' := by
  have k41 := h.l41
  go_enter_defers Tryz.func128, Tryz.ntmps128
  go_wp2_with (go_at_call 50; refine (lock_free muLib ⟨x, 0, none⟩ _ h.c0 h.f0).mono ?_; rintro e w' ⟨rfl, rfl⟩)
  refine (upOne_no x r _ n cap _ k41 hr).mono ?_
  rintro e w1 ⟨rfl, rfl⟩
  go_wp2
  refine leaves_cons (f := 51) (args := #[.pointer (some ⟨x, 0, none⟩)]) (by simp) (by simp [go_sem]) ?_
  obtain ⟨u0, u1, u2⟩ := h.unlock (w2 := _) (Below.refl _ _)
  refine (unlock_deferred muLib ⟨x, 0, none⟩ .returning _ u0 u1).mono ?_
  rintro e u' w'' ⟨rfl, rfl, rfl⟩
  exact ⟨_, results_tmp2 rfl _ _ _, rfl, u2⟩
set_option maxRecDepth 100000 in
theorem prgLog_no (x R n cap : Nat) (r : Int) (w : World) (h : ClAt w x R n cap) (hr : ¬ (0 ≤ r ∧ r < n)) :
    Calls Tryz.prog 131 #[.pointer (some ⟨x, 0, none⟩), .int .i64 r] w fun e w' => e = .returned (.tuple #[.string ⟨#[]⟩, .int .i64 5]) ∧ Below w.heap.size w w' := by
  have k41 := h.l41
  go_enter_defers Tryz.func131, Tryz.ntmps131
  go_wp2_with (go_at_call 50; refine (lock_free muLib ⟨x, 0, none⟩ _ h.c0 h.f0).mono ?_; rintro e w' ⟨rfl, rfl⟩)
  refine (one_no x r _ n cap _ k41 hr).mono ?_
  rintro e w1 ⟨rfl, rfl⟩
  go_wp2
  refine leaves_cons (f := 51) (args := #[.pointer (some ⟨x, 0, none⟩)]) (by simp) (by simp [go_sem]) ?_
  obtain ⟨u0, u1, u2⟩ := h.unlock (w2 := _) (Below.refl _ _)
  refine (unlock_deferred muLib ⟨x, 0, none⟩ .returning _ u0 u1).mono ?_
  rintro e u' w'' ⟨rfl, rfl, rfl⟩
  exact ⟨_, results_tmp2 rfl _ _ _, rfl, u2⟩
set_option maxRecDepth 100000 in
theorem prgStart_no (x R n cap : Nat) (r : Int) (w : World) (h : ClAt w x R n cap) (hr : ¬ (0 ≤ r ∧ r < n)) :
    Calls Tryz.prog 19 #[.pointer (some ⟨x, 0, none⟩), .int .i64 r] w fun e w' => e = .returned (.int .i64 5) ∧ Below w.heap.size w w' := by
  have k41 := h.l41
  go_enter_defers Tryz.func19, Tryz.ntmps19
  go_wp2_with (go_at_call 50; refine (lock_free muLib ⟨x, 0, none⟩ _ h.c0 h.f0).mono ?_; rintro e w' ⟨rfl, rfl⟩)
  refine (one_no x r _ n cap _ k41 hr).mono ?_
  rintro e w1 ⟨rfl, rfl⟩
  go_wp2
  refine leaves_cons (f := 51) (args := #[.pointer (some ⟨x, 0, none⟩)]) (by simp) (by simp [go_sem]) ?_
  obtain ⟨u0, u1, u2⟩ := h.unlock (w2 := _) (Below.refl _ _)
  refine (unlock_deferred muLib ⟨x, 0, none⟩ .returning _ u0 u1).mono ?_
  rintro e u' w'' ⟨rfl, rfl, rfl⟩
  exact ⟨_, results_tmp rfl _ _ _, rfl, u2⟩
set_option maxRecDepth 100000 in
theorem prgStart_up (x R n cap i : Nat) (w : World) (h : ClAt w x R n cap) (hi : i < n) (hup : w.cell? ⟨R, i * 14, none⟩ = some (.bool true)) :
    Calls Tryz.prog 19 #[.pointer (some ⟨x, 0, none⟩), .int .i64 i] w fun e w' => e = .returned (.int .i64 9) ∧ Below w.heap.size w w' := by
  have k41 := h.l41
  have kup := h.lR hup
  go_enter_defers Tryz.func19, Tryz.ntmps19
  go_wp2_with (go_at_call 50; refine (lock_free muLib ⟨x, 0, none⟩ _ h.c0 h.f0).mono ?_; rintro e w' ⟨rfl, rfl⟩)
  refine (one_yes x R i n cap _ k41 hi).mono ?_
  rintro e w1 ⟨rfl, rfl⟩
  go_wp2
  refine leaves_cons (f := 51) (args := #[.pointer (some ⟨x, 0, none⟩)]) (by simp) (by simp [go_sem]) ?_
  obtain ⟨u0, u1, u2⟩ := h.unlock (w2 := _) (Below.refl _ _)
  refine (unlock_deferred muLib ⟨x, 0, none⟩ .returning _ u0 u1).mono ?_
  rintro e u' w'' ⟨rfl, rfl, rfl⟩
  exact ⟨_, results_tmp rfl _ _ _, rfl, u2⟩
set_option maxRecDepth 100000 in
theorem prgState_yes (x R n cap i b m : Nat) (M : Sl → Option Gr) (w : World) (h : ClAt w x R n cap) (hi : i < n) (hup : w.cell? ⟨R, i * 14, none⟩ = some (.bool true)) (hst : w.cell? ⟨R, i * 14 + 3, none⟩ = some (.map (some b))) (hr : RulesAt w) (hx : 0 < x) (hbx : b ≠ x) (hm : StMap w b m M) (hmm : MayMap M) (hn : m ≤ 8388608) :
    Calls Tryz.prog 20 #[.pointer (some ⟨x, 0, none⟩), .int .i64 i] w fun e w' => ∃ v out, e = .returned (.tuple #[v, .int .i64 0]) ∧ w'.ownsRow w.heap.size 77 6 v out.length (flat out) ∧ Hid (TellOf M out) ∧ Below w.heap.size w w' := by
  have k41 := h.l41
  have kup := h.lR hup
  have kst := h.lR hst
  have hg1 := grown_setCell w ⟨x, 0, none⟩ (.int .i32 1)
  have HM : Hid (StMap (w.setCell ⟨x, 0, none⟩ (.int .i32 1)) b m M) := hm.kept hg1 (fun e => hbx (by cases e; rfl))
  have HR : Hid (RulesAt (w.setCell ⟨x, 0, none⟩ (.int .i32 1))) := hr.below (B := 1) ⟨hg1.os, hg1.tape, hg1.output, hg1.size, fun k hk => hg1.block k (Nat.lt_of_lt_of_le hk hr.1) (fun e => by have : k = x := Option.some.inj e; omega)⟩ (by omega)
  clear hg1 hr hm
  go_enter_defers Tryz.func20, Tryz.ntmps20
  go_wp2_with (go_at_call 50; refine (lock_free muLib ⟨x, 0, none⟩ _ h.c0 h.f0).mono ?_; rintro e w' ⟨rfl, rfl⟩)
  refine (upOne_yes x R i n cap true _ k41 hi kup).mono ?_
  rintro e w1 ⟨rfl, rfl⟩
  go_wp2_with fail
  refine (tell_any b m M _ HR.out HM.out hmm hn).mono ?_
  rintro e w2 ⟨v, out, rfl, hown, htl, hb⟩
  rw [lock_size] at hown hb
  have hown' : Hid (w2.ownsRow w.heap.size 77 6 v out.length (flat out)) := hown
  obtain ⟨ad, cp, rfl⟩ := own_form hown
  clear hown
  go_wp2
  refine leaves_cons (f := 51) (args := #[.pointer (some ⟨x, 0, none⟩)]) (by simp) (by simp [go_sem]) ?_
  obtain ⟨u0, u1, u2⟩ := h.unlock (w2 := _) (hb)
  refine (unlock_deferred muLib ⟨x, 0, none⟩ .returning _ u0 u1).mono ?_
  rintro e u' w'' ⟨rfl, rfl, rfl⟩
  exact ⟨_, results_tmp2 rfl _ _ _, _, out, rfl, owns_put hown'.out h.lt, htl, u2⟩
end Go.Proofs.YtahdlejgjcjeoaaGreatDoor

namespace Go.Proofs.YtahdlejgjcjeoaaGreatDoor

def edgeOk (n : Nat) (f : Nat → Nat → Bool) (a b : Int) : Bool := decide (0 ≤ a ∧ 0 ≤ b ∧ a < n ∧ b < n ∧ a ≠ b) && !f a.toNat b.toNat
def addE (f : Nat → Nat → Bool) (a b : Nat) : Nat → Nat → Bool := fun i j => f i j || (decide (i = a) && decide (j = b)) || (decide (i = b) && decide (j = a))
def linkAll (n : Nat) : (Nat → Nat → Bool) → List (Int × Int) → Option (Nat → Nat → Bool)
  | f, [] => some f
  | f, p :: l => if edgeOk n f p.1 p.2 then linkAll n (addE f p.1.toNat p.2.toNat) l else none
def noE : Nat → Nat → Bool := fun _ _ => false
theorem linkAll_step {n : Nat} {f : Nat → Nat → Bool} {l : List (Int × Int)} {k : Nat} (hk : k < l.length) : linkAll n f (l.drop k) = if edgeOk n f l[k].1 l[k].2 then linkAll n (addE f l[k].1.toNat l[k].2.toNat) (l.drop (k + 1)) else none := by
  rw [List.drop_eq_getElem_cons hk, linkAll]
theorem linkAll_end {n : Nat} {f : Nat → Nat → Bool} {l : List (Int × Int)} {k : Nat} (hk : l.length ≤ k) : linkAll n f (l.drop k) = some f := by
  rw [List.drop_of_length_le hk, linkAll]
def SymE (f : Nat → Nat → Bool) : Prop := ∀ i j, f i j = f j i
theorem symE_none : SymE noE := fun _ _ => rfl
theorem symE_add {f : Nat → Nat → Bool} (h : SymE f) (a b : Nat) : SymE (addE f a b) := by
  intro i j
  unfold addE
  rw [h i j, Bool.or_assoc, Bool.or_assoc, Bool.or_comm (decide (i = a) && _), Bool.and_comm (decide (i = b)), Bool.and_comm (decide (i = a))]

/-- What New asks of settings. -/
def newOk (reps room : Int) (es : List (Int × Int)) : Bool := decide (1 ≤ reps ∧ reps ≤ 6 ∧ 1 ≤ room ∧ room ≤ 8) && (linkAll reps.toNat noE es).isSome
/-- A replica that is new. -/
def rep0 (n : Nat) : Rep := ⟨false, [], 0, 0, [], List.replicate n 0, [], [], 0, 0⟩
def clu0 (room : Nat) (bp rr : Bool) (n : Nat) (f : Nat → Nat → Bool) : Clu := ⟨room, bp, rr, f, List.replicate n (rep0 n), []⟩
theorem clu0_ok {room n : Nat} (bp rr : Bool) (f : Nat → Nat → Bool) (h1 : 1 ≤ n) (h6 : n ≤ 6) (r1 : 1 ≤ room) (r8 : room ≤ 8) : (clu0 room bp rr n f).ok [] 0 where
  n1 := by simpa [clu0] using h1
  n6 := by simpa [clu0] using h6
  room1 := r1
  room8 := r8
  may a ha := by cases ha
  reps p hp := by
    have hp := List.eq_of_mem_replicate hp
    subst hp
    have hl : (clu0 room bp rr n f).reps.length = n := by simp [clu0]
    rw [hl]
    refine ⟨fun a ha => (by cases ha), by simp [rep0], Nat.le_refl _, Nat.le_refl _, fun e he => (by cases he), List.Pairwise.nil, by simp [rep0], by simp [rep0], fun k hk => ?_, fun _ => rfl, fun r hr => (by cases hr), by simp [rep0], Nat.le_refl _, by simp [rep0], .inl rfl, fun h => (by cases h)⟩
    exact Nat.le_of_eq (List.eq_of_mem_replicate hk)
  net f hf := by cases hf
  netT f hf := by cases hf
  netL := by simp [clu0]
end Go.Proofs.YtahdlejgjcjeoaaGreatDoor
