/- Six cells held through a region. -/
import Derived.Test.YtahdlejgjcjeoaaGreatDoorP22
import Derived.Test.YtahdlejgjcjeoaaGreatDoorP01
import Derived.Test.YtahdlejgjcjeoaaGreatDoorP06
import Derived.Deep.RegionHeld3
import Derived.Deep.RegionHeldLaw
namespace Go.Proofs.YtahdlejgjcjeoaaGreatDoor
open Go.RowKit

theorem grd_self (x : At) : grd x x = 0 := by
  have := grd_anti (a := x) (b := x) rfl
  omega

/-- What is new, joined with what was there, is all. -/
theorem news_joins {a b d W : List At} (ha : ∀ x ∈ a ++ b, mayB x = true) (hd : IsNews a b d) (hW : IsTold (a ++ b) W) : IsTold (d ++ b) W where
  sorted := hW.sorted
  great x hx := by
    obtain ⟨hm, hg⟩ := hW.great x hx
    have hsub : ∀ y ∈ d ++ b, y ∈ a ++ b := fun y hy => by
      rcases List.mem_append.1 hy with h | h
      · exact List.mem_append_left _ ((hd.mem y).1 h).1
      · exact List.mem_append_right _ h
    refine ⟨?_, fun y hy => hg y (hsub y hy)⟩
    rcases List.mem_append.1 hm with h | h
    · by_cases hn : ∀ y ∈ b, plc x y = 0 → 0 < grd x y
      · exact List.mem_append_left _ ((hd.mem x).2 ⟨h, fun y hy => hg y (List.mem_append_left _ hy), hn⟩)
      · simp only [Classical.not_forall] at hn
        obtain ⟨y, hy, hp, hgr⟩ := hn
        have hyx : plc y x = 0 := by rw [plc_tp.anti x y, hp]; rfl
        have h1 := hg y (List.mem_append_right _ hy) hyx
        have h2 := grd_anti (plc_ty hp)
        have he := same_of (ha x hm) (ha y (List.mem_append_right _ hy)) hp (by omega)
        rw [he]
        exact List.mem_append_right _ hy
    · exact List.mem_append_right _ h
  all y hy := hW.all y (by
    rcases List.mem_append.1 hy with h | h
    · exact List.mem_append_left _ ((hd.mem y).1 h).1
    · exact List.mem_append_right _ h)

/-- What is new is told. -/
theorem news_told {a b d W : List At} (ha : ∀ x ∈ a ++ b, mayB x = true) (hd : IsNews a b d) (hW : IsTold (a ++ b) W) {x : At} (hx : x ∈ d) : x ∈ W := by
  obtain ⟨hm, hg, hn⟩ := (hd.mem x).1 hx
  obtain ⟨z, hz, hp⟩ := hW.all x (List.mem_append_left _ hm)
  obtain ⟨hzm, hzg⟩ := hW.great z hz
  have h1 := hzg x (List.mem_append_left _ hm) hp
  rcases List.mem_append.1 hzm with h | h
  · have hzx : plc z x = 0 := by rw [plc_tp.anti x z, hp]; rfl
    have h2 := hg z h hzx
    have h3 := grd_anti (plc_ty hp)
    rw [same_of (ha x (List.mem_append_left _ hm)) (ha z hzm) hp (by omega)]
    exact hz
  · have := hn z h hp
    omega
theorem news_not {a b d : List At} (hd : IsNews a b d) {x : At} (hx : x ∈ d) : x ∉ b := fun h => by
  have := ((hd.mem x).1 hx).2.2 x h (plc_tp.refl x)
  rw [grd_self] at this
  omega
/-- Without one of its atoms it is not all. -/
theorem news_less {a b d W L : List At} (ha : ∀ x ∈ a ++ b, mayB x = true) (hd : IsNews a b d) (hW : IsTold (a ++ b) W) (i : Nat) (hi : i < d.length) (hL : IsTold (d.take i ++ d.drop (i + 1) ++ b) L) : L ≠ W := by
  rintro rfl
  have hx := List.getElem_mem hi
  have h1 := news_told ha hd hW hx
  have h2 := (hL.great _ h1).1
  have hs := hd.sorted
  rcases List.mem_append.1 h2 with h | h
  · have e : d = d.take i ++ d[i] :: d.drop (i + 1) := by simp
    rw [e, List.pairwise_append, List.pairwise_cons] at hs
    rcases List.mem_append.1 h with h | h
    · have := hs.2.2 _ h d[i] List.mem_cons_self
      rw [plc_tp.refl] at this
      omega
    · have := hs.2.1.1 _ h
      rw [plc_tp.refl] at this
      omega
  · exact news_not hd hx h
/-- It is in all else that does. -/
theorem news_under {a b c d W : List At} (ha : ∀ x ∈ a ++ b, mayB x = true) (hd : IsNews a b d) (hW : IsTold (a ++ b) W) (hC : IsTold (c ++ b) W) : ∀ x ∈ d, x ∈ c := fun x hx => by
  rcases List.mem_append.1 (hC.great x (news_told ha hd hW hx)).1 with h | h
  · exact h
  · exact absurd h (news_not hd hx)

/-- The laws' own slots and grades. -/
def sameSlotB (a b : At) : Bool := decide (a.ty = b.ty) && decide (a.key = b.key) && (decide (a.ty = 5) || (decide (a.side = b.side) && decide (a.who = b.who) && decide (a.elem = b.elem)))
def lowerB (a b : At) : Bool :=
  if a.n ≠ b.n ∨ a.ty ≠ 5 then decide (a.n < b.n)
  else if a.who ≠ b.who then decide (a.who < b.who)
  else decide (ordS a.elem b.elem < 0)
theorem sameSlotB_self (a : At) : sameSlotB a a = true := by simp [sameSlotB]
theorem ordS_self (s : ByteArray) : ordS s s = 0 := by
  have h := plc_tp.refl ⟨5, s, 0, 0, s, 0⟩
  have : plc ⟨5, s, 0, 0, s, 0⟩ ⟨5, s, 0, 0, s, 0⟩ = ordS s s := by simp [plc]
  rwa [this] at h
theorem lowerB_self (a : At) : lowerB a a = false := by
  unfold lowerB
  rw [ordS_self]
  simp
end Go.Proofs.YtahdlejgjcjeoaaGreatDoor

namespace Go.Proofs.YtahdlejgjcjeoaaGreatDoor
open Go.RowKit

theorem bytes_ne {a b : ByteArray} (h : a ≠ b) : (a.toList == b.toList) = false := by
  rw [beq_eq_false_iff_ne, Go.Lib.toList_data, Go.Lib.toList_data]
  exact fun e => h (ByteArray.ext (Array.toList_inj.1 e))
theorem at_ne {x y : At} (h : x ≠ y) : x.ty ≠ y.ty ∨ x.key ≠ y.key ∨ x.side ≠ y.side ∨ x.who ≠ y.who ∨ x.elem ≠ y.elem ∨ x.n ≠ y.n := by
  obtain ⟨a0, a1, a2, a3, a4, a5⟩ := x
  obtain ⟨b0, b1, b2, b3, b4, b5⟩ := y
  by_cases h0 : a0 = b0
  · by_cases h1 : a1 = b1
    · by_cases h2 : a2 = b2
      · by_cases h3 : a3 = b3
        · by_cases h4 : a4 = b4
          · by_cases h5 : a5 = b5
            · subst h0 h1 h2 h3 h4 h5; exact absurd rfl h
            · simp [h5]
          · simp [h4]
        · simp [h3]
      · simp [h2]
    · simp [h1]
  · simp [h0]

set_option maxRecDepth 100000 in
set_option maxHeartbeats 2000000 in
theorem sameAtoms_ne (v1 v2 : Value) (l m : List At) (w : World) (h1 : SliceOf w v1 l) (h2 : SliceOf w v2 m) (hlen : l.length ≤ 281474976710656) (hne : l ≠ m) :
    Calls Tryz.prog 91 #[v1, v2] w fun e w' => e = .returned (.bool false) ∧ Below w.heap.size w w' := by
  obtain ⟨ad1, cap1, rfl, hc1, H1⟩ := h1
  obtain ⟨ad2, cap2, rfl, hc2, H2⟩ := h2
  by_cases hll : l.length = m.length
  · have HR1 : Hid (0 < l.length → ∃ b off, ad1 = some ⟨b, off, none⟩ ∧ b < w.heap.size ∧ RowAt w b off l) := H1
    have HR2 : Hid (0 < m.length → ∃ b off, ad2 = some ⟨b, off, none⟩ ∧ b < w.heap.size ∧ RowAt w b off m) := H2
    have HNE : Hid (l ≠ m) := hne
    obtain ⟨n, hn⟩ : ∃ n, l.length = n := ⟨_, rfl⟩
    have hn2 : m.length = n := by omega
    rw [hn, hn2]
    clear H1 H2 hne hll
    go_enter Tryz.func91, Tryz.ntmps91
    go_wp2
    go_loopw [5] (fun j wr => ∃ k : Nat, k ≤ n ∧ j = .int .i64 k ∧ Hid (l.take k = m.take k) ∧ Below w.heap.size w wr) (fun j _ => n - (intOf j).toNat)
    case atStart => exact ⟨0, Nat.zero_le _, rfl, by simp [Hid], Below.refl _ _⟩
    case round =>
      obtain ⟨k, hk, rfl, hpre, hbw⟩ := hrel
      by_cases hkn : k < n
      · have hl : k < l.length := by omega
        have hm : k < m.length := by omega
        obtain ⟨b1, off1, rfl, hb1, hrow1⟩ := HR1.out (by omega)
        obtain ⟨b2, off2, rfl, hb2, hrow2⟩ := HR2.out (by omega)
        obtain ⟨c0, c1, c2, c3, c4, c5⟩ := (hrow1.below hbw hb1) k hl
        obtain ⟨d0, d1, d2, d3, d4, d5⟩ := (hrow2.below hbw hb2) k hm
        have HST : Hid (l[k] = m[k] → l.take (k + 1) = m.take (k + 1)) := fun e => by
          rw [List.take_succ_eq_append_getElem hl, List.take_succ_eq_append_getElem hm, hpre.out, e]
        clear hrow1 hrow2 HR1 HR2
        generalize l[k] = x at *
        generalize m[k] = y at *
        clear hl hm
        have q1 : (0 : Int) ≤ (k : Int) := by omega
        have q2 : (k : Int) < (n : Int) := by omega
        by_cases hxy : x = y
        · have HP2 : Hid (l.take (k + 1) = m.take (k + 1)) := HST.out hxy
          subst hxy
          go_wp2
          go_quiet (fail)
          go_wp2
          go_roundw
          case rel => exact ⟨k + 1, by omega, by go_num, HP2, below_drewN hbw _⟩
          case measure => simp [intOf]; omega
        · rcases at_ne hxy with h | h | h | h | h | h
          · go_wp2
            go_quiet (fail)
            go_wp2
            go_ret
            exact ⟨rfl, below_drewN hbw _⟩
          · have h' := bytes_ne h
            go_wp2
            go_quiet (fail)
            go_wp2
            go_ret
            exact ⟨rfl, below_drewN hbw _⟩
          · go_wp2
            go_quiet (fail)
            go_wp2
            go_ret
            exact ⟨rfl, below_drewN hbw _⟩
          · go_wp2
            go_quiet (fail)
            go_wp2
            go_ret
            exact ⟨rfl, below_drewN hbw _⟩
          · have h' := bytes_ne h
            go_wp2
            go_quiet (fail)
            go_wp2
            go_ret
            exact ⟨rfl, below_drewN hbw _⟩
          · go_wp2
            go_quiet (fail)
            go_wp2
            go_ret
            exact ⟨rfl, below_drewN hbw _⟩
      · have := hpre.out
        rw [List.take_of_length_le (by omega), List.take_of_length_le (by omega)] at this
        exact absurd this HNE.out
  · clear H1 H2 hne
    go_enter Tryz.func91, Tryz.ntmps91
    go_wp2
    go_ret
    exact ⟨rfl, Below.refl _ _⟩
end Go.Proofs.YtahdlejgjcjeoaaGreatDoor

namespace Go.Proofs.YtahdlejgjcjeoaaGreatDoor
open Go.RowKit

theorem calls_of_args {P : Program} {f : FuncId} {args args' : Array Value} {w : World} {Q Q' : Ending → World → Prop} (e : args' = args) (h : Calls P f args w Q) (hm : ∀ e w', Q e w' → Q' e w') : Calls P f args' w Q' := by
  rw [e]
  exact h.mono hm
theorem six_keep {W w w' : World} {b : Nat} {x0 x1 x2 x3 x4 x5 : Value} (h : Below W.heap.size W w ∧ b < w.heap.size ∧ w.cell? ⟨b, 0, none⟩ = some x0 ∧ w.cell? ⟨b, 1, none⟩ = some x1 ∧ w.cell? ⟨b, 2, none⟩ = some x2 ∧ w.cell? ⟨b, 3, none⟩ = some x3 ∧ w.cell? ⟨b, 4, none⟩ = some x4 ∧ w.cell? ⟨b, 5, none⟩ = some x5) (hb : Below w.heap.size w w') :
    Below W.heap.size W w' ∧ b < w'.heap.size ∧ w'.cell? ⟨b, 0, none⟩ = some x0 ∧ w'.cell? ⟨b, 1, none⟩ = some x1 ∧ w'.cell? ⟨b, 2, none⟩ = some x2 ∧ w'.cell? ⟨b, 3, none⟩ = some x3 ∧ w'.cell? ⟨b, 4, none⟩ = some x4 ∧ w'.cell? ⟨b, 5, none⟩ = some x5 := by
  obtain ⟨hW, z, c0, c1, c2, c3, c4, c5⟩ := h
  refine ⟨hW.trans (hb.mono hW.size), Nat.lt_of_lt_of_le z hb.size, ?_, ?_, ?_, ?_, ?_, ?_⟩ <;> (rw [hb.cell (p := ⟨b, _, none⟩) z]; assumption)
theorem six_drew {W w : World} {b : Nat} {x0 x1 x2 x3 x4 x5 : Value} (h : Below W.heap.size W w ∧ b < w.heap.size ∧ w.cell? ⟨b, 0, none⟩ = some x0 ∧ w.cell? ⟨b, 1, none⟩ = some x1 ∧ w.cell? ⟨b, 2, none⟩ = some x2 ∧ w.cell? ⟨b, 3, none⟩ = some x3 ∧ w.cell? ⟨b, 4, none⟩ = some x4 ∧ w.cell? ⟨b, 5, none⟩ = some x5) :
    Below W.heap.size W w.drew ∧ b < w.drew.heap.size ∧ w.drew.cell? ⟨b, 0, none⟩ = some x0 ∧ w.drew.cell? ⟨b, 1, none⟩ = some x1 ∧ w.drew.cell? ⟨b, 2, none⟩ = some x2 ∧ w.drew.cell? ⟨b, 3, none⟩ = some x3 ∧ w.drew.cell? ⟨b, 4, none⟩ = some x4 ∧ w.drew.cell? ⟨b, 5, none⟩ = some x5 := six_keep h (Below.refl _ w).drew
theorem six_start {W w : World} {x0 x1 x2 x3 x4 x5 : Value} {e : TypeId} {b : Nat} (hbn : b = w.heap.size) (h : Below W.heap.size W w) :
    Below W.heap.size W (w.alloc (.cells #[x0, x1, x2, x3, x4, x5] e)) ∧ b < (w.alloc (.cells #[x0, x1, x2, x3, x4, x5] e)).heap.size ∧ (w.alloc (.cells #[x0, x1, x2, x3, x4, x5] e)).cell? ⟨b, 0, none⟩ = some x0 ∧ (w.alloc (.cells #[x0, x1, x2, x3, x4, x5] e)).cell? ⟨b, 1, none⟩ = some x1 ∧ (w.alloc (.cells #[x0, x1, x2, x3, x4, x5] e)).cell? ⟨b, 2, none⟩ = some x2 ∧ (w.alloc (.cells #[x0, x1, x2, x3, x4, x5] e)).cell? ⟨b, 3, none⟩ = some x3 ∧ (w.alloc (.cells #[x0, x1, x2, x3, x4, x5] e)).cell? ⟨b, 4, none⟩ = some x4 ∧ (w.alloc (.cells #[x0, x1, x2, x3, x4, x5] e)).cell? ⟨b, 5, none⟩ = some x5 := by
  subst hbn
  exact ⟨below_alloc h _, by simp, six_cells (MapKept.heap_alloc w _).1⟩

end Go.Proofs.YtahdlejgjcjeoaaGreatDoor
