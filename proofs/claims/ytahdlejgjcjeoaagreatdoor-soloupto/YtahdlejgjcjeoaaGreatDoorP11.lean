/- Read, as plain lists. No program. -/
import Derived.Test.YtahdlejgjcjeoaaGreatDoorP08
import Derived.Test.YtahdlejgjcjeoaaGreatDoorP01
import Derived.Deep.MidRow
import Derived.Deep.RegionHeld3
import Derived.Test.YtahdlejgjcjeoaaGreatDoorP05
import Derived.Test.YtahdlejgjcjeoaaGreatDoorP10
import Derived.Test.YtahdlejgjcjeoaaGreatDoorP02
namespace Go.Proofs.YtahdlejgjcjeoaaGreatDoor
open Go.RowKit Go.MuLone

def rec14 (m : Nat) : List Value := [.bool true, .int .i64 0, .int .i64 0, .map (some m), .slice none 0 0, .int .i64 0, .int .i64 0, .int .i64 0, .int .i64 0, .int .i64 0, .int .i64 0, .slice none 0 0, .int .i64 0, .int .i64 0]
def noMap : Sl → Option Gr := fun _ => none
def zero14 : List Value := [.bool false, .int .i64 0, .int .i64 0, .map none, .slice none 0 0, .int .i64 0, .int .i64 0, .int .i64 0, .int .i64 0, .int .i64 0, .int .i64 0, .slice none 0 0, .int .i64 0, .int .i64 0]
def zeros (n : Nat) : List Value := (List.replicate n zero14).flatten
def clB (bp rr : Bool) (room : Int) (F : Nat → Nat → Bool) (R n : Nat) : List Value := [.int .i32 0, .int .u32 0, .bool bp, .bool rr, .int .i64 room] ++ (linkB F ++ [.slice (some ⟨R, 0, none⟩) n n, .slice none 0 0])
theorem infoRep : (Tryz.prog.info? 126).map (fun i => (i.zero, i.size, i.bytes)) = some (some (.agg zero14.toArray), 14, 144) := by kernel_rfl
theorem made_reps (n : Nat) : madeCells (Value.cells (.agg zero14.toArray)) (n * 14) = (zeros n).toArray := by
  apply Array.ext_getElem?
  intro t
  have hl : (zeros n).length = n * 14 := reps_length n zero14
  by_cases ht : t < n * 14
  · have hm : t % 14 < 14 := Nat.mod_lt _ (by decide)
    have hu : zero14[t % 14]? = some zero14[t % 14]! := by
      rw [getElem!_pos zero14 (t % 14) hm, List.getElem?_eq_getElem hm]
    have h2 := reps_get (n := n) (i := t / 14) (by omega) hu
    rw [show t / 14 * zero14.length + t % 14 = t by show t / 14 * 14 + t % 14 = t; omega] at h2
    have h3 : (zeros n).toArray[t]? = some zero14[t % 14]! := by rw [List.getElem?_toArray]; exact h2
    rw [h3]
    have hz : (Value.cells (.agg zero14.toArray)) = zero14.toArray := rfl
    rw [hz]
    unfold madeCells
    rw [Array.getElem?_map, Array.getElem?_range, if_pos ht]
    show some (zero14.toArray[t % 14]!) = _
    rw [List.getElem!_toArray]
  · rw [Array.getElem?_eq_none (by rw [size_madeCells]; omega), Array.getElem?_eq_none (by simp; omega)]
theorem make_reps (n : Nat) (h6 : n ≤ 6) (W : World) : (Instr.makeSlice 114 (.int .i64 (n : Int)) (.int .i64 (n : Int))).run Tryz.prog W = .ok (.slice (some ⟨W.heap.size, 0, none⟩) n n) (W.alloc (.cells (zeros n).toArray 126)) := by
  obtain ⟨i, hi, hz0, hz1, hz2⟩ := info_parts infoRep
  have hr := run_make (P := Tryz.prog) W 114 126 i _ Tryz.underlying114 hi hz0 .i64 .i64 n n (by omega) (Int.le_refl _) (by rw [hz2]; omega) (by omega)
  simp only [Int.toNat_natCast] at hr
  rw [hr, hz1, made_reps n]
theorem cellKeepA {W : World} {a : Addr} {v : Value} (h : W.cell? a = some v) (o : Obj) : (W.alloc o).cell? a = some v := by
  obtain ⟨b, k, s⟩ := a
  cases s with
  | none =>
    obtain ⟨cs, e, fz, hx, _⟩ := Go.Sort.cells_of_cell? h
    exact (((Below.refl W.heap.size W).alloc (Nat.le_refl _) o).cell (p := ⟨b, k, none⟩) (Array.getElem?_eq_some_iff.1 hx).1).trans h
  | some s =>
    simp only [World.cell?] at h
    split at h <;> cases h
/-- Made, and not filled yet. -/
structure MadeP (w wc : World) (x R n : Nat) (bp rr : Bool) (room : Int) (F : Nat → Nat → Bool) : Prop where
  bel : Below w.heap.size w wc
  bx : wc.heap[x]? = some (.cells (clB bp rr room F R n).toArray 117 (0, 0))
  bR : wc.heap[R]? = some (.cells (zeros n).toArray 126 (0, 0))
  hx : w.heap.size ≤ x
  hR : w.heap.size ≤ R

structure FillP (w wc : World) (x R n r : Nat) (bp rr : Bool) (room : Int) (F : Nat → Nat → Bool) : Prop where
  bel : Below w.heap.size w wc
  bx : wc.heap[x]? = some (.cells (clB bp rr room F R n).toArray 117 (0, 0))
  hx : w.heap.size ≤ x
  hR : w.heap.size ≤ R
  xR : x ≠ R
  ltR : R < wc.heap.size
  th : ∀ i, i < n → wc.there R (i * 14) 14
  row : ∀ i, i < r → ∃ m, wc.rangeAt R (i * 14) (rec14 m) ∧ StMap wc m 0 noMap ∧ m ≠ x ∧ m ≠ R ∧ w.heap.size ≤ m
theorem zeros_length (n : Nat) : (zeros n).length = n * 14 := reps_length n zero14
theorem MadeP.start {w wc : World} {x R n : Nat} {bp rr : Bool} {room : Int} {F : Nat → Nat → Bool} (h : MadeP w wc x R n bp rr room F) : FillP w wc x R n 0 bp rr room F where
  bel := h.bel
  bx := h.bx
  hx := h.hx
  hR := h.hR
  xR e := by
    have := h.bx
    rw [e, h.bR] at this
    simp at this
  ltR := blk_lt h.bR
  th i hi j hj := by
    refine ⟨?_, blk_thaw h.bR _⟩
    have hl : i * 14 + j < (zeros n).length := by rw [zeros_length]; omega
    rw [blk_cell h.bR, List.getElem?_toArray, List.getElem?_eq_getElem hl]
    rfl
  row i hi := by omega
theorem FillP.step {w wc : World} {x R n r : Nat} {bp rr : Bool} {room : Int} {F : Nat → Nat → Bool} (h : FillP w wc x R n r bp rr room F) (hr : r < n) : FillP w ((wc.alloc (.map #[] 0)).setCells R (r * 14) (rec14 wc.heap.size)) x R n (r + 1) bp rr room F where
  bel := ((below_alloc h.bel _).grown (grown_setCells _ _ _) (by have := h.bel.size; simp; omega) (fun k hk => by cases hk; exact h.hR))
  bx := by
    refine ((grown_setCells (g := R) (rec14 wc.heap.size) (r * 14) (wc.alloc (.map #[] 0))).block x (by have := blk_lt h.bx; simp; omega) (fun e => h.xR (Option.some.inj e))).trans ?_
    exact (((Below.refl wc.heap.size wc).alloc (Nat.le_refl _) _).block x (blk_lt h.bx)).trans h.bx
  hx := h.hx
  hR := h.hR
  xR := h.xR
  ltR := Nat.lt_of_lt_of_le h.ltR (Nat.le_trans (by simp) (grown_setCells (g := R) (rec14 wc.heap.size) (r * 14) (wc.alloc (.map #[] 0))).size)
  th i hi := World.there_setCells (World.there_alloc (h.th i hi) _) _ _ _
  row i hi := by
    by_cases e : i = r
    · subst e
      refine ⟨wc.heap.size, World.rangeAt_setCells_same _ _ _ _ (World.there_alloc (h.th i hr) _), ?_, ?_, ?_, h.bel.size⟩
      · exact (stMap_made wc).kept (grown_setCells _ _ _) (fun e => by have := h.ltR; have := Option.some.inj e; omega)
      · have := blk_lt h.bx; omega
      · have := h.ltR; omega
    · obtain ⟨m, h1, h2, h3, h4, h5⟩ := h.row i (by omega)
      refine ⟨m, World.rangeAt_setCells_apart (World.rangeAt_alloc h1 _) _ _ _ (.inr (.inl ?_)), ?_, h3, h4, h5⟩
      · show i * 14 + 14 ≤ r * 14
        omega
      · exact (h2.kept (World.grownBy_alloc wc _ none) (by simp)).kept (grown_setCells _ _ _) (fun e => h4 (Option.some.inj e))
end Go.Proofs.YtahdlejgjcjeoaaGreatDoor

namespace Go.Proofs.YtahdlejgjcjeoaaGreatDoor
open Go.RowKit

structure Holds2 (M : Sl → Option Gr) (l : List At) : Prop where
  only : ∀ s g, M s = some g → ∃ a ∈ l, slot a = s ∧ grade a = g
  top : ∀ a ∈ l, ∃ g, M (slot a) = some g ∧ gcmp (grade a) g ≤ 0

theorem holds_none : Holds2 (fun _ => none) [] := ⟨fun s g h => (by cases h), fun a h => (by cases h)⟩
theorem Holds2.add {M : Sl → Option Gr} {l : List At} (h : Holds2 M l) (a : At) : Holds2 (addA M a) (l ++ [a]) where
  only s g hs := by
    unfold addA upd at hs
    split at hs
    · rename_i he
      obtain rfl := (scmp_zero _ _).1 he
      cases hs
      split
      · exact ⟨a, by simp, rfl, rfl⟩
      · rename_i g0 hM
        split
        · exact ⟨a, by simp, rfl, rfl⟩
        · obtain ⟨b, hb, h1, h2⟩ := h.only _ _ hM
          exact ⟨b, by simp [hb], h1, h2⟩
    · obtain ⟨b, hb, h1, h2⟩ := h.only _ _ hs
      exact ⟨b, by simp [hb], h1, h2⟩
  top b hb := by
    rw [List.mem_append, List.mem_singleton] at hb
    unfold addA upd
    by_cases he : slot b = slot a
    · rw [if_pos ((scmp_zero _ _).2 he)]
      refine ⟨_, rfl, ?_⟩
      rcases hb with hb | rfl
      · obtain ⟨g, hg, hle⟩ := h.top b hb
        rw [he] at hg
        rw [hg]
        dsimp only
        split
        · rename_i hlt; exact gcmp_tp.trans _ _ _ hle (by omega)
        · exact hle
      · split
        · rw [gcmp_tp.refl]; omega
        · rename_i g0 _
          split
          · rw [gcmp_tp.refl]; omega
          · have := gcmp_tp.anti (grade b) g0; omega
    · rw [if_neg (fun e => he ((scmp_zero _ _).1 e))]
      rcases hb with hb | rfl
      · exact h.top b hb
      · exact absurd rfl he
theorem addTo_append (M : Sl → Option Gr) (l r : List At) : addTo M (l ++ r) = addTo (addTo M l) r := by simp [addTo]
theorem Holds2.addTo {M : Sl → Option Gr} {l : List At} (h : Holds2 M l) : ∀ r : List At, Holds2 (addTo M r) (l ++ r) := by
  intro r
  induction r generalizing M l with
  | nil => simpa [Go.Proofs.YtahdlejgjcjeoaaGreatDoor.addTo] using h
  | cons a r ih =>
    have := ih (h.add a)
    rw [List.append_assoc] at this
    exact this
theorem holds_list (l : List At) : Holds2 (addTo (fun _ => none) l) l := by simpa using holds_none.addTo l

theorem Holds2.mayMap {M : Sl → Option Gr} {l : List At} (h : Holds2 M l) (hl : ∀ a ∈ l, mayB a = true) : MayMap M := by
  intro s g hs
  obtain ⟨a, ha, h1, h2⟩ := h.only s g hs
  exact ⟨a, hl a ha, h1, h2⟩

theorem Holds2.told {M : Sl → Option Gr} {l out : List At} (h : Holds2 M l) (hl : ∀ a ∈ l, mayB a = true) (ht : TellOf M out) : IsTold l out where
  sorted := ht.sorted
  great x hx := by
    obtain ⟨hmx, hMx⟩ := (ht.mem x).1 hx
    obtain ⟨a, ha, h1, h2⟩ := h.only _ _ hMx
    have hax : a = x := by rw [← unite_eq a (hl a ha), ← unite_eq x hmx, h1, h2]
    refine ⟨hax ▸ ha, fun y hy hp => ?_⟩
    obtain ⟨g, hg, hle⟩ := h.top y hy
    rw [plc_slot hp, hMx] at hg
    rw [grd_eq y x (plc_ty hp), Option.some.inj hg]
    exact hle
  all y hy := by
    obtain ⟨g, hg, _⟩ := h.top y hy
    obtain ⟨a, ha, h1, h2⟩ := h.only _ _ hg
    refine ⟨a, (ht.mem a).2 ⟨hl a ha, by rw [h1, h2]; exact hg⟩, ?_⟩
    rw [plc_eq, scmp_zero, h1]

end Go.Proofs.YtahdlejgjcjeoaaGreatDoor

namespace Go.Proofs.YtahdlejgjcjeoaaGreatDoor
open Go.RowKit

end Go.Proofs.YtahdlejgjcjeoaaGreatDoor

namespace Go.Proofs.YtahdlejgjcjeoaaGreatDoor
open Go.RowKit Go.Maps

def delM (M : Sl → Option Gr) (s : Sl) : Sl → Option Gr := fun t => if scmp t s = 0 then none else M t

section
variable (w : World) {ops : Array Oper} {rest : List Oper} {o : Oper} {a : Act} {Q : Exit → Act → World → Prop}
end

theorem grown_past {a b c : World} {p q : Nat} (h : a.grownBy b (some p)) (k : b.grownBy c (some q)) (hq : a.heap.size ≤ q) : a.grownBy c (some p) :=
  ⟨k.os.trans h.os, k.tape.trans h.tape, k.output.trans h.output, Nat.le_trans h.size k.size, fun i hi hne => (k.block i (Nat.lt_of_lt_of_le hi h.size) (fun e => by cases e; omega)).trans (h.block i hi hne)⟩

theorem StMap.alloc {w : World} {b n : Nat} {M : Sl → Option Gr} (h : StMap w b n M) (o : Obj) : StMap (w.alloc o) b n M := h.kept (World.grownBy_alloc _ _ none) (by simp)
theorem grown_alloc {a b : World} {row : Option Nat} (h : a.grownBy b row) (o : Obj) : a.grownBy (b.alloc o) row := grown_trans h (World.grownBy_alloc _ _ row)

end Go.Proofs.YtahdlejgjcjeoaaGreatDoor

namespace Go.Proofs.YtahdlejgjcjeoaaGreatDoor
open Go.RowKit Go.Maps

def narrowM (M : Sl → Option Gr) (kind : Int) (key : ByteArray) : Sl → Option Gr := fun s => if s.ty = kind ∧ s.key = key then M s else none

/-- The data of a state's map. -/
def StD (D : DataW Unit) (M : Sl → Option Gr) : Prop :=
  (∀ t : Sl, t.ok → M t = none → Maps.has D t.lit = false) ∧ (∀ t g, M t = some g → t.ok ∧ Maps.has D t.lit = true ∧ ∀ z, D.atKey t.lit z = g.dat)

theorem StD.del {D : DataW Unit} {M : Sl → Option Gr} {s : Sl} (h : StD D M) (hs : s.ok) : StD (D.del s.lit) (delM M s) := by
  obtain ⟨h2, h3⟩ := h
  refine ⟨fun t ht hn => ?_, fun t g' hg' => ?_⟩
  · unfold delM at hn
    by_cases he : scmp t s = 0
    · obtain rfl := (scmp_zero t s).1 he
      exact Maps.has_del_same
    · rw [if_neg he] at hn
      have hl : t.lit ≠ s.lit := fun e => he ((scmp_zero t s).2 (Sl.lit_inj ht hs e))
      rw [Maps.has_del_other hl]
      exact h2 t ht hn
  · unfold delM at hg'
    split at hg'
    · cases hg'
    · rename_i hne
      obtain ⟨ht, hh, ha⟩ := h3 t g' hg'
      have hl : t.lit ≠ s.lit := fun e => hne ((scmp_zero t s).2 (Sl.lit_inj ht hs e))
      exact ⟨ht, by rw [Maps.has_del_other hl]; exact hh, fun z => by rw [Maps.atKey_del_other hl]; exact ha z⟩

/-- While the keys 'left' are still to come. -/
def Narrowed (M N : Sl → Option Gr) (kind : Int) (key : ByteArray) (left : Lit → Bool) : Prop := ∀ s, N s = if left s.lit then M s else narrowM M kind key s

theorem Narrowed.done {M N : Sl → Option Gr} {kind : Int} {key : ByteArray} {left : Lit → Bool} (h : Narrowed M N kind key left) (hl : ∀ kl, left kl = false) : N = narrowM M kind key := by
  funext s
  rw [h s, hl, if_neg (by simp)]
theorem Narrowed.start {M : Sl → Option Gr} {kind : Int} {key : ByteArray} {left : Lit → Bool} (h : ∀ s g, M s = some g → left s.lit = true) : Narrowed M M kind key left := by
  intro s
  split
  · rfl
  · rename_i hl
    unfold narrowM
    cases hM : M s with
    | some g => exact absurd (h s g hM) hl
    | none => simp
theorem Narrowed.step {M N N' : Sl → Option Gr} {kind : Int} {key : ByteArray} {left : Lit → Bool} (h : Narrowed M N kind key left) {x : Sl} (hx : x.ok) (hok : ∀ s g, M s = some g → s.ok)
    (h1 : N' x = narrowM M kind key x) (h2 : ∀ s, s ≠ x → N' s = N s) : Narrowed M N' kind key (fun z => left z && !z.sameKey x.lit) := by
  intro s
  by_cases e : s = x
  · subst e
    simp [lit_same, h1]
  · rw [h2 s e, h s]
    by_cases el : s.lit = x.lit
    · have hn : M s = none := by
        cases hM : M s with
        | none => rfl
        | some g => exact absurd (Sl.lit_inj (hok s g hM) hx el) e
      have ht : narrowM M kind key s = none := by unfold narrowM; rw [hn]; simp
      rw [hn, ht]
      simp
    · simp [Maps.sameKey_ne el]

theorem str_ne2 {a b : ByteArray} (h : ¬ a = b) : (a.toList == b.toList) = false := by
  rw [beq_eq_false_iff_ne, Go.Lib.toList_data, Go.Lib.toList_data]
  exact fun e => h (ByteArray.ext (Array.toList_inj.1 e))

set_option maxRecDepth 100000 in
set_option maxHeartbeats 2000000 in
theorem narrow_any (b n : Nat) (M : Sl → Option Gr) (kind : Int) (key : ByteArray) (w : World) (hm : StMap w b n M) :
    Calls Tryz.prog 141 #[.map (some b), .int .i64 kind, .string key] w fun e w' => e = .returned (.tuple #[]) ∧ Hid (StMap w' b n (narrowM M kind key)) ∧ w.grownBy w' (some b) := by
  obtain ⟨D, hown, h2, h3⟩ := hm
  have HSD : Hid (StD D M) := ⟨h2, h3⟩
  have HOK : Hid (∀ s g, M s = some g → s.ok) := fun s g h => (h3 s g h).1
  clear h2 h3
  have hlb := hown.lt
  go_enter Tryz.func141, Tryz.ntmps141
  go_wp2_with (at_range; refine wpList_range_own _ rfl _ 122 rfl 172 174 slotKeyed Tryz.underlying122 grElem b n D rfl hown ?_; intro w0 hrg0 hg0 hs0)
  go_frame
  have hg0' : w.grownBy w0 (some b) := ⟨hg0.os, hg0.tape, hg0.output, hg0.size, fun i hi _ => hg0.block i hi (by simp)⟩
  go_loopw [6] (fun _ wr => ∃ (left : Lit → Bool) (cnt : Nat) (N : Sl → Option Gr) (E : DataW Unit), wr.ranges Tryz.prog 172 grElem b w.heap.size n E left cnt ∧ Hid (StD E N) ∧ Hid (Narrowed M N kind key left) ∧ w.grownBy wr (some b)) (fun _ wr => wr.rangeLeft b w.heap.size)
  case atStart => exact ⟨_, _, M, D, hrg0, HSD, Narrowed.start (fun s g h => (HSD.out.2 s g h).2.1), hg0'⟩
  case round =>
    obtain ⟨left, cnt, N, E, hrg, hsd, hna, hgw⟩ := hrel
    go_wp2_with (at_next; refine wpList_next_ranges _ rfl _ rfl 172 slotKeyed grElem (fun s : Sl => .agg #[.int .i64 s.ty, .string s.key, .int .i64 s.side, .int .i64 s.who, .string s.elem]) (fun g : Gr => .agg #[.int .i64 g.n, .int .i64 g.who, .string g.elem]) slot_key_inv (fun v y hv => by obtain ⟨g, rfl, _⟩ := grElem_inv hv; exact ⟨g, rfl⟩) b w.heap.size n E left cnt rfl hrg ?_ ?_)
    · intro _ hl0
      have HST : Hid (StMap wr b n (narrowM M kind key)) := by rw [← hna.out.done hl0]; exact ⟨E, hrg.owns, hsd.out.1, hsd.out.2⟩
      clear hl0 hna hsd hrg
      go_wp2
      go_end0
      exact ⟨rfl, HST, hgw⟩
    · intro x g kl yd yp w2 cnt2 hkey hlk hv hat hrg2 hlt hg2 hs2 hen
      obtain ⟨hxok, rfl⟩ := slot_ok_of_key x kl hkey
      have hNx : N x = M x := by rw [hna.out x, hlk, if_pos rfl]
      have HSTEP : Hid (∀ N', N' x = narrowM M kind key x → (∀ s, s ≠ x → N' s = N s) → Narrowed M N' kind key (fun z => left z && !z.sameKey x.lit)) := fun N' h1 h2 => hna.out.step hxok HOK.out h1 h2
      have hsz2 : wr.heap.size ≤ w2.heap.size := by omega
      have HL : Hid (wr.rangeLeft b w.heap.size = cnt) := hrg.left_eq
      have hgw2 : w.grownBy w2 (some b) := grown_past hgw hg2 (Nat.le_refl _)
      have hrl := hrg2.lt
      clear hat hv hs2 hlk hg2 hrg hna hgw
      by_cases hkeep : x.ty = kind ∧ x.key = key
      · have HT : Hid (Narrowed M N kind key (fun z => left z && !z.sameKey x.lit)) := HSTEP.out N (by rw [hNx]; unfold narrowM; rw [if_pos hkeep]) (fun _ _ => rfl)
        obtain ⟨rfl, rfl⟩ := hkeep
        clear HSTEP hNx hkey
        generalize x.lit = kl at *
        go_wp2
        have hrg3 := hrg2.alloc (.cells #[.int .i64 x.ty, .string x.key, .int .i64 x.side, .int .i64 x.who, .string x.elem] 172)
        refine ⟨⟨_, cnt2, N, E, hrg3, hsd, HT, grown_alloc hgw2 _⟩, ?_⟩
        rw [hrg3.left_eq, HL.out]
        exact hlt
      · have HT : Hid (Narrowed M (delM N x) kind key (fun z => left z && !z.sameKey x.lit)) := HSTEP.out (delM N x) (by unfold delM narrowM; rw [if_pos ((scmp_zero x x).2 rfl), if_neg hkeep]) (fun s hs => by unfold delM; rw [if_neg (fun e => hs ((scmp_zero s x).1 e))])
        have HSD2 : Hid (StD (E.del x.lit) (delM N x)) := hsd.out.del hxok
        clear HSTEP hNx
        by_cases hty : x.ty = kind
        · have hke : ¬ x.key = key := fun e => hkeep ⟨hty, e⟩
          have hke2 := str_ne2 hke
          subst hty
          go_wp2_with (at_delete; refine wpList_delete_ranges _ rfl _ _ 122 172 rfl 174 slotKeyed Tryz.underlying122 grElem b w.heap.size n E _ cnt2 rfl (hrg2.alloc _) x.val x.lit rfl (keyOf_slot x hxok) ?_; intro w3 cnt3 hrg3 hle3 hmt3)
          have e3 : (fun z : Lit => (left z && !z.sameKey x.lit) && !z.sameKey x.lit) = fun z => left z && !z.sameKey x.lit := by
            funext z
            cases left z <;> cases z.sameKey x.lit <;> rfl
          rw [e3] at hrg3
          have hfin : w.grownBy w3 (some b) := grown_trans (grown_alloc hgw2 _) hmt3.grown
          clear hkey hrg2
          generalize x.lit = kl at *
          go_wp2
          refine ⟨⟨_, cnt3, delM N x, _, hrg3, HSD2, HT, hfin⟩, ?_⟩
          rw [hrg3.left_eq, HL.out]
          omega
        · go_wp2_with (at_delete; refine wpList_delete_ranges _ rfl _ _ 122 172 rfl 174 slotKeyed Tryz.underlying122 grElem b w.heap.size n E _ cnt2 rfl (hrg2.alloc _) x.val x.lit rfl (keyOf_slot x hxok) ?_; intro w3 cnt3 hrg3 hle3 hmt3)
          have e3 : (fun z : Lit => (left z && !z.sameKey x.lit) && !z.sameKey x.lit) = fun z => left z && !z.sameKey x.lit := by
            funext z
            cases left z <;> cases z.sameKey x.lit <;> rfl
          rw [e3] at hrg3
          have hfin : w.grownBy w3 (some b) := grown_trans (grown_alloc hgw2 _) hmt3.grown
          clear hkey hrg2
          generalize x.lit = kl at *
          go_wp2
          refine ⟨⟨_, _, _, _, _, _, _, _, _, _, _, _, _, _, _, _, _, ⟨_, cnt3, delM N x, _, hrg3, HSD2, HT, hfin⟩, rfl⟩, ?_⟩
          rw [hrg3.left_eq, HL.out]
          omega
end Go.Proofs.YtahdlejgjcjeoaaGreatDoor

namespace Go.Proofs.YtahdlejgjcjeoaaGreatDoor
open Go.RowKit Go.Maps

/-- What an atom counts. -/
def sv (a : At) : Int := if (slot a).side = 0 then (grade a).n else - (grade a).n
def svs (l : List At) : Int := (l.map sv).sum
theorem svs_snoc (l : List At) (a : At) : svs (l ++ [a]) = svs l + sv a := by simp [svs]
theorem grade_n (a : At) : (grade a).n = a.n := by unfold grade; split <;> rfl
theorem sv_bound {a : At} (h : mayB a = true) : -2147483648 ≤ sv a ∧ sv a ≤ 2147483648 := by
  have : 0 ≤ a.n ∧ a.n ≤ 2147483647 := by
    simp only [mayB, decide_eq_true_eq] at h
    omega
  unfold sv
  rw [grade_n]
  split <;> omega
theorem svs_bound : ∀ {l : List At}, (∀ a ∈ l, mayB a = true) → -2147483648 * (l.length : Int) ≤ svs l ∧ svs l ≤ 2147483648 * (l.length : Int)
  | [], _ => by simp [svs]
  | a :: l, h => by
    have h1 := svs_bound (l := l) (fun x hx => h x (by simp [hx]))
    have h2 := sv_bound (h a (by simp))
    have e : svs (a :: l) = sv a + svs l := by simp [svs]
    rw [e, List.length_cons]
    push_cast
    omega

set_option maxRecDepth 100000 in
set_option maxHeartbeats 2000000 in
theorem total_any (b n : Nat) (M : Sl → Option Gr) (w : World) (hm : StMap w b n M) (hmm : MayMap M) (hn : n ≤ 8388608) :
    Calls Tryz.prog 142 #[.map (some b)] w fun e w' => ∃ C, e = .returned (.int .i64 (svs C)) ∧ Hid (Coll M (fun _ => false) C) ∧ Below w.heap.size w w' := by
  obtain ⟨D, hown, h2, h3⟩ := hm
  have HMM : Hid (MayMap M) := hmm
  have H2 : Hid (∀ s : Sl, s.ok → M s = none → Maps.has D s.lit = false) := h2
  have H3 : Hid (∀ s g, M s = some g → s.ok ∧ Maps.has D s.lit = true ∧ ∀ z, D.atKey s.lit z = g.dat) := h3
  have hsz := hown.size_le
  clear hmm h2 h3
  have hbw := hown.lt
  go_enter Tryz.func142, Tryz.ntmps142
  go_wp2_with (at_range; refine wpList_range_own _ rfl _ 122 rfl 172 174 slotKeyed Tryz.underlying122 grElem b n D rfl hown ?_; intro w0 hrg0 hg0 hs0)
  go_frame
  have hb0 : Below w.heap.size w w0 := (Below.refl _ w).grown hg0 (Nat.le_refl _) (fun k hk => by cases hk)
  go_loopw [3] (fun v wr => ∃ (left : Lit → Bool) (cnt : Nat) (C : List At), wr.ranges Tryz.prog 172 grElem b w.heap.size n D left cnt ∧ v = .int .i64 (svs C) ∧ Hid (Coll M left C) ∧ C.length + cnt ≤ n ∧ Below w.heap.size w wr) (fun _ wr => wr.rangeLeft b w.heap.size)
  case atStart =>
    refine ⟨Maps.has D, Maps.size D, [], hrg0, rfl, ⟨.nil, fun a => ?_⟩, by simpa using hsz, hb0⟩
    constructor
    · intro h; cases h
    · rintro ⟨h1, h2⟩
      have := (H3.out _ _ h1.2).2.1
      rw [this] at h2; cases h2
  case round =>
    obtain ⟨left, cnt, C, hrg, rfl, hC, hcnt, hbr⟩ := hrel
    go_wp2_with (at_next; refine wpList_next_ranges _ rfl _ rfl 172 slotKeyed grElem (fun s : Sl => .agg #[.int .i64 s.ty, .string s.key, .int .i64 s.side, .int .i64 s.who, .string s.elem]) (fun g : Gr => .agg #[.int .i64 g.n, .int .i64 g.who, .string g.elem]) slot_key_inv (fun v y hv => by obtain ⟨g, rfl, _⟩ := grElem_inv hv; exact ⟨g, rfl⟩) b w.heap.size n D left cnt rfl hrg ?_ ?_)
    · intro _ hl0
      have HC0 : Hid (Coll M (fun _ => false) C) := by
        have e : left = fun _ => false := funext hl0
        rw [e] at hC
        exact hC
      clear hl0 hC hrg
      go_wp2
      go_ret
      exact ⟨C, rfl, HC0, hbr⟩
    · intro x c kl yd yp w2 cnt2 hkey hlk hv hat hrg2 hlt hg2 hs2 hen
      obtain ⟨hxok, rfl⟩ := slot_ok_of_key x kl hkey
      have hMx : M x = some c := by
        obtain ⟨g', hg', hz'⟩ := grElem_inv hv
        cases hM : M x with
        | none =>
          have hh := H2.out x hxok hM
          rw [Maps.has_true_of_atKey hat] at hh
          cases hh
        | some g0 =>
          have := (H3.out x g0 hM).2.2 .nil
          rw [hat] at this
          have hcc : grElem c.val = some (c.dat, []) := grElem_mk c
          have hv' : grElem c.val = some (yd, yp) := hv
          rw [hcc] at hv'
          simp only [Option.some.injEq, Prod.mk.injEq] at hv'
          rw [Gr.dat_inj (hv'.1.trans this)]
      obtain ⟨a, ha, rfl, rfl⟩ := HMM.out x c hMx
      have HC2 : Hid (Coll M (fun z => left z && !z.sameKey (slot a).lit) (C ++ [a])) := hC.out.step ⟨ha, hMx⟩ hlk (fun s g h => (H3.out s g h).1)
      have hbC := svs_bound (l := C) (fun z hz => ((hC.out.mem z).1 hz).1.1)
      have hba := sv_bound ha
      have HSN : Hid (svs (C ++ [a]) = svs C + sv a) := svs_snoc C a
      have hsz2 : wr.heap.size ≤ w2.heap.size := by omega
      clear hkey hat hv hMx hs2 hxok hlk
      have hbr2 : Below w.heap.size w w2 := hbr.grown hg2 hbr.size (fun k hk => by cases hk; exact Nat.le_refl _)
      have HL : Hid (wr.rangeLeft b w.heap.size = cnt) := hrg.left_eq
      clear hg2 hrg ha
      generalize (slot a).lit = kl at *
      by_cases hsd : (slot a).side = 0
      · have hsv : sv a = (grade a).n := by unfold sv; rw [if_pos hsd]
        rw [hsv] at hba
        generalize slot a = x at *
        generalize grade a = c at *
        go_wp2
        refine ⟨⟨_, cnt2, C ++ [a], (hrg2.alloc _).alloc _, by rw [HSN.out, hsv], HC2, by simp; omega, below_alloc (below_alloc hbr2 _) _⟩, ?_⟩
        rw [((hrg2.alloc _).alloc _).left_eq, HL.out]
        exact hlt
      · have hsv : sv a = - (grade a).n := by unfold sv; rw [if_neg hsd]
        rw [hsv] at hba
        generalize slot a = x at *
        generalize grade a = c at *
        go_wp2
        refine ⟨⟨_, cnt2, C ++ [a], (hrg2.alloc _).alloc _, by rw [HSN.out, hsv]; rfl, HC2, by simp; omega, below_alloc (below_alloc hbr2 _) _⟩, ?_⟩
        rw [((hrg2.alloc _).alloc _).left_eq, HL.out]
        exact hlt
end Go.Proofs.YtahdlejgjcjeoaaGreatDoor

namespace Go.Proofs.YtahdlejgjcjeoaaGreatDoor
open Go.RowKit Go.Maps

def Sl.one (s : Sl) : Sl := ⟨s.ty, s.key, 1, s.who, s.elem⟩
theorem Sl.one_ok {s : Sl} (h : s.ok) : s.one.ok := ⟨h.1, h.2.1, (by decide : (Lit.int .i64 1).wf = true), h.2.2.2.1, h.2.2.2.2⟩

set_option maxRecDepth 100000 in
set_option maxHeartbeats 1000000 in
theorem isRemoved_any (b n : Nat) (M : Sl → Option Gr) (s : Sl) (w : World) (hm : StMap w b n M) (hs : s.ok) :
    Calls Tryz.prog 181 #[.map (some b), .agg #[.int .i64 s.ty, .string s.key, .int .i64 s.side, .int .i64 s.who, .string s.elem]] w fun e w' => e = .returned (.bool (M s.one).isSome) ∧ Below w.heap.size w w' := by
  have h1 := Sl.one_ok hs
  go_enter Tryz.func181, Tryz.ntmps181
  go_wp2_with (at_lookup; refine wpList_st_look_exp _ rfl _ _ 122 rfl Tryz.underlying122 b n M rfl (hm.alloc _) s.one h1 rfl (got M s.one) (M s.one).isSome rfl rfl ?_)
  go_ret
  exact ⟨rfl, below_alloc (below_alloc (Below.refl _ _) _) _⟩

/-- Kept by elems. -/
def kept (M : Sl → Option Gr) (a : At) : Bool := decide ((slot a).side = 0) && (M (slot a).one).isNone
def elemsOf (M : Sl → Option Gr) (C : List At) : List ByteArray := (C.filter (kept M)).map fun a => (slot a).elem
theorem elemsOf_snoc (M : Sl → Option Gr) (C : List At) (a : At) : elemsOf M (C ++ [a]) = if kept M a then elemsOf M C ++ [(slot a).elem] else elemsOf M C := by
  unfold elemsOf
  rw [List.filter_append]
  by_cases h : kept M a <;> simp [h]
theorem elemsOf_length (M : Sl → Option Gr) (C : List At) : (elemsOf M C).length ≤ C.length := by
  unfold elemsOf
  rw [List.length_map]
  exact List.length_filter_le _ _
theorem infoText : (Tryz.prog.info? 9).map (fun i => (i.zero, i.size, i.bytes)) = some (some (.string ⟨#[]⟩), 1, 16) := by kernel_rfl
end Go.Proofs.YtahdlejgjcjeoaaGreatDoor

namespace Go.Proofs.YtahdlejgjcjeoaaGreatDoor
open Go.RowKit

theorem told_inM {M : Sl → Option Gr} {l T : List At} (h : Holds2 M l) (hl : ∀ a ∈ l, mayB a = true) (hT : IsTold l T) : ∀ a, a ∈ T ↔ InM M a := by
  have fwd : ∀ a, a ∈ T → InM M a := by
    intro a ha
    obtain ⟨hal, hg⟩ := hT.great a ha
    obtain ⟨g, hMg, hle⟩ := h.top a hal
    obtain ⟨a', ha', h1, h2⟩ := h.only _ _ hMg
    have hp : plc a' a = 0 := by rw [plc_eq, scmp_zero, h1]
    have h3 := hg a' ha' hp
    rw [grd_eq a' a (plc_ty hp), h2] at h3
    have h4 := gcmp_tp.anti (grade a) g
    have : g = grade a := (gcmp_zero _ _).1 (by omega)
    exact ⟨hl a hal, by rw [hMg, this]⟩
  intro a
  refine ⟨fwd a, fun ⟨hm, hM⟩ => ?_⟩
  obtain ⟨a', ha', h1, h2⟩ := h.only _ _ hM
  have haa : a' = a := by rw [← unite_eq a' (hl a' ha'), ← unite_eq a hm, h1, h2]
  subst haa
  obtain ⟨x, hx, hp⟩ := hT.all a' ha'
  obtain ⟨hxm, hxM⟩ := fwd x hx
  have hs := plc_slot hp
  rw [← hs, hM] at hxM
  have : x = a' := by rw [← unite_eq x hxm, ← unite_eq a' hm, hs, Option.some.inj hxM]
  exact this ▸ hx

/-- The atoms of a type and key. -/
def ofKey (T : List At) (kind : Int) (key : ByteArray) : List At := T.filter fun a => decide (a.ty = kind ∧ a.key = key)
theorem slot_key (a : At) : (slot a).key = a.key := by unfold slot; split <;> rfl
theorem narrow_inM (M : Sl → Option Gr) (kind : Int) (key : ByteArray) (a : At) : InM (narrowM M kind key) a ↔ InM M a ∧ a.ty = kind ∧ a.key = key := by
  unfold InM narrowM
  rw [slot_ty, slot_key]
  by_cases h : a.ty = kind ∧ a.key = key
  · rw [if_pos h]; simp [h]
  · rw [if_neg h]; simp [h]
theorem ne_nodup {C : List At} (h : C.Pairwise (fun x y => plc x y ≠ 0)) : C.Nodup := List.Pairwise.imp (fun {x y} hne => fun e : x = y => by subst e; exact hne (plc_tp.refl x)) h
theorem ofKey_sorted {T : List At} (h : T.Pairwise (fun x y => plc x y < 0)) (kind : Int) (key : ByteArray) : (ofKey T kind key).Pairwise (fun x y => plc x y < 0) := h.filter _
theorem coll_perm {M : Sl → Option Gr} {l T C : List At} {kind : Int} {key : ByteArray} (h : Holds2 M l) (hl : ∀ a ∈ l, mayB a = true) (hT : IsTold l T) (hC : Coll (narrowM M kind key) (fun _ => false) C) : C.Perm (ofKey T kind key) := by
  refine (List.perm_ext_iff_of_nodup (ne_nodup hC.apart) (ne_nodup ((ofKey_sorted hT.sorted kind key).imp fun {x y} h => by omega))).2 fun a => ?_
  rw [hC.mem a, narrow_inM]
  unfold ofKey
  rw [List.mem_filter, told_inM h hl hT a]
  simp
theorem svs_perm {a b : List At} (h : a.Perm b) : svs a = svs b := by
  induction h with
  | nil => rfl
  | cons x _ ih => simp only [svs, List.map_cons, List.sum_cons] at *; rw [ih]
  | swap x y l => simp only [svs, List.map_cons, List.sum_cons]; omega
  | trans _ _ h1 h2 => rw [h1, h2]
theorem elemsOf_perm {M : Sl → Option Gr} {a b : List At} (h : a.Perm b) : (elemsOf M a).Perm (elemsOf M b) := (h.filter _).map _
theorem texts_ext {a b : List ByteArray} (h : a.Perm b) (ha : a.Pairwise (fun x y => ordS x y ≤ 0)) (hb : b.Pairwise (fun x y => ordS x y ≤ 0)) : a = b :=
  List.Perm.eq_of_pairwise (le := fun x y => ordS x y ≤ 0) (fun x y _ _ h1 h2 => (ordS_zero x y).1 (by have := ordS_tp.anti x y; omega)) ha hb h

/-- P7, as the document tells it: what is counted; the elements. -/
def isGone (T : List At) (key e : ByteArray) : Bool := T.any fun y => decide (y.ty = 4 ∧ y.key = key ∧ y.side = 1 ∧ y.elem = e)
def valN (kind : Int) (key : ByteArray) (L : List At) : Int :=
  if kind = 1 ∨ kind = 2 then ((ofKey L kind key).map fun a => a.n * (1 - 2 * a.side)).sum
  else if kind = 5 then ((ofKey L kind key).getLast?.map (·.n)).getD 0 else 0
def keepsE (T : List At) (kind : Int) (key : ByteArray) (a : At) : Bool := decide (kind = 3) || decide (kind = 5) || (decide (kind = 4) && decide (a.side ≠ 1) && !isGone T key a.elem)
def valE (T : List At) (kind : Int) (key : ByteArray) (L : List At) : List ByteArray := ((ofKey L kind key).filter (keepsE T kind key)).map (·.elem)
theorem ofKey_snoc (L : List At) (a : At) (kind : Int) (key : ByteArray) : ofKey (L ++ [a]) kind key = if a.ty = kind ∧ a.key = key then ofKey L kind key ++ [a] else ofKey L kind key := by
  unfold ofKey
  rw [List.filter_append]
  by_cases h : a.ty = kind ∧ a.key = key <;> simp [h]
theorem valE_snoc (T L : List At) (a : At) (kind : Int) (key : ByteArray) : valE T kind key (L ++ [a]) = if (a.ty = kind ∧ a.key = key) ∧ keepsE T kind key a = true then valE T kind key L ++ [a.elem] else valE T kind key L := by
  unfold valE
  rw [ofKey_snoc]
  by_cases h : a.ty = kind ∧ a.key = key
  · by_cases k : keepsE T kind key a = true <;> simp [h, k]
  · simp [h]
theorem valE_length (T L : List At) (kind : Int) (key : ByteArray) : (valE T kind key L).length ≤ L.length := by
  unfold valE ofKey
  rw [List.length_map]
  exact Nat.le_trans (List.length_filter_le _ _) (List.length_filter_le _ _)
theorem valN_skip (L : List At) (a : At) (kind : Int) (key : ByteArray) (h : ¬ (a.ty = kind ∧ a.key = key)) : valN kind key (L ++ [a]) = valN kind key L := by
  unfold valN
  rw [ofKey_snoc, if_neg h]
theorem valN_sum (L : List At) (a : At) (kind : Int) (key : ByteArray) (h : a.ty = kind ∧ a.key = key) (hk : kind = 1 ∨ kind = 2) : valN kind key (L ++ [a]) = valN kind key L + a.n * (1 - 2 * a.side) := by
  unfold valN
  rw [ofKey_snoc, if_pos h, if_pos hk, if_pos hk]
  simp
theorem valN_last (L : List At) (a : At) (key : ByteArray) (h : a.ty = 5 ∧ a.key = key) : valN 5 key (L ++ [a]) = a.n := by
  unfold valN
  rw [ofKey_snoc, if_pos h, if_neg (by omega), if_pos rfl]
  simp
theorem valN_set (L : List At) (kind : Int) (key : ByteArray) (hk : kind = 3 ∨ kind = 4) : valN kind key L = 0 := by
  unfold valN
  rw [if_neg (by omega), if_neg (by omega)]

theorem mem_ofKey {T : List At} {kind : Int} {key : ByteArray} {a : At} : a ∈ ofKey T kind key ↔ a ∈ T ∧ a.ty = kind ∧ a.key = key := by
  unfold ofKey
  rw [List.mem_filter]
  simp
theorem sv_may {a : At} (h : mayB a = true) (ht : a.ty = 1 ∨ a.ty = 2) : sv a = a.n * (1 - 2 * a.side) := by
  unfold sv
  rw [grade_n]
  have hs : (slot a).side = a.side := by unfold slot; rw [if_neg (by omega)]
  have h2 : a.side = 0 ∨ a.side = 1 := by
    simp only [mayB, decide_eq_true_eq] at h
    omega
  rw [hs]
  rcases h2 with h2 | h2 <;> rw [h2] <;> simp
/-- A counter's value. -/
theorem total_val {T : List At} {kind : Int} {key : ByteArray} (hT : ∀ a ∈ T, mayB a = true) (hk : kind = 1 ∨ kind = 2) : svs (ofKey T kind key) = valN kind key T ∧ valE T kind key T = [] := by
  constructor
  · unfold valN svs
    rw [if_pos hk]
    congr 1
    refine List.map_congr_left fun a ha => ?_
    obtain ⟨h1, h2, _⟩ := mem_ofKey.1 ha
    exact sv_may (hT a h1) (by omega)
  · unfold valE
    rw [List.map_eq_nil_iff, List.filter_eq_nil_iff]
    intro a _
    unfold keepsE
    have h1 : ¬ kind = 3 := by omega
    have h2 : ¬ kind = 5 := by omega
    have h3 : ¬ kind = 4 := by omega
    simp [h1, h2, h3]
/-- A set's elements. -/
theorem elems_val {M : Sl → Option Gr} {l T : List At} {kind : Int} {key : ByteArray} (h : Holds2 M l) (hl : ∀ a ∈ l, mayB a = true) (hT : IsTold l T) (hk : kind = 3 ∨ kind = 4) : elemsOf (narrowM M kind key) (ofKey T kind key) = valE T kind key T ∧ (valE T kind key T).Pairwise (fun x y => ordS x y ≤ 0) := by
  have hmt : ∀ a ∈ T, mayB a = true := fun a ha => hl a (hT.great a ha).1
  have hin := told_inM h hl hT
  have hsl : ∀ a ∈ ofKey T kind key, slot a = ⟨kind, key, a.side, 0, a.elem⟩ ∧ a.ty = kind ∧ a.key = key ∧ (a.side = 0 ∨ a.side = 1) ∧ (kind = 3 → a.side = 0) ∧ a.who = 0 := by
    intro a ha
    obtain ⟨h1, h2, h3⟩ := mem_ofKey.1 ha
    have hm := hmt a h1
    have hw : a.who = 0 ∧ (a.side = 0 ∨ a.side = 1) ∧ (kind = 3 → a.side = 0) := by
      simp only [mayB, decide_eq_true_eq] at hm
      omega
    refine ⟨?_, h2, h3, hw.2.1, hw.2.2, hw.1⟩
    unfold slot
    rw [if_neg (by omega), h2, h3, hw.1]
  have hkeep : ∀ a ∈ ofKey T kind key, kept (narrowM M kind key) a = keepsE T kind key a := by
    intro a ha
    obtain ⟨hs, ht, hkey, hside, h3, hw⟩ := hsl a ha
    unfold kept keepsE
    rw [hs]
    have hone : narrowM M kind key (Sl.one ⟨kind, key, a.side, 0, a.elem⟩) = M ⟨kind, key, 1, 0, a.elem⟩ := by unfold narrowM Sl.one; simp
    rw [hone]
    rcases hk with rfl | rfl
    · have hn : M ⟨3, key, 1, 0, a.elem⟩ = none := by
        cases hM : M ⟨3, key, 1, 0, a.elem⟩ with
        | none => rfl
        | some g =>
          obtain ⟨y, hy, e1, e2⟩ := h.only _ _ hM
          have hm := hl y hy
          have ty : y.ty = 3 := by rw [← slot_ty y, e1]
          have sd : y.side = 1 := by
            have : (slot y).side = y.side := by unfold slot; rw [if_neg (by omega)]
            rw [← this, e1]
          simp only [mayB, decide_eq_true_eq] at hm
          omega
      rw [hn, h3 rfl]
      simp
    · have hg : (M ⟨4, key, 1, 0, a.elem⟩).isNone = !isGone T key a.elem := by
        cases hM : M ⟨4, key, 1, 0, a.elem⟩ with
        | none =>
          have : isGone T key a.elem = false := by
            unfold isGone
            rw [List.any_eq_false]
            intro y hy
            simp only [decide_eq_true_eq]
            rintro ⟨y1, y2, y3, y4⟩
            obtain ⟨hym, hyM⟩ := (hin y).1 hy
            have hyw : y.who = 0 := by
              simp only [mayB, decide_eq_true_eq] at hym
              omega
            have : slot y = ⟨4, key, 1, 0, a.elem⟩ := by unfold slot; rw [if_neg (by omega), y1, y2, y3, y4, hyw]
            rw [this, hM] at hyM
            cases hyM
          rw [this]
          rfl
        | some g =>
          have : isGone T key a.elem = true := by
            obtain ⟨y0, hy0, e1, e2⟩ := h.only _ _ hM
            have hyT : y0 ∈ T := (hin y0).2 ⟨hl y0 hy0, by rw [e1, e2]; exact hM⟩
            have ty : y0.ty = 4 := by rw [← slot_ty y0, e1]
            have es : slot y0 = ⟨y0.ty, y0.key, y0.side, y0.who, y0.elem⟩ := by unfold slot; rw [if_neg (by omega)]
            rw [es] at e1
            simp only [Sl.mk.injEq] at e1
            unfold isGone
            rw [List.any_eq_true]
            exact ⟨y0, hyT, by simp [e1.1, e1.2.1, e1.2.2.1, e1.2.2.2.2]⟩
          rw [this]
          rfl
      rw [hg]
      rcases hside with e | e <;> rw [e] <;> simp
  have hE : elemsOf (narrowM M kind key) (ofKey T kind key) = valE T kind key T := by
    unfold elemsOf valE
    rw [List.filter_congr hkeep]
    refine List.map_congr_left fun a ha => ?_
    rw [(hsl a (List.mem_filter.1 ha).1).1]
  refine ⟨hE, ?_⟩
  unfold valE
  rw [List.pairwise_map]
  have hs := (ofKey_sorted hT.sorted kind key).filter (keepsE T kind key)
  refine List.Pairwise.imp_of_mem (fun {x y} hx hy hxy => ?_) hs
  obtain ⟨hx1, hx2⟩ := List.mem_filter.1 hx
  obtain ⟨hy1, hy2⟩ := List.mem_filter.1 hy
  have kx := hkeep x hx1
  have ky := hkeep y hy1
  rw [hx2] at kx
  rw [hy2] at ky
  obtain ⟨sx, _⟩ := hsl x hx1
  obtain ⟨sy, _⟩ := hsl y hy1
  have zx : x.side = 0 := by
    unfold kept at kx
    rw [sx] at kx
    simp at kx
    exact kx.1
  have zy : y.side = 0 := by
    unfold kept at ky
    rw [sy] at ky
    simp at ky
    exact ky.1
  rw [plc_eq, sx, sy, zx, zy] at hxy
  have e0 : ∀ z, ci z z = 0 := fun z => (ci_zero z z).2 rfl
  have z0 : ordS key key = 0 := (ordS_zero key key).2 rfl
  simp only [scmp, e0, z0] at hxy
  simp at hxy
  omega
end Go.Proofs.YtahdlejgjcjeoaaGreatDoor
