/- Values as they lie; what Read gives, in lengths. -/
import Derived.Test.YtahdlejgjcjeoaaGreatDoorP31
import Derived.Test.YtahdlejgjcjeoaaGreatDoorP37
import Derived.Test.YtahdlejgjcjeoaaGreatDoorP30
import Derived.Test.YtahdlejgjcjeoaaGreatDoorP34
import Derived.Test.YtahdlejgjcjeoaaGreatDoorP38
import Derived.Test.YtahdlejgjcjeoaaGreatDoorP39
import Derived.Test.YtahdlejgjcjeoaaGreatDoorP40
import Derived.Test.YtahdlejgjcjeoaaGreatDoorP42
import Derived.Test.YtahdlejgjcjeoaaGreatDoorP01
import Derived.Test.YtahdlejgjcjeoaaGreatDoorP41
namespace Go.Proofs.YtahdlejgjcjeoaaGreatDoor
open Go.RowKit

/-- What stands from made on. -/
structure Fix (w0 : World) (B0 W x y R n B rm : Nat) (bp rr : Bool) (f : Nat → Nat → Bool) (col : Col) (K : RefC) : Prop where
  rules : RulesAt w0
  ref : RefAt w0 col 1 y K (clu0 rm bp rr n f)
  colh : ∀ q, B0 ≤ q → (col q).1 ≠ 1
  pf : PF w0 x R n
  xlt : x < B0
  Rlt : R < B0
  mlt : ∀ i, i < n → ∀ m, w0.cell? ⟨R, i * 14 + 3, none⟩ = some (.map (some m)) → m < B0
  x0 : 0 < x
  b0 : 0 < B0
  r1 : 1 ≤ rm
  r8 : rm ≤ 8
  wb : w0.heap[W]? = some (.cells #[.pointer (some ⟨x, 0, none⟩), .pointer (some ⟨y, 0, none⟩), .pointer (some ⟨B, 0, none⟩)] 48 (0, 0))
  bB : B0 ≤ B
  bW : B ≠ W

/-- The world behind some calls; the book has at most M lists of a kind. -/
structure NSt (w0 w : World) (B0 W B M : Nat) : Prop where
  fr : Fr (fun q => B0 ≤ q ∧ q ≠ W) w0 w
  bk : ∃ va es, Bk w B va es ∧ ∀ f, f < 4 → (es f).length ≤ M
theorem NSt.below {w0 w w' : World} {B0 W B M : Nat} (h : NSt w0 w B0 W B M) (hb : Below w.heap.size w w') : NSt w0 w' B0 W B M := by
  obtain ⟨va, es, h1, h2⟩ := h.bk
  exact ⟨h.fr.below hb, va, es, h1.below hb, h2⟩
theorem NSt.mono {w0 w : World} {B0 W B M M' : Nat} (h : NSt w0 w B0 W B M) (hM : M ≤ M') : NSt w0 w B0 W B M' := by
  obtain ⟨va, es, h1, h2⟩ := h.bk
  exact ⟨h.fr, va, es, h1, fun f hf => Nat.le_trans (h2 f hf) hM⟩

section
variable {w0 w : World} {B0 W x y R n B rm M : Nat} {bp rr : Bool} {f : Nat → Nat → Bool} {col : Col} {K : RefC}
theorem Fix.wlt (F : Fix w0 B0 W x y R n B rm bp rr f col K) : W < w0.heap.size := blk_lt F.wb
theorem Fix.wbk (F : Fix w0 B0 W x y R n B rm bp rr f col K) (h : NSt w0 w B0 W B M) : w.heap[W]? = some (.cells #[.pointer (some ⟨x, 0, none⟩), .pointer (some ⟨y, 0, none⟩), .pointer (some ⟨B, 0, none⟩)] 48 (0, 0)) :=
  (h.fr.block W F.wlt (fun e => e.2 rfl)).trans F.wb
theorem Fix.refA (F : Fix w0 B0 W x y R n B rm bp rr f col K) (h : NSt w0 w B0 W B M) : RefAt w col 1 y K (clu0 rm bp rr n f) :=
  F.ref.kept (S := fun κ => κ.1 ≠ 1) ⟨h.fr.mono fun q _ hq => F.colh q hq.1, fun _ _ => rfl⟩ (fun _ h => h rfl)
theorem Fix.pfA (F : Fix w0 B0 W x y R n B rm bp rr f col K) (h : NSt w0 w B0 W B M) : PF w x R n :=
  F.pf.fr h.fr (fun e => by have := F.xlt; omega) (fun e => by have := F.Rlt; omega) (fun i hi m hm e => by have := F.mlt i hi m hm; omega)
theorem Fix.rulesA (F : Fix w0 B0 W x y R n B rm bp rr f col K) (h : NSt w0 w B0 W B M) : RulesAt w :=
  F.rules.below (B := 1) ⟨h.fr.os, h.fr.tape, h.fr.output, h.fr.size, fun k hk => h.fr.block k (Nat.lt_of_lt_of_le hk F.rules.1) (fun e => by have := F.b0; omega)⟩ (by omega)
theorem Fix.ok (F : Fix w0 B0 W x y R n B rm bp rr f col K) : (clu0 rm bp rr n f).ok [] 0 := clu0_ok bp rr f F.pf.n1 F.pf.n6 F.r1 F.r8
end
theorem lim00 : Lim [] 0 := ⟨by omega, by simp⟩

/-- A list that was made behind the book's last turn. -/
theorem Bk.sepNew {w w' : World} {B : Nat} {va : Nat → Value} {es : Nat → List (Value × Int)} (h : Bk w B va es) (_hb : Below w.heap.size w w') {e : TypeId} {s n : Nat} {v : Value} {xs : List Value} (hv : w'.ownsRow w.heap.size e s v n xs) :
    ∀ q, v.ownBlock = some q → q < w'.heap.size ∧ q ≠ B ∧ (∀ j, j < 4 → some q ≠ (va j).ownBlock) ∧ ∀ j, j < 4 → ∀ p ∈ es j, p.1.ownBlock ≠ some q := by
  intro q hq
  have h1 := owns_base hv q hq
  have h2 := own_lt hv q hq
  have h3 := h.lt
  refine ⟨h2, by omega, fun j hj e => ?_, fun j hj p hp e => ?_⟩
  · have := own_lt (h.row j hj) q e.symm
    omega
  · have := (h.sep j hj p hp q e).1
    omega
/-- The book's rows do not lie where the law's own struct lies. -/
theorem Bk.neW {w : World} {B W f : Nat} {va : Nat → Value} {es : Nat → List (Value × Int)} {cs : Array Value} (h : Bk w B va es) (hf : f < 4) (hW : w.heap[W]? = some (.cells cs 48 (0, 0))) : ∀ q, (va f).ownBlock = some q → q ≠ W := by
  intro q hq e
  subst e
  rcases (h.row f hf).2 with ⟨h0, _⟩ | ⟨g, cap, cur, h0, _, hh, _⟩
  · rw [h0] at hq; cases hq
  · rw [h0] at hq
    obtain rfl := own_g hq
    rw [hW] at hh
    rcases (show f = 0 ∨ f = 1 ∨ f = 2 ∨ f = 3 by omega) with rfl | rfl | rfl | rfl <;> simp [eT] at hh
theorem updF_len {es : Nat → List (Value × Int)} {k : Nat} {ef : List (Value × Int)} {M : Nat} (h : ∀ f, f < 4 → (es f).length ≤ M) (hk : k < 4) (he : ef.length = (es k).length + 4) : ∀ f, f < 4 → (updF es k ef f).length ≤ M + 4 := by
  intro f hf
  by_cases e : f = k
  · subst e
    rw [updF_same, he]
    have := h f hf
    omega
  · rw [updF_other _ _ e]
    exact Nat.le_trans (h f hf) (by omega)

section
variable {w0 w w1 : World} {B0 W x y R n B rm M : Nat} {bp rr : Bool} {f : Nat → Nat → Bool} {col : Col} {K : RefC}
/-- A list of atoms is the caller's from now on. -/
theorem Fix.ownA (F : Fix w0 B0 W x y R n B rm bp rr f col K) (h : NSt w0 w B0 W B M) (hM : M ≤ 15000000) (hb : Below w.heap.size w w1) {v : Value} {l : List At} (hv : w1.ownsRow w.heap.size 77 6 v l.length (flat l)) (hl : l.length ≤ 8388608) :
    Calls Tryz.prog 92 #[.pointer (some ⟨B, 0, none⟩), v] w1 fun e w' => e = .returned (.tuple #[]) ∧ NSt w0 w' B0 W B (M + 4) := by
  obtain ⟨va, es, hk, hes⟩ := h.bk
  have hW := F.wbk h
  have hs := hk.sepNew hb hv
  have h1 := h.below hb
  refine (ownAtomsB B va v es w.heap.size l.length l w1 (hk.below hb) hv rfl hb.size hs hl (by have := hes 0 (by decide); omega)).mono ?_
  rintro e w' ⟨rfl, vf, ef, hk', hlen, -, hfr⟩
  refine ⟨rfl, h1.fr.trans hfr.out (fun q hq hX => ?_), _, _, hk'.out, updF_len hes (by decide) hlen⟩
  have hsz := h.fr.size
  rcases hX with rfl | hX | hX
  · exact ⟨F.bB, F.bW⟩
  · have := owns_base hv q hX.symm
    have := F.wlt
    omega
  · have := owns_base (hk.row 0 (by decide)) q hX.symm
    exact ⟨by have := F.bB; omega, hk.neW (by decide) hW q hX.symm⟩
theorem Fix.ownI (F : Fix w0 B0 W x y R n B rm bp rr f col K) (h : NSt w0 w B0 W B M) (hM : M ≤ 15000000) (hb : Below w.heap.size w w1) {v : Value} {m : Nat} {l : List Value} (hv : w1.ownsRow w.heap.size 3 1 v m l) (hl : m ≤ 8388608) :
    Calls Tryz.prog 136 #[.pointer (some ⟨B, 0, none⟩), v] w1 fun e w' => e = .returned (.tuple #[]) ∧ NSt w0 w' B0 W B (M + 4) := by
  obtain ⟨va, es, hk, hes⟩ := h.bk
  have hW := F.wbk h
  have hs := hk.sepNew hb hv
  have h1 := h.below hb
  refine (ownInts_any B va v es w.heap.size m l w1 (hk.below hb) hv hb.size hs hl (by have := hes 1 (by decide); omega)).mono ?_
  rintro e w' ⟨rfl, vf, ef, hk', hlen, -, hfr⟩
  refine ⟨rfl, h1.fr.trans hfr.out (fun q hq hX => ?_), _, _, hk'.out, updF_len hes (by decide) hlen⟩
  have hsz := h.fr.size
  rcases hX with rfl | hX | hX
  · exact ⟨F.bB, F.bW⟩
  · have := owns_base hv q hX.symm
    have := F.wlt
    omega
  · have := owns_base (hk.row 1 (by decide)) q hX.symm
    exact ⟨by have := F.bB; omega, hk.neW (by decide) hW q hX.symm⟩
theorem Fix.ownT (F : Fix w0 B0 W x y R n B rm bp rr f col K) (h : NSt w0 w B0 W B M) (hM : M ≤ 15000000) (hb : Below w.heap.size w w1) {v : Value} {m : Nat} {l : List Value} (hv : w1.ownsRow w.heap.size 9 1 v m l) (hl : m ≤ 8388608) :
    Calls Tryz.prog 127 #[.pointer (some ⟨B, 0, none⟩), v] w1 fun e w' => e = .returned (.tuple #[]) ∧ NSt w0 w' B0 W B (M + 4) := by
  obtain ⟨va, es, hk, hes⟩ := h.bk
  have hW := F.wbk h
  have hs := hk.sepNew hb hv
  have h1 := h.below hb
  refine (ownTexts_any B va v es w.heap.size m l w1 (hk.below hb) hv hb.size hs hl (by have := hes 2 (by decide); omega)).mono ?_
  rintro e w' ⟨rfl, vf, ef, hk', hlen, -, hfr⟩
  refine ⟨rfl, h1.fr.trans hfr.out (fun q hq hX => ?_), _, _, hk'.out, updF_len hes (by decide) hlen⟩
  have hsz := h.fr.size
  rcases hX with rfl | hX | hX
  · exact ⟨F.bB, F.bW⟩
  · have := owns_base hv q hX.symm
    have := F.wlt
    omega
  · have := owns_base (hk.row 2 (by decide)) q hX.symm
    exact ⟨by have := F.bB; omega, hk.neW (by decide) hW q hX.symm⟩
theorem Fix.ownE (F : Fix w0 B0 W x y R n B rm bp rr f col K) (h : NSt w0 w B0 W B M) (hM : M ≤ 15000000) :
    Calls Tryz.prog 130 #[.pointer (some ⟨B, 0, none⟩), .slice none 0 0] w fun e w' => e = .returned (.tuple #[]) ∧ NSt w0 w' B0 W B (M + 4) := by
  obtain ⟨va, es, hk, hes⟩ := h.bk
  have hW := F.wbk h
  refine (ownEntries_none B va es w hk (by have := hes 3 (by decide); omega)).mono ?_
  rintro e w' ⟨rfl, vf, ef, hk', hlen, hfr⟩
  refine ⟨rfl, h.fr.trans hfr.out (fun q hq hX => ?_), _, _, hk'.out, updF_len hes (by decide) hlen⟩
  rcases hX with rfl | hX
  · exact ⟨F.bB, F.bW⟩
  · have := owns_base (hk.row 3 (by decide)) q hX.symm
    exact ⟨by have := F.bB; omega, hk.neW (by decide) hW q hX.symm⟩
theorem NSt.looks (h : NSt w0 w B0 W B M) (hM : M ≤ 15000000) :
    Calls Tryz.prog 14 #[.pointer (some ⟨B, 0, none⟩)] w fun e w' => e = .returned (.bool true) ∧ Below w.heap.size w w' := by
  obtain ⟨va, es, hk, hes⟩ := h.bk
  exact looks4_any B va es w hk (fun f hf => by have := hes f hf; omega)
end
end Go.Proofs.YtahdlejgjcjeoaaGreatDoor

namespace Go.Proofs.YtahdlejgjcjeoaaGreatDoor
open Go.RowKit

/-- A slice of these texts. -/
def StrsOf (w : World) (v : Value) (l : List ByteArray) : Prop :=
  ∃ ad cap, v = .slice ad l.length cap ∧ (0 < l.length → ∃ b off, ad = some ⟨b, off, none⟩ ∧ b < w.heap.size ∧ ∀ i (h : i < l.length), w.cell? ⟨b, off + i, none⟩ = some (.string l[i]))
theorem strsOf_owns {w : World} {base : Nat} {e : TypeId} {v : Value} {l : List ByteArray} (h : w.ownsRow base e 1 v l.length (l.map Value.string)) : StrsOf w v l := by
  rcases h.2 with ⟨rfl, h0⟩ | ⟨g, cap, cur, rfl, hg, hb, h1, h2, h3, h4⟩
  · exact ⟨none, 0, by rw [h0], fun h => by omega⟩
  · refine ⟨_, cap, rfl, fun _ => ⟨g, 0, rfl, (Array.getElem?_eq_some_iff.1 hb).1, fun i hi => ?_⟩⟩
    have hx : (l.map Value.string)[i]? = some (.string l[i]) := by simp [hi]
    rw [← h4, List.getElem?_take, if_pos (by omega), Array.getElem?_toList] at hx
    rw [Nat.zero_add]
    simp [World.cell?, hb, hx]

set_option maxRecDepth 100000 in
set_option maxHeartbeats 1000000 in
theorem sameValues_any (n : Int) (v1 v2 : Value) (l : List ByteArray) (w : World) (h1 : StrsOf w v1 l) (h2 : StrsOf w v2 l) (hlen : l.length ≤ 281474976710656) :
    Calls Tryz.prog 94 #[.agg #[.int .i64 n, v1], .agg #[.int .i64 n, v2]] w fun e w' => e = .returned (.bool true) ∧ Below w.heap.size w w' := by
  obtain ⟨ad1, cap1, rfl, H1⟩ := h1
  obtain ⟨ad2, cap2, rfl, H2⟩ := h2
  have HR1 : Hid (0 < l.length → ∃ b off, ad1 = some ⟨b, off, none⟩ ∧ b < w.heap.size ∧ ∀ i (h : i < l.length), w.cell? ⟨b, off + i, none⟩ = some (.string l[i])) := H1
  have HR2 : Hid (0 < l.length → ∃ b off, ad2 = some ⟨b, off, none⟩ ∧ b < w.heap.size ∧ ∀ i (h : i < l.length), w.cell? ⟨b, off + i, none⟩ = some (.string l[i])) := H2
  clear H1 H2
  go_enter Tryz.func94, Tryz.ntmps94
  go_wp2
  have hb0 := below_alloc (below_alloc (Below.refl _ w) (.cells #[.int .i64 n, .slice ad1 l.length cap1] 98)) (.cells #[.int .i64 n, .slice ad2 l.length cap2] 98)
  have k1 : ((w.alloc (.cells #[.int .i64 n, .slice ad1 l.length cap1] 98)).alloc (.cells #[.int .i64 n, .slice ad2 l.length cap2] 98)).cell? ⟨w.heap.size, 1, none⟩ = some (.slice ad1 l.length cap1) := by simp
  have k2 : ((w.alloc (.cells #[.int .i64 n, .slice ad1 l.length cap1] 98)).alloc (.cells #[.int .i64 n, .slice ad2 l.length cap2] 98)).cell? ⟨w.heap.size + 1, 1, none⟩ = some (.slice ad2 l.length cap2) := by simp
  have hz : ((w.alloc (.cells #[.int .i64 n, .slice ad1 l.length cap1] 98)).alloc (.cells #[.int .i64 n, .slice ad2 l.length cap2] 98)).heap.size = w.heap.size + 1 + 1 := by simp
  generalize (w.alloc (.cells #[.int .i64 n, .slice ad1 l.length cap1] 98)).alloc (.cells #[.int .i64 n, .slice ad2 l.length cap2] 98) = w0 at *
  have HK1 : Hid (w0.cell? ⟨w.heap.size, 1, none⟩ = some (.slice ad1 l.length cap1)) := k1
  have HK2 : Hid (w0.cell? ⟨w.heap.size + 1, 1, none⟩ = some (.slice ad2 l.length cap2)) := k2
  clear k1 k2
  go_loopw [5] (fun j wr => ∃ k : Nat, k ≤ l.length ∧ j = .int .i64 k ∧ Below w0.heap.size w0 wr) (fun j _ => l.length - (intOf j).toNat)
  case atStart => exact ⟨0, Nat.zero_le _, rfl, Below.refl _ _⟩
  case round =>
    obtain ⟨k, hk, rfl, hbw⟩ := hrel
    have k1 : wr.cell? ⟨w.heap.size, 1, none⟩ = some (.slice ad1 l.length cap1) := by rw [hbw.cell (p := ⟨w.heap.size, 1, none⟩) (by simp only; omega)]; exact HK1.out
    have k2 : wr.cell? ⟨w.heap.size + 1, 1, none⟩ = some (.slice ad2 l.length cap2) := by rw [hbw.cell (p := ⟨w.heap.size + 1, 1, none⟩) (by simp only; omega)]; exact HK2.out
    have hbb : Below w.heap.size w wr := hb0.trans (hbw.mono hb0.size)
    by_cases hl : k < l.length
    · obtain ⟨b1, off1, rfl, hb1, hrow1⟩ := HR1.out (by omega)
      obtain ⟨b2, off2, rfl, hb2, hrow2⟩ := HR2.out (by omega)
      have c0 : wr.cell? ⟨b1, off1 + k, none⟩ = some (.string l[k]) := by rw [hbb.cell (p := ⟨b1, off1 + k, none⟩) hb1]; exact hrow1 k hl
      have d0 : wr.cell? ⟨b2, off2 + k, none⟩ = some (.string l[k]) := by rw [hbb.cell (p := ⟨b2, off2 + k, none⟩) hb2]; exact hrow2 k hl
      clear hrow1 hrow2 HR1 HR2 HK1 HK2
      generalize l[k] = x at *
      have q1 : (0 : Int) ≤ (k : Int) := by omega
      have q2 : (k : Int) < (l.length : Int) := by omega
      go_wp2
      go_quiet (fail)
      go_wp2
      exact ⟨⟨k + 1, by omega, by go_num, below_drewN hbw _⟩, by simp [intOf]; omega⟩
    · go_wp2
      go_ret
      exact ⟨rfl, hbb⟩
end Go.Proofs.YtahdlejgjcjeoaaGreatDoor

namespace Go.Proofs.YtahdlejgjcjeoaaGreatDoor
open Go.RowKit

/-- A value in two cells. -/
def Box (w : World) (q : Nat) (n : Int) (v : Value) : Prop := w.cell? ⟨q, 0, none⟩ = some (.int .i64 n) ∧ w.cell? ⟨q, 1, none⟩ = some v
theorem Box.below {w w' : World} {q B : Nat} {n : Int} {v : Value} (h : Box w q n v) (hb : Below B w w') (hq : q < B) : Box w' q n v :=
  ⟨by rw [hb.cell (p := ⟨q, 0, none⟩) hq]; exact h.1, by rw [hb.cell (p := ⟨q, 1, none⟩) hq]; exact h.2⟩
theorem Box.fr {w w' : World} {q : Nat} {n : Int} {v : Value} {X : Nat → Prop} (h : Box w q n v) (hf : Fr X w w') (hq : q < w.heap.size) (hx : ¬ X q) : Box w' q n v :=
  ⟨by rw [World.cell?_of_block (w := w) (a := ⟨q, 0, none⟩) (hf.block q hq hx)]; exact h.1, by rw [World.cell?_of_block (w := w) (a := ⟨q, 1, none⟩) (hf.block q hq hx)]; exact h.2⟩
theorem StrsOf.below {w w' : World} {v : Value} {l : List ByteArray} (h : StrsOf w v l) (hb : Below w.heap.size w w') : StrsOf w' v l := by
  obtain ⟨ad, cap, rfl, H⟩ := h
  refine ⟨ad, cap, rfl, fun h0 => ?_⟩
  obtain ⟨b, off, rfl, hlt, hrow⟩ := H h0
  exact ⟨b, off, rfl, Nat.lt_of_lt_of_le hlt hb.size, fun i hi => by rw [hb.cell (p := ⟨b, off + i, none⟩) hlt]; exact hrow i hi⟩
theorem ReadSpec.length {l : List At} {kind : Int} {key : ByteArray} {n : Int} {es : List ByteArray} (h : ReadSpec l kind key n es) (hlen : l.length ≤ 4194304) : es.length ≤ 4194304 := by
  rcases h with ⟨_, _, T, hT, _, rfl⟩ | ⟨_, _, rfl⟩
  · have h1 := valE_length T T kind key
    have h2 := told_len hT
    omega
  · simp

end Go.Proofs.YtahdlejgjcjeoaaGreatDoor
