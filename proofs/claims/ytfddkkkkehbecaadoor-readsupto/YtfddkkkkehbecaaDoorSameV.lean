/- Walk of the laws' sameValues. -/
import Derived.Test.YtfddkkkkehbecaaDoorLawA
import Derived.Test.YtfddkkkkehbecaaDoorMem
namespace Go.Proofs.YtfddkkkkehbecaaDoor
open Go.RowKit

/-- A slice of these texts. -/
def StrsOf (w : World) (v : Value) (l : List ByteArray) : Prop :=
  ∃ ad cap, v = .slice ad l.length cap ∧ (0 < l.length → ∃ b off, ad = some ⟨b, off, none⟩ ∧ b < w.heap.size ∧ ∀ i (h : i < l.length), w.cell? ⟨b, off + i, none⟩ = some (.string l[i]))
theorem strsOf_owns {w : World} {base : Nat} {e : TypeId} {v : Value} {l : List ByteArray} (h : w.ownsRow base e 1 v l.length (l.map Value.string)) : StrsOf w v l := by
  rcases h.2 with ⟨rfl, h0⟩ | ⟨g, cap, cur, rfl, hg, hb, h1, h2, h3, h4⟩
  · exact ⟨none, 0, by rw [h0], fun h => by omega⟩
  · refine ⟨_, cap, rfl, fun _ => ⟨g, 0, rfl, (Array.getElem?_eq_some_iff.1 hb).1, fun i hi => ?_⟩⟩
    have hx : (l.map Value.string)[i]? = some (.string l[i]) := by simp [hi]
    rw [← h4, List.getElem?_take, if_pos (by omega), Array.getElem?_toList] at hx
    rw [Nat.zero_add]
    simp [World.cell?, hb, hx]

set_option maxRecDepth 100000 in
set_option maxHeartbeats 1000000 in
theorem sameValues_any (n : Int) (v1 v2 : Value) (l : List ByteArray) (w : World) (h1 : StrsOf w v1 l) (h2 : StrsOf w v2 l) (hlen : l.length ≤ 281474976710656) :
    Calls Tryd.prog 22 #[.agg #[.int .i64 n, v1], .agg #[.int .i64 n, v2]] w fun e w' => e = .returned (.bool true) ∧ Below w.heap.size w w' := by
  obtain ⟨ad1, cap1, rfl, H1⟩ := h1
  obtain ⟨ad2, cap2, rfl, H2⟩ := h2
  have HR1 : Hid (0 < l.length → ∃ b off, ad1 = some ⟨b, off, none⟩ ∧ b < w.heap.size ∧ ∀ i (h : i < l.length), w.cell? ⟨b, off + i, none⟩ = some (.string l[i])) := H1
  have HR2 : Hid (0 < l.length → ∃ b off, ad2 = some ⟨b, off, none⟩ ∧ b < w.heap.size ∧ ∀ i (h : i < l.length), w.cell? ⟨b, off + i, none⟩ = some (.string l[i])) := H2
  clear H1 H2
  go_enter Tryd.func22, Tryd.ntmps22
  go_wp2
  have hb0 := below_alloc (below_alloc (Below.refl _ w) (.cells #[.int .i64 n, .slice ad1 l.length cap1] 34)) (.cells #[.int .i64 n, .slice ad2 l.length cap2] 34)
  have k1 : ((w.alloc (.cells #[.int .i64 n, .slice ad1 l.length cap1] 34)).alloc (.cells #[.int .i64 n, .slice ad2 l.length cap2] 34)).cell? ⟨w.heap.size, 1, none⟩ = some (.slice ad1 l.length cap1) := by simp
  have k2 : ((w.alloc (.cells #[.int .i64 n, .slice ad1 l.length cap1] 34)).alloc (.cells #[.int .i64 n, .slice ad2 l.length cap2] 34)).cell? ⟨w.heap.size + 1, 1, none⟩ = some (.slice ad2 l.length cap2) := by simp
  have hz : ((w.alloc (.cells #[.int .i64 n, .slice ad1 l.length cap1] 34)).alloc (.cells #[.int .i64 n, .slice ad2 l.length cap2] 34)).heap.size = w.heap.size + 1 + 1 := by simp
  generalize (w.alloc (.cells #[.int .i64 n, .slice ad1 l.length cap1] 34)).alloc (.cells #[.int .i64 n, .slice ad2 l.length cap2] 34) = w0 at *
  have HK1 : Hid (w0.cell? ⟨w.heap.size, 1, none⟩ = some (.slice ad1 l.length cap1)) := k1
  have HK2 : Hid (w0.cell? ⟨w.heap.size + 1, 1, none⟩ = some (.slice ad2 l.length cap2)) := k2
  clear k1 k2
  go_loopw [5] (fun j wr => ∃ k : Nat, k ≤ l.length ∧ j = .int .i64 k ∧ Below w0.heap.size w0 wr) (fun j _ => l.length - (intOf j).toNat)
  case atStart => exact ⟨0, Nat.zero_le _, rfl, Below.refl _ _⟩
  case round =>
    obtain ⟨k, hk, rfl, hbw⟩ := hrel
    have k1 : wr.cell? ⟨w.heap.size, 1, none⟩ = some (.slice ad1 l.length cap1) := by rw [hbw.cell (p := ⟨w.heap.size, 1, none⟩) (by simp only; omega)]; exact HK1.out
    have k2 : wr.cell? ⟨w.heap.size + 1, 1, none⟩ = some (.slice ad2 l.length cap2) := by rw [hbw.cell (p := ⟨w.heap.size + 1, 1, none⟩) (by simp only; omega)]; exact HK2.out
    have hbb : Below w.heap.size w wr := hb0.trans (hbw.mono hb0.size)
    by_cases hl : k < l.length
    · obtain ⟨b1, off1, rfl, hb1, hrow1⟩ := HR1.out (by omega)
      obtain ⟨b2, off2, rfl, hb2, hrow2⟩ := HR2.out (by omega)
      have c0 : wr.cell? ⟨b1, off1 + k, none⟩ = some (.string l[k]) := by rw [hbb.cell (p := ⟨b1, off1 + k, none⟩) hb1]; exact hrow1 k hl
      have d0 : wr.cell? ⟨b2, off2 + k, none⟩ = some (.string l[k]) := by rw [hbb.cell (p := ⟨b2, off2 + k, none⟩) hb2]; exact hrow2 k hl
      clear hrow1 hrow2 HR1 HR2 HK1 HK2
      generalize l[k] = x at *
      have q1 : (0 : Int) ≤ (k : Int) := by omega
      have q2 : (k : Int) < (l.length : Int) := by omega
      go_wp2
      go_quiet (fail)
      go_wp2
      exact ⟨⟨k + 1, by omega, by go_num, below_drewN hbw _⟩, by simp [intOf]; omega⟩
    · go_wp2
      go_ret
      exact ⟨rfl, hbb⟩
end Go.Proofs.YtfddkkkkehbecaaDoor
