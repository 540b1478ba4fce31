/- Walk of the program's Tell: a state told as a sorted list. -/
import Derived.Test.YtahdlejgjcjeoaaDoorSortM
import Derived.Test.YtahdlejgjcjeoaaDoorStOf
import Derived.Test.YtahdlejgjcjeoaaDoorRefB
import Derived.Deep.DeepCutAuto
namespace Go.Proofs.YtahdlejgjcjeoaaDoor
open Go.RowKit Go.Maps

/-- All that a state has are slots and grades of atoms that may be. -/
def MayMap (M : Sl → Option Gr) : Prop := ∀ s g, M s = some g → ∃ a, mayB a = true ∧ slot a = s ∧ grade a = g
/-- An atom of a state. -/
def InM (M : Sl → Option Gr) (a : At) : Prop := mayB a = true ∧ M (slot a) = some (grade a)

theorem int_cell_wf (d : Nat) (n : Int) (ls : List Lit) (h : Tryd.prog.keyLits (d + 1) 3 [.int .i64 n] = some ls) : (Lit.int .i64 n).wf = true := by
  unfold Program.keyLits at h
  simp only [Tryd.underlying3] at h
  split at h
  · rename_i hc; exact hc.2
  · cases h
theorem string_cell_le (d : Nat) (s : ByteArray) (ls : List Lit) (h : Tryd.prog.keyLits (d + 1) 9 [.string s] = some ls) : s.size ≤ maxLen := by
  unfold Program.keyLits at h
  simp only [Tryd.underlying9] at h
  split at h
  · assumption
  · cases h
theorem slot_ok_of_key (s : Sl) (kl : Lit) (h : keyOf Tryd.prog 117 s.val = some kl) : s.ok ∧ kl = s.lit := by
  have hok : s.ok := by
    unfold keyOf at h
    simp only [Tryd.underlying117, keyTypeSlot, Bool.true_and] at h
    split at h
    · obtain ⟨d, hd⟩ := typesSize
      rw [hd, Option.map_eq_some_iff] at h
      obtain ⟨ls, hls, _⟩ := h
      simp only [Sl.val, Value.cells] at hls
      unfold Program.keyLits at hls
      simp only [Tryd.underlying117, cellsSlot] at hls
      split at hls
      · simp only [List.mapM_cons, List.mapM_nil, Option.map_eq_some_iff, Option.bind_eq_bind, Option.bind_eq_some_iff, cellsInt, cellsString, List.drop_zero, List.take_succ_cons, List.take_zero, List.drop_succ_cons, Option.pure_def] at hls
        obtain ⟨xs, ⟨x0, k0, y0, ⟨x1, k1, y1, ⟨x2, k2, y2, ⟨x3, k3, y3, ⟨x4, k4, _⟩, _⟩, _⟩, _⟩, _⟩, _⟩ := hls
        exact ⟨int_cell_wf d _ _ k0, string_cell_le d _ _ k1, int_cell_wf d _ _ k2, int_cell_wf d _ _ k3, string_cell_le d _ _ k4⟩
      · cases hls
    · cases h
  exact ⟨hok, by have := keyOf_slot s hok; rw [h] at this; exact Option.some.inj this⟩

theorem lit_same (s : Sl) : s.lit.sameKey s.lit = true := by simp [Sl.lit, Lit.sameKey]

/-- What has been gathered while the keys 'left' are still to come. -/
structure Coll (M : Sl → Option Gr) (left : Lit → Bool) (C : List At) : Prop where
  apart : C.Pairwise (fun x y => plc x y ≠ 0)
  mem : ∀ a, a ∈ C ↔ InM M a ∧ left (slot a).lit = false

theorem plc_slot {a b : At} (h : plc a b = 0) : slot a = slot b := by rw [plc_eq, scmp_zero] at h; exact h

theorem Coll.step {M : Sl → Option Gr} {left : Lit → Bool} {C : List At} (h : Coll M left C) {a : At} (ha : InM M a) (hl : left (slot a).lit = true) (hok : ∀ s g, M s = some g → s.ok) :
    Coll M (fun z => left z && !z.sameKey (slot a).lit) (C ++ [a]) where
  apart := by
    rw [List.pairwise_append]
    refine ⟨h.apart, List.pairwise_singleton _ _, fun x hx y hy => ?_⟩
    rw [List.mem_singleton] at hy
    subst hy
    intro e
    have := ((h.mem x).1 hx).2
    rw [plc_slot e, hl] at this
    cases this
  mem b := by
    rw [List.mem_append, List.mem_singleton, h.mem b]
    constructor
    · rintro (⟨h1, h2⟩ | rfl)
      · exact ⟨h1, by rw [h2]; rfl⟩
      · exact ⟨ha, by rw [lit_same]; simp⟩
    · rintro ⟨h1, h2⟩
      by_cases e : slot b = slot a
      · right
        obtain ⟨hb1, hb2⟩ := h1
        obtain ⟨ha1, ha2⟩ := ha
        rw [e, ha2] at hb2
        rw [← unite_eq b hb1, ← unite_eq a ha1, e, Option.some.inj hb2]
      · left
        refine ⟨h1, ?_⟩
        have hne : (slot b).lit ≠ (slot a).lit := fun e' => e (Sl.lit_inj (hok _ _ h1.2) (hok _ _ ha.2) e')
        rw [Maps.sameKey_ne hne] at h2
        simpa using h2

/-- The sorted list of a state's atoms. -/
structure TellOf (M : Sl → Option Gr) (out : List At) : Prop where
  sorted : out.Pairwise (fun x y => plc x y < 0)
  mem : ∀ a, a ∈ out ↔ InM M a

theorem tell_of {M : Sl → Option Gr} {left : Lit → Bool} {C C' : List At} (h : Coll M left C) (hl : ∀ kl, left kl = false) (hp : C'.Perm C) (hs : C'.Pairwise (fun x y => 0 ≤ acmp y x)) : TellOf M C' where
  sorted := by
    have hap : C'.Pairwise (fun x y => plc x y ≠ 0) := (hp.pairwise_iff (fun {x y} hxy e => hxy (plc_symm e))).2 h.apart
    refine List.Pairwise.imp₂ (fun {x y} h1 h2 => ?_) hap hs
    have h3 : plc y x ≠ 0 := fun e => h1 (plc_symm e)
    rw [acmp_plc y x h3] at h2
    have := plc_tp.anti x y
    omega
  mem a := by
    rw [hp.mem_iff, h.mem a]
    exact ⟨fun h => h.1, fun h => ⟨h, hl _⟩⟩

end Go.Proofs.YtahdlejgjcjeoaaDoor
