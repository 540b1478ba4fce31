/- Walks of the program's isRemoved, elems (up to the sort), register. -/
import Derived.Test.YtfddkkkkehbecaaDoorTotalW
namespace Go.Proofs.YtfddkkkkehbecaaDoor
open Go.RowKit Go.Maps

def Sl.one (s : Sl) : Sl := ⟨s.ty, s.key, 1, s.who, s.elem⟩
theorem Sl.one_ok {s : Sl} (h : s.ok) : s.one.ok := ⟨h.1, h.2.1, (by decide : (Lit.int .i64 1).wf = true), h.2.2.2.1, h.2.2.2.2⟩

set_option maxRecDepth 100000 in
set_option maxHeartbeats 1000000 in
theorem isRemoved_any (b n : Nat) (M : Sl → Option Gr) (s : Sl) (w : World) (hm : StMap w b n M) (hs : s.ok) :
    Calls Tryd.prog 98 #[.map (some b), .agg #[.int .i64 s.ty, .string s.key, .int .i64 s.side, .int .i64 s.who, .string s.elem]] w fun e w' => e = .returned (.bool (M s.one).isSome) ∧ Below w.heap.size w w' := by
  have h1 := Sl.one_ok hs
  go_enter Tryd.func98, Tryd.ntmps98
  go_wp2_with (at_lookup; refine wpList_st_look_exp _ rfl _ _ 62 rfl Tryd.underlying62 b n M rfl (hm.alloc _) s.one h1 rfl (got M s.one) (M s.one).isSome rfl rfl ?_)
  go_ret
  exact ⟨rfl, below_alloc (below_alloc (Below.refl _ _) _) _⟩

/-- Kept by elems. -/
def kept (M : Sl → Option Gr) (a : At) : Bool := decide ((slot a).side = 0) && (M (slot a).one).isNone
def elemsOf (M : Sl → Option Gr) (C : List At) : List ByteArray := (C.filter (kept M)).map fun a => (slot a).elem
theorem elemsOf_snoc (M : Sl → Option Gr) (C : List At) (a : At) : elemsOf M (C ++ [a]) = if kept M a then elemsOf M C ++ [(slot a).elem] else elemsOf M C := by
  unfold elemsOf
  rw [List.filter_append]
  by_cases h : kept M a <;> simp [h]
theorem elemsOf_length (M : Sl → Option Gr) (C : List At) : (elemsOf M C).length ≤ C.length := by
  unfold elemsOf
  rw [List.length_map]
  exact List.length_filter_le _ _
theorem infoText : (Tryd.prog.info? 9).map (fun i => (i.zero, i.size, i.bytes)) = some (some (.string ⟨#[]⟩), 1, 16) := by kernel_rfl
end Go.Proofs.YtfddkkkkehbecaaDoor
