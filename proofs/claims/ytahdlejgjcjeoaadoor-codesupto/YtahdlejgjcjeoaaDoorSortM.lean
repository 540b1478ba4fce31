/- The sort, on a row of atoms of the call's own. -/
import Derived.Test.YtahdlejgjcjeoaaDoorSortLay
import Derived.Test.YtahdlejgjcjeoaaDoorCmp2
import Derived.Test.YtahdlejgjcjeoaaDoorSel
namespace Go.Proofs.YtahdlejgjcjeoaaDoor
open Go.RowKit Go.Sort

theorem acmp_eq (a b : At) : acmp a b = scmp ⟨a.ty, a.key, a.side, a.who, a.elem⟩ ⟨b.ty, b.key, b.side, b.who, b.elem⟩ := by
  simp only [acmp, scmp, orI]
  split <;> (try split) <;> (try split) <;> (try split) <;> (try split) <;> simp_all
theorem acmp_tp : TP acmp := by
  have : acmp = fun a b : At => scmp ((fun a : At => (⟨a.ty, a.key, a.side, a.who, a.elem⟩ : Sl)) a) ((fun a : At => (⟨a.ty, a.key, a.side, a.who, a.elem⟩ : Sl)) b) := by funext a b; exact acmp_eq a b
  rw [this]; exact scmp_tp.comap _
theorem acmp_swo : SWO (ltOf acmp) where
  irrefl x := by simp [ltOf, acmp_tp.refl]
  trans x y z h1 h2 := by
    simp only [ltOf, decide_eq_true_eq] at *
    exact acmp_tp.lt_le h1 (by omega)
  ntrans x y z h1 h2 := by
    simp only [ltOf, decide_eq_false_iff_not] at *
    have e1 := acmp_tp.anti x y
    have e2 := acmp_tp.anti y z
    have e3 := acmp_tp.anti x z
    have := acmp_tp.trans z y x (by omega) (by omega)
    omega
/-- Where the slots part the program's order is the document's. -/
theorem acmp_plc (a b : At) (h : plc a b ≠ 0) : acmp a b = plc a b := by
  rw [acmp_eq, plc_eq] at *
  by_cases ht : a.ty = b.ty
  · by_cases h5 : a.ty = 5
    · have h5b : b.ty = 5 := by omega
      have e0 : ∀ x, ci x x = 0 := fun x => (ci_zero x x).2 rfl
      have z0 : ∀ x, ordS x x = 0 := fun x => (ordS_zero x x).2 rfl
      simp only [slot, h5, h5b, if_true, scmp, e0, z0] at h ⊢
      simp only [ne_eq, not_true_eq_false, if_false] at h ⊢
      split at h
      · rename_i hk; rw [if_pos hk, if_pos hk]
      · exact absurd rfl h
    · have h5b : ¬ b.ty = 5 := by omega
      simp only [slot, h5, h5b, if_false]
  · have hc : ci a.ty b.ty ≠ 0 := by rw [Ne, ci_zero]; exact ht
    simp only [scmp, slot_ty]
    rw [if_pos hc, if_pos hc]

abbrev inhAt : Inhabited At := ⟨zAt⟩

theorem flatK_eq (C : List At) : @flatK At inhAt enc 6 C.toArray = (flat C).toArray := by
  letI := inhAt
  apply Array.ext
  · simp [flat_length]
  · intro t h1 h2
    have ht : t < C.length * 6 := by simpa using h1
    have hk : t / 6 < C.length := by omega
    have hg := flat_get C (t / 6) (t % 6) hk (Nat.mod_lt _ (by decide))
    rw [show t / 6 * 6 + t % 6 = t by omega] at hg
    have e1 : (flatK enc 6 C.toArray)[t]! = (enc C.toArray[t / 6]!)[t % 6]! := get_flatK enc 6 C.toArray t (by simpa using ht)
    have e2 : C.toArray[t / 6]! = C[t / 6] := by simp [hk]
    rw [e2] at e1
    have e3 : (flatK enc 6 C.toArray)[t]! = (flatK enc 6 C.toArray)[t] := getElem!_pos _ t h1
    rw [← e3, e1]
    have hl : t % 6 < (enc C[t / 6]).length := by show t % 6 < 6; omega
    rw [List.getElem?_eq_getElem hl, List.getElem?_eq_some_iff] at hg
    obtain ⟨hh, hg⟩ := hg
    rw [getElem!_pos (enc C[t / 6]) (t % 6) hl, ← hg]
    simp

theorem holdsK_of_block {w : World} {g : Nat} {cur : Array Value} {e : TypeId} {C : List At} (hb : w.heap[g]? = some (.cells cur e (0, 0))) (ht : cur.toList.take (C.length * 6) = flat C) : @HoldsK At inhAt enc 6 w g 0 C.toArray := by
  letI := inhAt
  unfold HoldsK
  rw [flatK_eq]
  intro j hj
  have hj' : j < (flat C).length := by simpa using hj
  refine ⟨?_, by simp [World.frozen?, hb]⟩
  have hl := flat_length C
  have h1 : (cur.toList.take (C.length * 6))[j]? = (flat C)[j]? := by rw [ht]
  rw [List.getElem?_take_of_lt (by omega)] at h1
  simp only [World.cell?, hb, Nat.zero_add]
  simp only [Option.isSome_none, Bool.false_eq_true, if_false]
  rw [← Array.getElem?_toList, h1]
  simp [hj']

theorem heap_sortedK {w : World} {g n : Nat} {os : Array Obj} {cur : Array Value} {e : TypeId} (F : Array Value) (hb : w.heap[g]? = some (.cells cur e (0, 0))) :
    (grow (putRow id (Sort.ahead w n) g 0 F) os).heap[g]? = some (.cells (putCells id 0 F cur) e (0, 0)) := by
  have hlt := (Array.getElem?_eq_some_iff.1 hb).1
  rw [heap_grow_old _ _ (by simpa using hlt)]
  simp [putRow, mapBlock, Sort.ahead, Array.getElem?_modify, hb, onCells]
theorem grownBy_sortedK {w : World} {g n : Nat} {os : Array Obj} (F : Array Value) : w.grownBy (grow (putRow id (Sort.ahead w n) g 0 F) os) (some g) := by
  refine ⟨rfl, rfl, rfl, by simp, fun k hk hne => ?_⟩
  rw [heap_grow_old _ _ (by simpa using hk)]
  have : g ≠ k := fun e => hne (by rw [e])
  simp [putRow, mapBlock, Sort.ahead, Array.getElem?_modify, this]
theorem take_putCellsK (cur : Array Value) (F : List Value) (h : F.length ≤ cur.size) : (putCells id 0 F.toArray cur).toList.take F.length = F := by
  apply List.ext_getElem?
  intro j
  by_cases hj : j < F.length
  · rw [List.getElem?_take_of_lt hj, Array.getElem?_toList]
    simp [putCells, hj, show j < cur.size by omega]
  · rw [List.getElem?_take_eq_none (by omega), List.getElem?_eq_none (by omega)]

theorem cmpLays (blk off size : Nat) (w : World) : @CmpLays At inhAt Tryd.prog 74 #[] enc 6 acmp blk off size w :=
  fun _ _ _ _ x y => compareAtoms_any x y _

/-- SortFunc, on a row of the call's own: a permutation, sorted by the program's order; nothing else has turned. -/
theorem sort_any (base g cap : Nat) (C : List At) (w : World) (hown : w.ownsRow base 52 6 (.slice (some ⟨g, 0, none⟩) C.length cap) C.length (flat C)) (hlen : C.length < 4611686018427387904) :
    Calls Tryd.prog 73 #[.slice (some ⟨g, 0, none⟩) C.length cap, .func (.func 74) #[] #[]] w fun e w' =>
      e = .returned (.tuple #[]) ∧ ∃ C' : List At, C'.Perm C ∧ C'.Pairwise (fun x y => 0 ≤ acmp y x) ∧ w'.ownsRow base 52 6 (.slice (some ⟨g, 0, none⟩) C.length cap) C.length (flat C') ∧ w.grownBy w' (some g) := by
  letI := inhAt
  rcases hown.2 with ⟨h0, _⟩ | ⟨g', cap', cur, hv, hbase, hb, h1, h2, h3, h4⟩
  · cases h0
  cases hv
  have eg : ∀ args w, (callFunc 74 args).run Tryd.prog w = .ok (.enter 74 args) w := enters_of Tryd.func74 (by kernel_rfl) rfl
  have hH := holdsK_of_block hb h4
  have hcon := AnyQ.slices_SortFunc sortAtoms 6 Tryd.isAgg52 Tryd.sizeOf52 enc (fun _ => rfl) enc_oneCell acmp acmp_swo 74 #[] g 0 cap C.toArray w eg (cmpLays g 0 C.toArray.size w) hH (Array.getElem?_eq_some_iff.1 hb).1 (by simpa using hlen)
  rw [show C.toArray.size = C.length from rfl] at hcon
  refine Calls.mono (show Calls Tryd.prog 73 _ _ _ from hcon) ?_
  rintro e w' ⟨rfl, d', n, os, hp, hs, rfl⟩
  obtain ⟨hsize, _, hperm⟩ := hp
  have hperm' : d'.toList.Perm C := by
    have e1 : (d'.extract 0 C.length).toList = d'.toList := by rw [← show d'.size = C.length from hsize]; simp
    have e2 : (C.toArray.extract 0 C.length).toList = C := by simp
    rw [e1, e2] at hperm
    exact hperm
  have hlen' : d'.toList.length = C.length := hperm'.length_eq
  refine ⟨rfl, d'.toList, hperm', ?_, ?_, ?_⟩
  · rw [List.pairwise_iff_getElem]
    intro i j hi hj hij
    have := hs i j (Nat.zero_le _) hij (by omega)
    simp only [ltOf, decide_eq_false_iff_not] at this
    have e1 : d'[j]! = d'.toList[j] := by rw [getElem!_pos d' j (by simpa using hj)]; simp
    have e2 : d'[i]! = d'.toList[i] := by rw [getElem!_pos d' i (by simpa using hi)]; simp
    rw [e1, e2] at this
    omega
  · have hF : flatK enc 6 d' = (flat d'.toList).toArray := by have := flatK_eq d'.toList; simpa using this
    have hfl := flat_length d'.toList
    unfold sortWorldK putRowK
    rw [hF]
    refine ⟨by rw [hfl, hlen'], .inr ⟨g, cap, _, rfl, hbase, heap_sortedK _ hb, h1, h2, by simp [putCells, h3], ?_⟩⟩
    have := take_putCellsK cur (flat d'.toList) (by rw [hfl, hlen', h3]; exact Nat.mul_le_mul_right _ h1)
    rw [hfl, hlen'] at this
    exact this
  · exact grownBy_sortedK _
end Go.Proofs.YtahdlejgjcjeoaaDoor
