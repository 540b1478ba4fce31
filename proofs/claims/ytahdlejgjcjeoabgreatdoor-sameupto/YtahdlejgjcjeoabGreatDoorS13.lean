/- Walk of the program's check sum. -/
import Derived.Test.YtahdlejgjcjeoabGreatDoorS12
import Derived.Test.YtahdlejgjcjeoabGreatDoorS08
import Derived.Test.YtahdlejgjcjeoabGreatDoorS02
import Derived.Deep.DeepCutAuto
import Derived.Test.YtahdlejgjcjeoabGreatDoorS04
import Derived.Shelf.SlSortCmp.NoneTotal
namespace Go.Proofs.YtahdlejgjcjeoabGreatDoor
open Go.RowKit Go.Sort

theorem acmp_eq (a b : At) : acmp a b = scmp ⟨a.ty, a.key, a.side, a.who, a.elem⟩ ⟨b.ty, b.key, b.side, b.who, b.elem⟩ := by
  simp only [acmp, scmp, orI]
  split <;> (try split) <;> (try split) <;> (try split) <;> (try split) <;> simp_all
theorem acmp_tp : TP acmp := by
  have : acmp = fun a b : At => scmp ((fun a : At => (⟨a.ty, a.key, a.side, a.who, a.elem⟩ : Sl)) a) ((fun a : At => (⟨a.ty, a.key, a.side, a.who, a.elem⟩ : Sl)) b) := by funext a b; exact acmp_eq a b
  rw [this]; exact scmp_tp.comap _
theorem acmp_swo : SWO (ltOf acmp) where
  irrefl x := by simp [ltOf, acmp_tp.refl]
  trans x y z h1 h2 := by
    simp only [ltOf, decide_eq_true_eq] at *
    exact acmp_tp.lt_le h1 (by omega)
  ntrans x y z h1 h2 := by
    simp only [ltOf, decide_eq_false_iff_not] at *
    have e1 := acmp_tp.anti x y
    have e2 := acmp_tp.anti y z
    have e3 := acmp_tp.anti x z
    have := acmp_tp.trans z y x (by omega) (by omega)
    omega
/-- Where the slots part the program's order is the document's. -/
theorem acmp_plc (a b : At) (h : plc a b ≠ 0) : acmp a b = plc a b := by
  rw [acmp_eq, plc_eq] at *
  by_cases ht : a.ty = b.ty
  · by_cases h5 : a.ty = 5
    · have h5b : b.ty = 5 := by omega
      have e0 : ∀ x, ci x x = 0 := fun x => (ci_zero x x).2 rfl
      have z0 : ∀ x, ordS x x = 0 := fun x => (ordS_zero x x).2 rfl
      simp only [slot, h5, h5b, if_true, scmp, e0, z0] at h ⊢
      simp only [ne_eq, not_true_eq_false, if_false] at h ⊢
      split at h
      · rename_i hk; rw [if_pos hk, if_pos hk]
      · exact absurd rfl h
    · have h5b : ¬ b.ty = 5 := by omega
      simp only [slot, h5, h5b, if_false]
  · have hc : ci a.ty b.ty ≠ 0 := by rw [Ne, ci_zero]; exact ht
    simp only [scmp, slot_ty]
    rw [if_pos hc, if_pos hc]

abbrev inhAt : Inhabited At := ⟨zAt⟩

theorem flatK_eq (C : List At) : @flatK At inhAt enc 6 C.toArray = (flat C).toArray := by
  letI := inhAt
  apply Array.ext
  · simp [flat_length]
  · intro t h1 h2
    have ht : t < C.length * 6 := by simpa using h1
    have hk : t / 6 < C.length := by omega
    have hg := flat_get C (t / 6) (t % 6) hk (Nat.mod_lt _ (by decide))
    rw [show t / 6 * 6 + t % 6 = t by omega] at hg
    have e1 : (flatK enc 6 C.toArray)[t]! = (enc C.toArray[t / 6]!)[t % 6]! := get_flatK enc 6 C.toArray t (by simpa using ht)
    have e2 : C.toArray[t / 6]! = C[t / 6] := by simp [hk]
    rw [e2] at e1
    have e3 : (flatK enc 6 C.toArray)[t]! = (flatK enc 6 C.toArray)[t] := getElem!_pos _ t h1
    rw [← e3, e1]
    have hl : t % 6 < (enc C[t / 6]).length := by show t % 6 < 6; omega
    rw [List.getElem?_eq_getElem hl, List.getElem?_eq_some_iff] at hg
    obtain ⟨hh, hg⟩ := hg
    rw [getElem!_pos (enc C[t / 6]) (t % 6) hl, ← hg]
    simp

theorem holdsK_of_block {w : World} {g : Nat} {cur : Array Value} {e : TypeId} {C : List At} (hb : w.heap[g]? = some (.cells cur e (0, 0))) (ht : cur.toList.take (C.length * 6) = flat C) : @HoldsK At inhAt enc 6 w g 0 C.toArray := by
  letI := inhAt
  unfold HoldsK
  rw [flatK_eq]
  intro j hj
  have hj' : j < (flat C).length := by simpa using hj
  refine ⟨?_, by simp [World.frozen?, hb]⟩
  have hl := flat_length C
  have h1 : (cur.toList.take (C.length * 6))[j]? = (flat C)[j]? := by rw [ht]
  rw [List.getElem?_take_of_lt (by omega)] at h1
  simp only [World.cell?, hb, Nat.zero_add]
  simp only [Option.isSome_none, Bool.false_eq_true, if_false]
  rw [← Array.getElem?_toList, h1]
  simp [hj']

theorem heap_sortedK {w : World} {g n : Nat} {os : Array Obj} {cur : Array Value} {e : TypeId} (F : Array Value) (hb : w.heap[g]? = some (.cells cur e (0, 0))) :
    (grow (putRow id (Sort.ahead w n) g 0 F) os).heap[g]? = some (.cells (putCells id 0 F cur) e (0, 0)) := by
  have hlt := (Array.getElem?_eq_some_iff.1 hb).1
  rw [heap_grow_old _ _ (by simpa using hlt)]
  simp [putRow, mapBlock, Sort.ahead, Array.getElem?_modify, hb, onCells]
theorem grownBy_sortedK {w : World} {g n : Nat} {os : Array Obj} (F : Array Value) : w.grownBy (grow (putRow id (Sort.ahead w n) g 0 F) os) (some g) := by
  refine ⟨rfl, rfl, rfl, by simp, fun k hk hne => ?_⟩
  rw [heap_grow_old _ _ (by simpa using hk)]
  have : g ≠ k := fun e => hne (by rw [e])
  simp [putRow, mapBlock, Sort.ahead, Array.getElem?_modify, this]
theorem take_putCellsK (cur : Array Value) (F : List Value) (h : F.length ≤ cur.size) : (putCells id 0 F.toArray cur).toList.take F.length = F := by
  apply List.ext_getElem?
  intro j
  by_cases hj : j < F.length
  · rw [List.getElem?_take_of_lt hj, Array.getElem?_toList]
    simp [putCells, hj, show j < cur.size by omega]
  · rw [List.getElem?_take_eq_none (by omega), List.getElem?_eq_none (by omega)]

theorem cmpLays (blk off size : Nat) (w : World) : @CmpLays At inhAt Tryz.prog 150 #[] enc 6 acmp blk off size w :=
  fun _ _ _ _ x y => compareAtoms_any x y _

/-- SortFunc, on a row of the call's own: a permutation, sorted by the program's order; nothing else has turned. -/
theorem sort_any (base g cap : Nat) (C : List At) (w : World) (hown : w.ownsRow base 76 6 (.slice (some ⟨g, 0, none⟩) C.length cap) C.length (flat C)) (hlen : C.length < 4611686018427387904) :
    Calls Tryz.prog 149 #[.slice (some ⟨g, 0, none⟩) C.length cap, .func (.func 150) #[] #[]] w fun e w' =>
      e = .returned (.tuple #[]) ∧ ∃ C' : List At, C'.Perm C ∧ C'.Pairwise (fun x y => 0 ≤ acmp y x) ∧ w'.ownsRow base 76 6 (.slice (some ⟨g, 0, none⟩) C.length cap) C.length (flat C') ∧ w.grownBy w' (some g) := by
  letI := inhAt
  rcases hown.2 with ⟨h0, _⟩ | ⟨g', cap', cur, hv, hbase, hb, h1, h2, h3, h4⟩
  · cases h0
  cases hv
  have eg : ∀ args w, (callFunc 150 args).run Tryz.prog w = .ok (.enter 150 args) w := enters_of Tryz.func150 (by kernel_rfl) rfl
  have hH := holdsK_of_block hb h4
  have hcon := AnyQ.slices_SortFunc sortAtoms 6 Tryz.isAgg76 Tryz.sizeOf76 enc (fun _ => rfl) enc_oneCell acmp acmp_swo 150 #[] g 0 cap C.toArray w eg (cmpLays g 0 C.toArray.size w) hH (Array.getElem?_eq_some_iff.1 hb).1 (by simpa using hlen)
  rw [show C.toArray.size = C.length from rfl] at hcon
  refine Calls.mono (show Calls Tryz.prog 149 _ _ _ from hcon) ?_
  rintro e w' ⟨rfl, d', n, os, hp, hs, rfl⟩
  obtain ⟨hsize, _, hperm⟩ := hp
  have hperm' : d'.toList.Perm C := by
    have e1 : (d'.extract 0 C.length).toList = d'.toList := by rw [← show d'.size = C.length from hsize]; simp
    have e2 : (C.toArray.extract 0 C.length).toList = C := by simp
    rw [e1, e2] at hperm
    exact hperm
  have hlen' : d'.toList.length = C.length := hperm'.length_eq
  refine ⟨rfl, d'.toList, hperm', ?_, ?_, ?_⟩
  · rw [List.pairwise_iff_getElem]
    intro i j hi hj hij
    have := hs i j (Nat.zero_le _) hij (by omega)
    simp only [ltOf, decide_eq_false_iff_not] at this
    have e1 : d'[j]! = d'.toList[j] := by rw [getElem!_pos d' j (by simpa using hj)]; simp
    have e2 : d'[i]! = d'.toList[i] := by rw [getElem!_pos d' i (by simpa using hi)]; simp
    rw [e1, e2] at this
    omega
  · have hF : flatK enc 6 d' = (flat d'.toList).toArray := by have := flatK_eq d'.toList; simpa using this
    have hfl := flat_length d'.toList
    unfold sortWorldK putRowK
    rw [hF]
    refine ⟨by rw [hfl, hlen'], .inr ⟨g, cap, _, rfl, hbase, heap_sortedK _ hb, h1, h2, by simp [putCells, h3], ?_⟩⟩
    have := take_putCellsK cur (flat d'.toList) (by rw [hfl, hlen', h3]; exact Nat.mul_le_mul_right _ h1)
    rw [hfl, hlen'] at this
    exact this
  · exact grownBy_sortedK _
end Go.Proofs.YtahdlejgjcjeoabGreatDoor

namespace Go.Proofs.YtahdlejgjcjeoabGreatDoor
open Go.RowKit Go.Maps

/-- All that a state has are slots and grades of atoms that may be. -/
def MayMap (M : Sl → Option Gr) : Prop := ∀ s g, M s = some g → ∃ a, mayB a = true ∧ slot a = s ∧ grade a = g
/-- An atom of a state. -/
def InM (M : Sl → Option Gr) (a : At) : Prop := mayB a = true ∧ M (slot a) = some (grade a)

theorem int_cell_wf (d : Nat) (n : Int) (ls : List Lit) (h : Tryz.prog.keyLits (d + 1) 3 [.int .i64 n] = some ls) : (Lit.int .i64 n).wf = true := by
  unfold Program.keyLits at h
  simp only [Tryz.underlying3] at h
  split at h
  · rename_i hc; exact hc.2
  · cases h
theorem string_cell_le (d : Nat) (s : ByteArray) (ls : List Lit) (h : Tryz.prog.keyLits (d + 1) 9 [.string s] = some ls) : s.size ≤ maxLen := by
  unfold Program.keyLits at h
  simp only [Tryz.underlying9] at h
  split at h
  · assumption
  · cases h
theorem slot_ok_of_key (s : Sl) (kl : Lit) (h : keyOf Tryz.prog 211 s.val = some kl) : s.ok ∧ kl = s.lit := by
  have hok : s.ok := by
    unfold keyOf at h
    simp only [Tryz.underlying211, keyTypeSlot, Bool.true_and] at h
    split at h
    · obtain ⟨d, hd⟩ := typesSize
      rw [hd, Option.map_eq_some_iff] at h
      obtain ⟨ls, hls, _⟩ := h
      simp only [Sl.val, Value.cells] at hls
      unfold Program.keyLits at hls
      simp only [Tryz.underlying211, cellsSlot] at hls
      split at hls
      · simp only [List.mapM_cons, List.mapM_nil, Option.map_eq_some_iff, Option.bind_eq_bind, Option.bind_eq_some_iff, cellsInt, cellsString, List.drop_zero, List.take_succ_cons, List.take_zero, List.drop_succ_cons, Option.pure_def] at hls
        obtain ⟨xs, ⟨x0, k0, y0, ⟨x1, k1, y1, ⟨x2, k2, y2, ⟨x3, k3, y3, ⟨x4, k4, _⟩, _⟩, _⟩, _⟩, _⟩, _⟩ := hls
        exact ⟨int_cell_wf d _ _ k0, string_cell_le d _ _ k1, int_cell_wf d _ _ k2, int_cell_wf d _ _ k3, string_cell_le d _ _ k4⟩
      · cases hls
    · cases h
  exact ⟨hok, by have := keyOf_slot s hok; rw [h] at this; exact Option.some.inj this⟩

theorem lit_same (s : Sl) : s.lit.sameKey s.lit = true := by simp [Sl.lit, Lit.sameKey]

/-- What has been gathered while the keys 'left' are still to come. -/
structure Coll (M : Sl → Option Gr) (left : Lit → Bool) (C : List At) : Prop where
  apart : C.Pairwise (fun x y => plc x y ≠ 0)
  mem : ∀ a, a ∈ C ↔ InM M a ∧ left (slot a).lit = false

theorem plc_slot {a b : At} (h : plc a b = 0) : slot a = slot b := by rw [plc_eq, scmp_zero] at h; exact h

theorem Coll.step {M : Sl → Option Gr} {left : Lit → Bool} {C : List At} (h : Coll M left C) {a : At} (ha : InM M a) (hl : left (slot a).lit = true) (hok : ∀ s g, M s = some g → s.ok) :
    Coll M (fun z => left z && !z.sameKey (slot a).lit) (C ++ [a]) where
  apart := by
    rw [List.pairwise_append]
    refine ⟨h.apart, List.pairwise_singleton _ _, fun x hx y hy => ?_⟩
    rw [List.mem_singleton] at hy
    subst hy
    intro e
    have := ((h.mem x).1 hx).2
    rw [plc_slot e, hl] at this
    cases this
  mem b := by
    rw [List.mem_append, List.mem_singleton, h.mem b]
    constructor
    · rintro (⟨h1, h2⟩ | rfl)
      · exact ⟨h1, by rw [h2]; rfl⟩
      · exact ⟨ha, by rw [lit_same]; simp⟩
    · rintro ⟨h1, h2⟩
      by_cases e : slot b = slot a
      · right
        obtain ⟨hb1, hb2⟩ := h1
        obtain ⟨ha1, ha2⟩ := ha
        rw [e, ha2] at hb2
        rw [← unite_eq b hb1, ← unite_eq a ha1, e, Option.some.inj hb2]
      · left
        refine ⟨h1, ?_⟩
        have hne : (slot b).lit ≠ (slot a).lit := fun e' => e (Sl.lit_inj (hok _ _ h1.2) (hok _ _ ha.2) e')
        rw [Maps.sameKey_ne hne] at h2
        simpa using h2

/-- The sorted list of a state's atoms. -/
structure TellOf (M : Sl → Option Gr) (out : List At) : Prop where
  sorted : out.Pairwise (fun x y => plc x y < 0)
  mem : ∀ a, a ∈ out ↔ InM M a

theorem tell_of {M : Sl → Option Gr} {left : Lit → Bool} {C C' : List At} (h : Coll M left C) (hl : ∀ kl, left kl = false) (hp : C'.Perm C) (hs : C'.Pairwise (fun x y => 0 ≤ acmp y x)) : TellOf M C' where
  sorted := by
    have hap : C'.Pairwise (fun x y => plc x y ≠ 0) := (hp.pairwise_iff (fun {x y} hxy e => hxy (plc_symm e))).2 h.apart
    refine List.Pairwise.imp₂ (fun {x y} h1 h2 => ?_) hap hs
    have h3 : plc y x ≠ 0 := fun e => h1 (plc_symm e)
    rw [acmp_plc y x h3] at h2
    have := plc_tp.anti x y
    omega
  mem a := by
    rw [hp.mem_iff, h.mem a]
    exact ⟨fun h => h.1, fun h => ⟨h, hl _⟩⟩

end Go.Proofs.YtahdlejgjcjeoabGreatDoor

namespace Go.Proofs.YtahdlejgjcjeoabGreatDoor
open Go.RowKit

structure Holds2 (M : Sl → Option Gr) (l : List At) : Prop where
  only : ∀ s g, M s = some g → ∃ a ∈ l, slot a = s ∧ grade a = g
  top : ∀ a ∈ l, ∃ g, M (slot a) = some g ∧ gcmp (grade a) g ≤ 0

theorem holds_none : Holds2 (fun _ => none) [] := ⟨fun s g h => (by cases h), fun a h => (by cases h)⟩
theorem Holds2.add {M : Sl → Option Gr} {l : List At} (h : Holds2 M l) (a : At) : Holds2 (addA M a) (l ++ [a]) where
  only s g hs := by
    unfold addA upd at hs
    split at hs
    · rename_i he
      obtain rfl := (scmp_zero _ _).1 he
      cases hs
      split
      · exact ⟨a, by simp, rfl, rfl⟩
      · rename_i g0 hM
        split
        · exact ⟨a, by simp, rfl, rfl⟩
        · obtain ⟨b, hb, h1, h2⟩ := h.only _ _ hM
          exact ⟨b, by simp [hb], h1, h2⟩
    · obtain ⟨b, hb, h1, h2⟩ := h.only _ _ hs
      exact ⟨b, by simp [hb], h1, h2⟩
  top b hb := by
    rw [List.mem_append, List.mem_singleton] at hb
    unfold addA upd
    by_cases he : slot b = slot a
    · rw [if_pos ((scmp_zero _ _).2 he)]
      refine ⟨_, rfl, ?_⟩
      rcases hb with hb | rfl
      · obtain ⟨g, hg, hle⟩ := h.top b hb
        rw [he] at hg
        rw [hg]
        dsimp only
        split
        · rename_i hlt; exact gcmp_tp.trans _ _ _ hle (by omega)
        · exact hle
      · split
        · rw [gcmp_tp.refl]; omega
        · rename_i g0 _
          split
          · rw [gcmp_tp.refl]; omega
          · have := gcmp_tp.anti (grade b) g0; omega
    · rw [if_neg (fun e => he ((scmp_zero _ _).1 e))]
      rcases hb with hb | rfl
      · exact h.top b hb
      · exact absurd rfl he
theorem addTo_append (M : Sl → Option Gr) (l r : List At) : addTo M (l ++ r) = addTo (addTo M l) r := by simp [addTo]
theorem Holds2.addTo {M : Sl → Option Gr} {l : List At} (h : Holds2 M l) : ∀ r : List At, Holds2 (addTo M r) (l ++ r) := by
  intro r
  induction r generalizing M l with
  | nil => simpa [Go.Proofs.YtahdlejgjcjeoabGreatDoor.addTo] using h
  | cons a r ih =>
    have := ih (h.add a)
    rw [List.append_assoc] at this
    exact this
theorem holds_list (l : List At) : Holds2 (addTo (fun _ => none) l) l := by simpa using holds_none.addTo l

theorem Holds2.mayMap {M : Sl → Option Gr} {l : List At} (h : Holds2 M l) (hl : ∀ a ∈ l, mayB a = true) : MayMap M := by
  intro s g hs
  obtain ⟨a, ha, h1, h2⟩ := h.only s g hs
  exact ⟨a, hl a ha, h1, h2⟩

theorem Holds2.told {M : Sl → Option Gr} {l out : List At} (h : Holds2 M l) (hl : ∀ a ∈ l, mayB a = true) (ht : TellOf M out) : IsTold l out where
  sorted := ht.sorted
  great x hx := by
    obtain ⟨hmx, hMx⟩ := (ht.mem x).1 hx
    obtain ⟨a, ha, h1, h2⟩ := h.only _ _ hMx
    have hax : a = x := by rw [← unite_eq a (hl a ha), ← unite_eq x hmx, h1, h2]
    refine ⟨hax ▸ ha, fun y hy hp => ?_⟩
    obtain ⟨g, hg, hle⟩ := h.top y hy
    rw [plc_slot hp, hMx] at hg
    rw [grd_eq y x (plc_ty hp), Option.some.inj hg]
    exact hle
  all y hy := by
    obtain ⟨g, hg, _⟩ := h.top y hy
    obtain ⟨a, ha, h1, h2⟩ := h.only _ _ hg
    refine ⟨a, (ht.mem a).2 ⟨hl a ha, by rw [h1, h2]; exact hg⟩, ?_⟩
    rw [plc_eq, scmp_zero, h1]

end Go.Proofs.YtahdlejgjcjeoabGreatDoor

namespace Go.Proofs.YtahdlejgjcjeoabGreatDoor
open Go.RowKit

theorem mem_insertW {H : Type} (x y : Lit × DataW H) : ∀ l : List (Lit × DataW H), y ∈ DataW.insert x l ↔ y = x ∨ y ∈ l
  | [] => by simp [DataW.insert]
  | z :: r => by
    unfold DataW.insert
    split
    · simp
    · rw [List.mem_cons, mem_insertW x y r, List.mem_cons]
      constructor
      · rintro (h | h | h)
        · exact .inr (.inl h)
        · exact .inl h
        · exact .inr (.inr h)
      · rintro (h | h | h)
        · exact .inr (.inl h)
        · exact .inl h
        · exact .inr (.inr h)
theorem mem_sortW {H : Type} (y : Lit × DataW H) : ∀ l : List (Lit × DataW H), y ∈ l → y ∈ l.foldr DataW.insert []
  | x :: r, h => by
    rw [List.foldr_cons, mem_insertW]
    rcases List.mem_cons.1 h with h | h
    · exact .inl h
    · exact .inr (mem_sortW y r h)
theorem StMap.shrink {w : World} {b n : Nat} {M : Sl → Option Gr} (h : StMap w b n M) (L : List Sl) (hL : ∀ s g, M s = some g → s ∈ L) : StMap w b L.length M := by
  obtain ⟨D, ⟨es, clock, h1, F, hs, hD⟩, h2, h3⟩ := h
  refine ⟨D, ⟨es, clock, h1, F, ?_, hD⟩, h2, h3⟩
  have hlen : (es.toList.map (·.key)).length ≤ (L.map Sl.val).length := by
    refine length_le_of_sub F.stamped.2.2 ?_
    intro key hk
    obtain ⟨x, hx, rfl⟩ := List.mem_map.1 hk
    obtain ⟨y, hy⟩ := F.reads x hx
    have hkey := Go.WideElems.rd_key hy
    obtain ⟨s, hsv⟩ := slot_key_inv _ _ hkey
    rw [hsv] at hkey ⊢
    obtain ⟨hok, hlit⟩ := slot_ok_of_key s _ hkey
    refine List.mem_map.2 ⟨s, ?_, rfl⟩
    cases hM : M s with
    | some g => exact hL s g hM
    | none =>
      exfalso
      have hf := h2 s hok hM
      have : Maps.has D s.lit = true := by
        rw [hD, Maps.has_eq, List.any_eq_true]
        refine ⟨y, mem_sortW y _ (List.mem_map.2 ⟨x, hx, Go.WideElems.rg_of hy⟩), ?_⟩
        rw [hlit]
        simp [Lit.sameKey, Sl.lit]
      rw [hf] at this
      cases this
  simpa using hlen
/-- Of atoms out of U there are no more slots than atoms. -/
theorem StMap.shrinkU {w : World} {b n : Nat} {l U : List At} (h : StMap w b n (addTo (fun _ => none) l)) (hs : ∀ a ∈ l, a ∈ U) : StMap w b U.length (addTo (fun _ => none) l) := by
  have := h.shrink (U.map slot) fun s g hM => by
    obtain ⟨a, ha, h1, _⟩ := (holds_list l).only s g hM
    exact List.mem_map.2 ⟨a, hs a ha, h1⟩
  rwa [List.length_map] at this
end Go.Proofs.YtahdlejgjcjeoabGreatDoor

namespace Go.Proofs.YtahdlejgjcjeoabGreatDoor
open Go.RowKit Go.Maps

theorem owns_grown {w w' : World} {base r : Nat} {e : TypeId} {s n : Nat} {v : Value} {xs : List Value} (h : w.ownsRow base e s v n xs) (hg : w.grownBy w' (some r)) (hr : r < base) : w'.ownsRow base e s v n xs := by
  obtain ⟨h0, h⟩ := h
  refine ⟨h0, ?_⟩
  rcases h with h | ⟨g, cap, cur, hv, hgb, hh, k⟩
  · exact .inl h
  · exact .inr ⟨g, cap, cur, hv, hgb, by rw [hg.block g (Array.getElem?_eq_some_iff.1 hh).1 (fun e => by cases e; omega)]; exact hh, k⟩
theorem ne_own {w : World} {base : Nat} {e : TypeId} {s n : Nat} {v : Value} {xs : List Value} (h : w.ownsRow base e s v n xs) : ∀ q, q < base → some q ≠ v.ownBlock := by
  intro q hq e'
  have := owns_base h q e'.symm
  omega
theorem unite_exp (s : Sl) (g : Gr) (w : World) (h : RulesAt w) (h1 : 1 ≤ s.ty) (h5 : s.ty ≤ 5) :
    Calls Tryz.prog 148 #[.agg #[.int .i64 s.ty, .string s.key, .int .i64 s.side, .int .i64 s.who, .string s.elem], .agg #[.int .i64 g.n, .int .i64 g.who, .string g.elem]] w fun e w' => e = .returned (.agg #[.int .i64 (unite s g).ty, .string (unite s g).key, .int .i64 (unite s g).side, .int .i64 (unite s g).who, .string (unite s g).elem, .int .i64 (unite s g).n]) ∧ Below w.heap.size w w' := unite_any s g w h h1 h5

set_option maxRecDepth 100000 in
set_option maxHeartbeats 2000000 in
theorem tell_any (b n : Nat) (M : Sl → Option Gr) (w : World) (hr : RulesAt w) (hm : StMap w b n M) (hmm : MayMap M) (hn : n ≤ 8388608) :
    Calls Tryz.prog 102 #[.map (some b)] w fun e w' => ∃ v' out, e = .returned v' ∧ w'.ownsRow w.heap.size 76 6 v' out.length (flat out) ∧ Hid (TellOf M out) ∧ Below w.heap.size w w' := by
  obtain ⟨D, hown, h2, h3⟩ := hm
  have HR : Hid (RulesAt w) := hr
  have HMM : Hid (MayMap M) := hmm
  have H2 : Hid (∀ s : Sl, s.ok → M s = none → Maps.has D s.lit = false) := h2
  have H3 : Hid (∀ s g, M s = some g → s.ok ∧ Maps.has D s.lit = true ∧ ∀ z, D.atKey s.lit z = g.dat) := h3
  have hsz := hown.size_le
  clear hr hmm h2 h3
  obtain ⟨i0, hi, hz0, hz1, hz2⟩ := info_parts infoAtom
  have hbw := hown.lt
  go_enter Tryz.func102, Tryz.ntmps102
  go_wp2_with (at_range; refine wpList_range_own _ rfl _ 122 rfl 211 213 slotKeyed Tryz.underlying122 grElem b n D rfl hown ?_; intro w0 hrg0 hg0 hs0)
  go_frame
  have hb0 : Below w.heap.size w w0 := (Below.refl _ w).grown hg0 (Nat.le_refl _) (fun k hk => by cases hk)
  go_loopw [3, 4] (fun v _ wr => ∃ (left : Lit → Bool) (cnt : Nat) (C : List At), wr.ranges Tryz.prog 211 grElem b w.heap.size n D left cnt ∧ wr.ownsRow (w.heap.size + 1) 76 6 v C.length (flat C) ∧ Hid (Coll M left C) ∧ C.length + cnt ≤ n ∧ Below w.heap.size w wr) (fun _ _ wr => wr.rangeLeft b w.heap.size)
  case atStart =>
    refine ⟨Maps.has D, Maps.size D, [], hrg0, by simp [flat, World.ownsRow], ⟨.nil, fun a => ?_⟩, by simpa using hsz, hb0⟩
    constructor
    · intro h; cases h
    · rintro ⟨h1, h2⟩
      have := (H3.out _ _ h1.2).2.1
      rw [this] at h2; cases h2
  case round =>
    obtain ⟨left, cnt, C, hrg, hrow, hC, hcnt, hbr⟩ := hrel
    go_wp2_with (at_next; refine wpList_next_ranges _ rfl _ rfl 211 slotKeyed grElem (fun s : Sl => .agg #[.int .i64 s.ty, .string s.key, .int .i64 s.side, .int .i64 s.who, .string s.elem]) (fun g : Gr => .agg #[.int .i64 g.n, .int .i64 g.who, .string g.elem]) slot_key_inv (fun v y hv => by obtain ⟨g, rfl, _⟩ := grElem_inv hv; exact ⟨g, rfl⟩) b w.heap.size n D left cnt rfl hrg ?_ ?_)
    · intro _ hl0
      have HL0 : Hid (∀ kl, left kl = false) := hl0
      clear hl0 hi hz0 hz1 hz2
      rcases hrow.2 with ⟨hv, hC0⟩ | ⟨g, cap, cur, hv, hbase, hblk, h1, h2, h3, h4⟩
      · subst hv
        obtain rfl := List.length_eq_zero_iff.1 hC0
        have hsn := fun W => AnyF.slices_SortFunc_none (P := Tryz.prog) sortAtoms none 0 (.func (.func 150) #[] #[]) W
        go_wp2_with fail
        refine Calls.mono (show Calls Tryz.prog 149 _ _ _ from hsn _) ?_
        rintro e w5 ⟨rfl, rfl⟩
        clear hsn
        go_wp2
        go_ret
        exact ⟨_, [], rfl, by simp [flat, World.ownsRow], tell_of hC.out HL0.out (List.Perm.refl _) .nil, hbr⟩
      · subst hv
        have hso := sort_any (w.heap.size + 1) g cap C wr hrow (by omega)
        clear h4
        go_wp2_with fail
        refine hso.mono ?_
        rintro e w5 ⟨rfl, C', hperm, hsorted, hown5, hg5⟩
        have HTL : Hid (TellOf M C') := tell_of hC.out HL0.out hperm hsorted
        have hl5 : C.length = C'.length := hperm.length_eq.symm
        have hfin : w5.ownsRow w.heap.size 76 6 (.slice (some ⟨g, 0, none⟩) C.length cap) C'.length (flat C') := by rw [← hl5]; exact owns_mono hown5 (by omega)
        have hb5 : Below w.heap.size w w5 := hbr.grown hg5 hbr.size (fun k hk => by cases hk; omega)
        clear hso hperm hsorted hown5 hg5 hl5
        go_wp2
        go_ret
        exact ⟨_, C', rfl, hfin, HTL, hb5⟩
    · intro x c kl yd yp w2 cnt2 hkey hlk hv hat hrg2 hlt hg2 hs2 hen
      obtain ⟨hxok, rfl⟩ := slot_ok_of_key x kl hkey
      have hMx : M x = some c := by
        obtain ⟨g', hg', hz'⟩ := grElem_inv hv
        cases hM : M x with
        | none =>
          have hh := H2.out x hxok hM
          rw [Maps.has_true_of_atKey hat] at hh
          cases hh
        | some g0 =>
          have := (H3.out x g0 hM).2.2 .nil
          rw [hat] at this
          have hcc : grElem c.val = some (c.dat, []) := grElem_mk c
          have hv' : grElem c.val = some (yd, yp) := hv
          rw [hcc] at hv'
          simp only [Option.some.injEq, Prod.mk.injEq] at hv'
          rw [Gr.dat_inj (hv'.1.trans this)]
      obtain ⟨a, ha, rfl, rfl⟩ := HMM.out x c hMx
      have hu := unite_eq a ha
      have hty := ty_of_may ha
      rw [← slot_ty a] at hty
      have HC2 : Hid (Coll M (fun z => left z && !z.sameKey (slot a).lit) (C ++ [a])) := hC.out.step ⟨ha, hMx⟩ hlk (fun s g h => (H3.out s g h).1)
      have hft := flat_snoc C a
      have HF : Hid (flat (C ++ [a]) = flat C ++ enc a) := hft
      have hsz2 : wr.heap.size ≤ w2.heap.size := by omega
      clear hkey hat hv hMx hs2 hft hxok hlk
      have hbr2 : Below w.heap.size w w2 := hbr.grown hg2 hbr.size (fun k hk => by cases hk; exact Nat.le_refl _)
      have hrow2 := owns_grown hrow hg2 (Nat.lt_succ_self _)
      have HL : Hid (wr.rangeLeft b w.heap.size = cnt) := hrg.left_eq
      clear hg2 hrow hrg
      have HUN : Hid (unite (slot a) (grade a) = a) := hu
      clear hu
      have hlink : ∀ W, RulesAt W → Calls Tryz.prog 148 #[.agg #[.int .i64 (slot a).ty, .string (slot a).key, .int .i64 (slot a).side, .int .i64 (slot a).who, .string (slot a).elem], .agg #[.int .i64 (grade a).n, .int .i64 (grade a).who, .string (grade a).elem]] W fun e w' => e = .returned (.agg #[.int .i64 a.ty, .string a.key, .int .i64 a.side, .int .i64 a.who, .string a.elem, .int .i64 a.n]) ∧ Below W.heap.size W w' := by
        intro W hW
        have := unite_exp (slot a) (grade a) W hW hty.1 hty.2
        rw [HUN.out] at this
        exact this
      clear hty ha HUN
      generalize (slot a).lit = kl at *
      generalize slot a = x at *
      generalize grade a = c at *
      have HLK : Hid (∀ W, RulesAt W → Calls Tryz.prog 148 #[.agg #[.int .i64 x.ty, .string x.key, .int .i64 x.side, .int .i64 x.who, .string x.elem], .agg #[.int .i64 c.n, .int .i64 c.who, .string c.elem]] W fun e w' => e = .returned (.agg #[.int .i64 a.ty, .string a.key, .int .i64 a.side, .int .i64 a.who, .string a.elem, .int .i64 a.n]) ∧ Below W.heap.size W w') := hlink
      clear hlink
      go_wp2_with fail
      refine (HLK.out _ ?hrl).mono ?_
      case hrl => exact HR.out.below (below_alloc (below_alloc hbr2 _) _) HR.out.1
      rintro e w3 ⟨rfl, hb3⟩
      have hbr3 : Below w.heap.size w w3 := (below_alloc (below_alloc hbr2 _) _).trans (hb3.mono (by simp; have := hbr2.size; omega))
      have hrow3 := owns_below ((hrow2.alloc _).alloc _) hb3
      have hrg3 := ((hrg2.alloc _).alloc _).kept (below_grown hb3 none) (by simp) (by simp)
      have hsz3 := hbr3.size
      have hsb3 : w.heap.size + 1 ≤ w3.heap.size := by have := hrg3.lt; omega
      clear hb3 hrow2 hrg2 hbr2 hen HLK
      go_wp2_with (at_builtin; refine wpList_append_lies _ rfl _ _ 53 rfl (w.heap.size + 1) 76 i0 _ 6 64 Tryz.underlying53 hi hz0 hz1 hz2 rfl (by decide) _ C.length _ rfl (hrow3.alloc _) ⟨w3.heap.size, 0, none⟩ 1 1 (enc a) rfl rfl (news_at w3 a _) (enc_oneCell a) (by decide) (by unfold maxLen; omega) (by omega) (by simp; omega) (w3.heap.size + 1) (by simp) ?_; intro g capn w4 hown4 hgrow4 hat4 hlt4)
      have hne := ne_own hrow3
      have hrg4 := (hrg3.alloc _).kept hgrow4 (hne b (by omega)) (hne w.heap.size (by omega))
      clear hne
      go_roundw
      case rel => exact ⟨_, cnt2, C ++ [a], hrg4, by rw [HF.out, List.length_append]; exact hown4, HC2, by simp; omega, (below_alloc hbr3 _).grown hgrow4 (by simp; omega) (fun q hq => by have := owns_base hrow3 q hq; omega)⟩
      case measure => rw [hrg4.left_eq, HL.out]; exact hlt
end Go.Proofs.YtahdlejgjcjeoabGreatDoor

namespace Go.Proofs.YtahdlejgjcjeoabGreatDoor
open Go.RowKit

theorem owns_onlyB {w w' : World} {base : Nat} {e : TypeId} {s n : Nat} {v : Value} {xs : List Value} (h : w.ownsRow base e s v n xs) (hb : OnlyB w w') (he : e ≠ 5) : w'.ownsRow base e s v n xs := by
  obtain ⟨h0, h⟩ := h
  refine ⟨h0, ?_⟩
  rcases h with h | ⟨g, cap, cur, hv, hgb, hh, k⟩
  · exact .inl h
  · exact .inr ⟨g, cap, cur, hv, hgb, hb.heap hh he, k⟩

/-- string(out) of bytes that are there. -/
theorem buf_string {B : Nat} {w : World} {v : Value} {xs : List UInt8} (h : Buf B w v xs) (hp : 0 < xs.length) : ∃ b cap, v = .slice (some ⟨b, 0, none⟩) xs.length cap ∧ (convert 124 9 v).run Tryz.prog w = .ok (.string (bstr xs)) w := by
  have ho := h.1
  rcases ho.2 with ⟨_, h1⟩ | ⟨g, cap, cur, hv, _, hh, h1, h2, h3, h4⟩
  · omega
  · refine ⟨g, cap, hv, ?_⟩
    rw [hv, ← bstr_nums]
    refine run_convert_bytes_arg w 124 5 Tryz.underlying124 Tryz.underlying5 g 0 xs.length cap _ (by simp) (fun i hi => ?_) 9 Tryz.underlying9
    have := ho.cells (g := g) (by rw [hv]; rfl) i (.int .u8 (xs[i].toNat : Int)) (by simp [bcells, hi])
    have hadd : (⟨g, 0, none⟩ : Addr).add i = ⟨g, 0 + i, none⟩ := by unfold Addr.add; split <;> simp_all
    rw [hadd] at this
    rw [this]
    simp [List.getD, hi]

theorem encL_length : ∀ l : List At, (∀ a ∈ l, fit2 a) → (encL l).length ≤ 21 * l.length
  | [], _ => Nat.le_refl _
  | a :: l, h => by
    have h1 := (encA_length a (h a (by simp))).1
    have h2 := encL_length l (fun x hx => h x (by simp [hx]))
    have e : encL (a :: l) = encA a ++ encL l := by simp [encL]
    rw [e, List.length_append, List.length_cons]
    omega

set_option maxRecDepth 100000 in
set_option maxHeartbeats 2000000 in
theorem encode_yes (v : Value) (l : List At) (w : World) (hr : RulesAt w) (h1 : SliceOf w v l) (hs1 : ∀ a ∈ l, short a) (hlen : l.length ≤ 8388608) (hl : l.all mayB = true) :
    Calls Tryz.prog 166 #[v] w fun e w' => ∃ out, e = .returned (.tuple #[.string (bstr (be out.length 8 ++ encL out)), .int .i64 0]) ∧ Hid (IsTold l out) ∧ Below w.heap.size w w' := by
  have hc1 := of_yes v l w hr h1 hs1 (by omega) hl
  have HA : Hid (∀ a ∈ l, mayB a = true) := List.all_eq_true.1 hl
  have HR : Hid (RulesAt w) := hr
  clear h1 hs1 hl hr
  go_enter Tryz.func166, Tryz.ntmps166
  go_wp2_with fail
  refine hc1.mono ?_
  rintro e w1 ⟨b, rfl, hbb, hst, hb1⟩
  have hh := holds_list l
  have hmay := hh.mayMap HA.out
  have HTL : Hid (∀ out, TellOf (addTo (fun _ => none) l) out → IsTold l out) := fun out ht => hh.told HA.out ht
  have hcon := tell_any b l.length _ w1 (HR.out.below hb1 HR.out.1) hst hmay (by omega)
  clear hst hh hmay hc1
  generalize addTo (fun _ => none) l = M at *
  go_wp2_with fail
  refine hcon.mono ?_
  rintro e w2 ⟨v2, out, rfl, hown2, ht, hb2⟩
  have hbw2 : Below w.heap.size w w2 := hb1.trans (hb2.mono hb1.size)
  have HT2 : Hid (IsTold l out) := HTL.out out ht.out
  have hlo := length_le_of_sub (sorted_ne HT2.out.sorted) (fun x hx => (HT2.out.great x hx).1)
  have HF : Hid (∀ a ∈ out, fit2 a) := fun a ha => fit2_of_may (HA.out a (HT2.out.great a ha).1)
  have HO2 : Hid (w2.ownsRow w1.heap.size 76 6 v2 out.length (flat out)) := hown2
  clear hcon hb2 ht HTL
  obtain ⟨ad, cap, rfl, hcap, -⟩ := sliceOf_owns rfl hown2
  clear hown2
  go_wp2_with fail
  have hc3 := appendNumber_int w2.heap.size (.slice none 0 0) [] (out.length : Int) 8 w2 ⟨⟨rfl, .inl ⟨rfl, rfl⟩⟩, Nat.le_refl _⟩ (by omega) (by omega) (by omega) (by simp)
  refine hc3.mono ?_
  rintro e w3 ⟨v3, rfl, hb3, hbw3, hob3⟩
  rw [show ((out.length : Int)).toNat = out.length by omega, List.nil_append] at hb3
  have HO3 : Hid (w3.ownsRow w1.heap.size 76 6 (.slice ad out.length cap) out.length (flat out)) := owns_onlyB HO2.out hob3 (by decide)
  have hbW3 : Below w.heap.size w w3 := hbw2.trans (hbw3.mono hbw2.size)
  have hz3 := hbw3.size
  clear hc3 HO2 hob3
  go_wp2
  go_loopw [7, 25] (fun v' j wr => ∃ k : Nat, k ≤ out.length ∧ j = .int .i64 k ∧ Hid (Buf w2.heap.size wr v' (be out.length 8 ++ encL (out.take k))) ∧ Below w.heap.size w wr ∧ Hid (OnlyB w3 wr)) (fun _ j _ => out.length - (intOf j).toNat)
  case atStart => exact ⟨0, Nat.zero_le _, rfl, by simpa [Hid, encL] using hb3.out, hbW3, OnlyB.refl _⟩
  case round =>
    obtain ⟨k, hk, rfl, hbuf, hbr, hob⟩ := hrel
    by_cases hlk : k < out.length
    · obtain ⟨ad', cap', e', -, HS⟩ := sliceOf_owns rfl (owns_onlyB HO3.out hob.out (by decide))
      cases e'
      obtain ⟨bt, off, rfl, hbt, hrow⟩ := HS (by omega)
      have hfa := HF.out _ (nth_mem out k hlk)
      obtain ⟨c0, c1, c2, c3, c4, c5⟩ := hrow.nth hlk
      have hsn : encL (out.take (k + 1)) = encL (out.take k) ++ encA (nth out k) := by rw [List.take_succ_eq_append_getElem hlk, encL_snoc, nth_eq out k hlk]
      have hle := encL_length (out.take k) (fun a ha => HF.out a (List.mem_of_mem_take ha))
      have hlt := List.length_take_le k out
      generalize nth out k = a at *
      have HSN : Hid (be out.length 8 ++ encL (out.take (k + 1)) = (be out.length 8 ++ encL (out.take k)) ++ encA a) := by rw [Hid, hsn, List.append_assoc]
      have hyl : (be out.length 8 ++ encL (out.take k)).length ≤ 549755813888 := by rw [List.length_append, be_length]; omega
      clear hrow hsn hle hlt HS
      generalize be out.length 8 ++ encL (out.take k) = ys at *
      have hB := hbuf.out.2
      have hcA := fun o => appendAtom_any w2.heap.size _ ys a (wr.alloc o) ⟨hbuf.out.1.alloc _, by simp; omega⟩ (by simp; omega) hfa hyl
      go_wp2_with fail
      refine (hcA _).mono ?_
      rintro e w4 ⟨v4, rfl, hb4, hbw4, hob4⟩
      have hbW4 : Below w.heap.size w w4 := (below_alloc hbr _).trans (hbw4.mono hbw2.size)
      have HOB : Hid (OnlyB w3 w4) := (hob.out.alloc _).trans hob4
      clear hcA hbw4 hob4 hbuf c0 c1 c2 c3 c4 c5
      go_wp2
      exact ⟨⟨k + 1, by omega, by go_num, by rw [Hid, HSN.out]; exact hb4.out, hbW4, HOB⟩, by simp [intOf]; omega⟩
    · have hkl : k = out.length := by omega
      subst hkl
      have hfin := hbuf.out
      rw [List.take_length] at hfin
      obtain ⟨bb, cp, hv, hcv⟩ := buf_string hfin (by rw [List.length_append, be_length]; omega)
      subst hv
      clear hbuf hfin
      generalize hys : be out.length 8 ++ encL out = ys at *
      have HYS : Hid (be out.length 8 ++ encL out = ys) := hys
      clear hys
      go_wp2
      go_ret2
      exact ⟨out, by rw [HYS.out]; rfl, HT2, hbr⟩
set_option maxRecDepth 100000 in
set_option maxHeartbeats 2000000 in
theorem encode_no (v : Value) (l : List At) (w : World) (hr : RulesAt w) (h1 : SliceOf w v l) (hs1 : ∀ a ∈ l, short a) (hlen : l.length ≤ 8388608) (hl : l.all mayB = false) :
    Calls Tryz.prog 166 #[v] w fun e w' => e = .returned (.tuple #[.string (bstr []), .int .i64 1]) ∧ Below w.heap.size w w' := by
  have hc1 := of_no v l w hr h1 hs1 (by omega) hl
  clear h1 hs1 hl hr
  go_enter Tryz.func166, Tryz.ntmps166
  go_wp2_with fail
  refine hc1.mono ?_
  rintro e w1 ⟨rfl, hb1⟩
  clear hc1
  go_wp2
  go_ret2
  exact ⟨rfl, hb1⟩
end Go.Proofs.YtahdlejgjcjeoabGreatDoor

namespace Go.Proofs.YtahdlejgjcjeoabGreatDoor
open Go.RowKit

theorem adA_snoc (l : List UInt8) (c : UInt8) : adA (l ++ [c]) = (((adA l).1 + c.toNat) % 65521, (((adA l).1 + c.toNat) % 65521 + (adA l).2) % 65521) := by simp [adA]
theorem adA_lt (l : List UInt8) : (adA l).1 < 65521 ∧ (adA l).2 < 65521 := by
  rcases List.eq_nil_or_concat l with rfl | ⟨m, c, rfl⟩
  · decide
  · rw [List.concat_eq_append, adA_snoc]
    exact ⟨Nat.mod_lt _ (by decide), Nat.mod_lt _ (by decide)⟩
theorem adler_lt (l : List UInt8) : adler l < 4294967296 := by
  have := adA_lt l
  unfold adler
  omega
end Go.Proofs.YtahdlejgjcjeoabGreatDoor

namespace Go.Proofs.YtahdlejgjcjeoabGreatDoor
open Go.RowKit

/-- A slice of bytes that can be read. -/
def BytesAt (w : World) (v : Value) (l : List UInt8) : Prop :=
  ∃ ad cap, v = .slice ad l.length cap ∧ l.length ≤ cap ∧ (0 < l.length → ∃ b, ad = some ⟨b, 0, none⟩ ∧ ∀ k (h : k < l.length), w.cell? ⟨b, k, none⟩ = some (.int .u8 (l[k].toNat : Int)))
theorem bytesAt_owns {w : World} {base n : Nat} {v : Value} {l : List UInt8} (hn : n = l.length) (h : w.ownsRow base 5 1 v n (bcells l)) : BytesAt w v l := by
  subst hn
  rcases h.2 with ⟨rfl, h0⟩ | ⟨g, cap, cur, rfl, hg, hb, h1, h2, h3, h4⟩
  · exact ⟨none, 0, by rw [h0], by omega, fun h => by omega⟩
  · refine ⟨_, cap, rfl, h1, fun _ => ⟨g, rfl, fun k hk => ?_⟩⟩
    have := h.cells (g := g) rfl k (.int .u8 (l[k].toNat : Int)) (by simp [bcells, hk])
    rw [Addr.add_lit, Nat.zero_add] at this
    exact this
set_option maxRecDepth 100000 in
set_option maxHeartbeats 1000000 in
theorem prgSum (v : Value) (l : List UInt8) (w : World) (hv : BytesAt w v l) (hl : l.length ≤ 17592186044416) :
    Calls Tryz.prog 168 #[v] w fun e w' => e = .returned (.int .u32 (adler l)) ∧ Below w.heap.size w w' := by
  obtain ⟨ad, cap, rfl, hcap, H⟩ := hv
  have HR : Hid (0 < l.length → ∃ b, ad = some ⟨b, 0, none⟩ ∧ ∀ k (h : k < l.length), w.cell? ⟨b, k, none⟩ = some (.int .u8 (l[k].toNat : Int))) := H
  clear H
  go_enter Tryz.func168, Tryz.ntmps168
  go_wp2
  go_loopw [3, 4, 9] (fun a b i wr => ∃ k : Nat, k ≤ l.length ∧ a = .int .u32 (adA (l.take k)).1 ∧ b = .int .u32 (adA (l.take k)).2 ∧ i = .int .i64 k ∧ Below w.heap.size w wr ∧ Hid (BytesAt wr (.slice ad l.length cap) l)) (fun _ _ i _ => l.length - (intOf i).toNat)
  case atStart => exact ⟨0, Nat.zero_le _, rfl, rfl, rfl, Below.refl _ _, ⟨ad, cap, rfl, hcap, HR.out⟩⟩
  case round =>
    obtain ⟨k, hk, rfl, rfl, rfl, hbw, hby⟩ := hrel
    obtain ⟨ha, hb⟩ := adA_lt (l.take k)
    by_cases hlt : k < l.length
    · have HS : Hid (adA (l.take (k + 1)) = (((adA (l.take k)).1 + l[k].toNat) % 65521, (((adA (l.take k)).1 + l[k].toNat) % 65521 + (adA (l.take k)).2) % 65521)) := by rw [Hid, List.take_succ_eq_append_getElem hlt, adA_snoc]
      have hc := l[k].toNat_lt
      obtain ⟨ad', cap', e', _, H⟩ := hby.out
      cases e'
      obtain ⟨bb, rfl, hcell⟩ := H (by omega)
      have c0 := hcell k hlt
      clear H hcell HR
      generalize (adA (l.take k)).1 = a at *
      generalize (adA (l.take k)).2 = b at *
      generalize l[k] = c at *
      have q1 : (k : Int) < (l.length : Int) := by omega
      have t1 : ((a : Int) + (c.toNat : Int)).tmod 65521 = ((a + c.toNat) % 65521 : Nat) := by rw [Int.tmod_eq_emod_of_nonneg (by omega)]; omega
      have t2 : ((b : Int) + ((a + c.toNat) % 65521 : Nat)).tmod 65521 = (((a + c.toNat) % 65521 + b) % 65521 : Nat) := by rw [Int.tmod_eq_emod_of_nonneg (by omega)]; omega
      go_wp2
      refine ⟨⟨k + 1, by omega, ?_, ?_, by go_num, hbw, hby⟩, by simp [intOf]; omega⟩
      · rw [HS.out]; go_num
      · rw [HS.out]; go_num
    · have hkl : k = l.length := by omega
      subst hkl
      rw [List.take_of_length_le (Nat.le_refl _)] at *
      go_wp2
      go_ret
      refine ⟨ret_int ?_, hbw⟩
      unfold adler
      omega
end Go.Proofs.YtahdlejgjcjeoabGreatDoor
