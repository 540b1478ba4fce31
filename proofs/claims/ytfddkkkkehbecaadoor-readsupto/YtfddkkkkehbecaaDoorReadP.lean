/- Read, as plain lists. No program. -/
import Derived.Test.YtfddkkkkehbecaaDoorElemsW
import Derived.Test.YtfddkkkkehbecaaDoorTellM
namespace Go.Proofs.YtfddkkkkehbecaaDoor
open Go.RowKit

theorem told_inM {M : Sl → Option Gr} {l T : List At} (h : Holds2 M l) (hl : ∀ a ∈ l, mayB a = true) (hT : IsTold l T) : ∀ a, a ∈ T ↔ InM M a := by
  have fwd : ∀ a, a ∈ T → InM M a := by
    intro a ha
    obtain ⟨hal, hg⟩ := hT.great a ha
    obtain ⟨g, hMg, hle⟩ := h.top a hal
    obtain ⟨a', ha', h1, h2⟩ := h.only _ _ hMg
    have hp : plc a' a = 0 := by rw [plc_eq, scmp_zero, h1]
    have h3 := hg a' ha' hp
    rw [grd_eq a' a (plc_ty hp), h2] at h3
    have h4 := gcmp_tp.anti (grade a) g
    have : g = grade a := (gcmp_zero _ _).1 (by omega)
    exact ⟨hl a hal, by rw [hMg, this]⟩
  intro a
  refine ⟨fwd a, fun ⟨hm, hM⟩ => ?_⟩
  obtain ⟨a', ha', h1, h2⟩ := h.only _ _ hM
  have haa : a' = a := by rw [← unite_eq a' (hl a' ha'), ← unite_eq a hm, h1, h2]
  subst haa
  obtain ⟨x, hx, hp⟩ := hT.all a' ha'
  obtain ⟨hxm, hxM⟩ := fwd x hx
  have hs := plc_slot hp
  rw [← hs, hM] at hxM
  have : x = a' := by rw [← unite_eq x hxm, ← unite_eq a' hm, hs, Option.some.inj hxM]
  exact this ▸ hx

/-- The atoms of a type and key. -/
def ofKey (T : List At) (kind : Int) (key : ByteArray) : List At := T.filter fun a => decide (a.ty = kind ∧ a.key = key)
theorem slot_key (a : At) : (slot a).key = a.key := by unfold slot; split <;> rfl
theorem narrow_inM (M : Sl → Option Gr) (kind : Int) (key : ByteArray) (a : At) : InM (narrowM M kind key) a ↔ InM M a ∧ a.ty = kind ∧ a.key = key := by
  unfold InM narrowM
  rw [slot_ty, slot_key]
  by_cases h : a.ty = kind ∧ a.key = key
  · rw [if_pos h]; simp [h]
  · rw [if_neg h]; simp [h]
theorem ne_nodup {C : List At} (h : C.Pairwise (fun x y => plc x y ≠ 0)) : C.Nodup := List.Pairwise.imp (fun {x y} hne => fun e : x = y => by subst e; exact hne (plc_tp.refl x)) h
theorem ofKey_sorted {T : List At} (h : T.Pairwise (fun x y => plc x y < 0)) (kind : Int) (key : ByteArray) : (ofKey T kind key).Pairwise (fun x y => plc x y < 0) := h.filter _
theorem coll_perm {M : Sl → Option Gr} {l T C : List At} {kind : Int} {key : ByteArray} (h : Holds2 M l) (hl : ∀ a ∈ l, mayB a = true) (hT : IsTold l T) (hC : Coll (narrowM M kind key) (fun _ => false) C) : C.Perm (ofKey T kind key) := by
  refine (List.perm_ext_iff_of_nodup (ne_nodup hC.apart) (ne_nodup ((ofKey_sorted hT.sorted kind key).imp fun {x y} h => by omega))).2 fun a => ?_
  rw [hC.mem a, narrow_inM]
  unfold ofKey
  rw [List.mem_filter, told_inM h hl hT a]
  simp
theorem svs_perm {a b : List At} (h : a.Perm b) : svs a = svs b := by
  induction h with
  | nil => rfl
  | cons x _ ih => simp only [svs, List.map_cons, List.sum_cons] at *; rw [ih]
  | swap x y l => simp only [svs, List.map_cons, List.sum_cons]; omega
  | trans _ _ h1 h2 => rw [h1, h2]
theorem elemsOf_perm {M : Sl → Option Gr} {a b : List At} (h : a.Perm b) : (elemsOf M a).Perm (elemsOf M b) := (h.filter _).map _
theorem texts_ext {a b : List ByteArray} (h : a.Perm b) (ha : a.Pairwise (fun x y => ordS x y ≤ 0)) (hb : b.Pairwise (fun x y => ordS x y ≤ 0)) : a = b :=
  List.Perm.eq_of_pairwise (le := fun x y => ordS x y ≤ 0) (fun x y _ _ h1 h2 => (ordS_zero x y).1 (by have := ordS_tp.anti x y; omega)) ha hb h

/-- P7, as the document tells it: what is counted; the elements. -/
def isGone (T : List At) (key e : ByteArray) : Bool := T.any fun y => decide (y.ty = 4 ∧ y.key = key ∧ y.side = 1 ∧ y.elem = e)
def valN (kind : Int) (key : ByteArray) (L : List At) : Int :=
  if kind = 1 ∨ kind = 2 then ((ofKey L kind key).map fun a => a.n * (1 - 2 * a.side)).sum
  else if kind = 5 then ((ofKey L kind key).getLast?.map (·.n)).getD 0 else 0
def keepsE (T : List At) (kind : Int) (key : ByteArray) (a : At) : Bool := decide (kind = 3) || decide (kind = 5) || (decide (kind = 4) && decide (a.side ≠ 1) && !isGone T key a.elem)
def valE (T : List At) (kind : Int) (key : ByteArray) (L : List At) : List ByteArray := ((ofKey L kind key).filter (keepsE T kind key)).map (·.elem)
theorem ofKey_snoc (L : List At) (a : At) (kind : Int) (key : ByteArray) : ofKey (L ++ [a]) kind key = if a.ty = kind ∧ a.key = key then ofKey L kind key ++ [a] else ofKey L kind key := by
  unfold ofKey
  rw [List.filter_append]
  by_cases h : a.ty = kind ∧ a.key = key <;> simp [h]
theorem valE_snoc (T L : List At) (a : At) (kind : Int) (key : ByteArray) : valE T kind key (L ++ [a]) = if (a.ty = kind ∧ a.key = key) ∧ keepsE T kind key a = true then valE T kind key L ++ [a.elem] else valE T kind key L := by
  unfold valE
  rw [ofKey_snoc]
  by_cases h : a.ty = kind ∧ a.key = key
  · by_cases k : keepsE T kind key a = true <;> simp [h, k]
  · simp [h]
theorem valE_length (T L : List At) (kind : Int) (key : ByteArray) : (valE T kind key L).length ≤ L.length := by
  unfold valE ofKey
  rw [List.length_map]
  exact Nat.le_trans (List.length_filter_le _ _) (List.length_filter_le _ _)
theorem valN_skip (L : List At) (a : At) (kind : Int) (key : ByteArray) (h : ¬ (a.ty = kind ∧ a.key = key)) : valN kind key (L ++ [a]) = valN kind key L := by
  unfold valN
  rw [ofKey_snoc, if_neg h]
theorem valN_sum (L : List At) (a : At) (kind : Int) (key : ByteArray) (h : a.ty = kind ∧ a.key = key) (hk : kind = 1 ∨ kind = 2) : valN kind key (L ++ [a]) = valN kind key L + a.n * (1 - 2 * a.side) := by
  unfold valN
  rw [ofKey_snoc, if_pos h, if_pos hk, if_pos hk]
  simp
theorem valN_last (L : List At) (a : At) (key : ByteArray) (h : a.ty = 5 ∧ a.key = key) : valN 5 key (L ++ [a]) = a.n := by
  unfold valN
  rw [ofKey_snoc, if_pos h, if_neg (by omega), if_pos rfl]
  simp
theorem valN_set (L : List At) (kind : Int) (key : ByteArray) (hk : kind = 3 ∨ kind = 4) : valN kind key L = 0 := by
  unfold valN
  rw [if_neg (by omega), if_neg (by omega)]

theorem mem_ofKey {T : List At} {kind : Int} {key : ByteArray} {a : At} : a ∈ ofKey T kind key ↔ a ∈ T ∧ a.ty = kind ∧ a.key = key := by
  unfold ofKey
  rw [List.mem_filter]
  simp
theorem sv_may {a : At} (h : mayB a = true) (ht : a.ty = 1 ∨ a.ty = 2) : sv a = a.n * (1 - 2 * a.side) := by
  unfold sv
  rw [grade_n]
  have hs : (slot a).side = a.side := by unfold slot; rw [if_neg (by omega)]
  have h2 : a.side = 0 ∨ a.side = 1 := by
    simp only [mayB, decide_eq_true_eq] at h
    omega
  rw [hs]
  rcases h2 with h2 | h2 <;> rw [h2] <;> simp
/-- A counter's value. -/
theorem total_val {T : List At} {kind : Int} {key : ByteArray} (hT : ∀ a ∈ T, mayB a = true) (hk : kind = 1 ∨ kind = 2) : svs (ofKey T kind key) = valN kind key T ∧ valE T kind key T = [] := by
  constructor
  · unfold valN svs
    rw [if_pos hk]
    congr 1
    refine List.map_congr_left fun a ha => ?_
    obtain ⟨h1, h2, _⟩ := mem_ofKey.1 ha
    exact sv_may (hT a h1) (by omega)
  · unfold valE
    rw [List.map_eq_nil_iff, List.filter_eq_nil_iff]
    intro a _
    unfold keepsE
    have h1 : ¬ kind = 3 := by omega
    have h2 : ¬ kind = 5 := by omega
    have h3 : ¬ kind = 4 := by omega
    simp [h1, h2, h3]
/-- A set's elements. -/
theorem elems_val {M : Sl → Option Gr} {l T : List At} {kind : Int} {key : ByteArray} (h : Holds2 M l) (hl : ∀ a ∈ l, mayB a = true) (hT : IsTold l T) (hk : kind = 3 ∨ kind = 4) : elemsOf (narrowM M kind key) (ofKey T kind key) = valE T kind key T ∧ (valE T kind key T).Pairwise (fun x y => ordS x y ≤ 0) := by
  have hmt : ∀ a ∈ T, mayB a = true := fun a ha => hl a (hT.great a ha).1
  have hin := told_inM h hl hT
  have hsl : ∀ a ∈ ofKey T kind key, slot a = ⟨kind, key, a.side, 0, a.elem⟩ ∧ a.ty = kind ∧ a.key = key ∧ (a.side = 0 ∨ a.side = 1) ∧ (kind = 3 → a.side = 0) ∧ a.who = 0 := by
    intro a ha
    obtain ⟨h1, h2, h3⟩ := mem_ofKey.1 ha
    have hm := hmt a h1
    have hw : a.who = 0 ∧ (a.side = 0 ∨ a.side = 1) ∧ (kind = 3 → a.side = 0) := by
      simp only [mayB, decide_eq_true_eq] at hm
      omega
    refine ⟨?_, h2, h3, hw.2.1, hw.2.2, hw.1⟩
    unfold slot
    rw [if_neg (by omega), h2, h3, hw.1]
  have hkeep : ∀ a ∈ ofKey T kind key, kept (narrowM M kind key) a = keepsE T kind key a := by
    intro a ha
    obtain ⟨hs, ht, hkey, hside, h3, hw⟩ := hsl a ha
    unfold kept keepsE
    rw [hs]
    have hone : narrowM M kind key (Sl.one ⟨kind, key, a.side, 0, a.elem⟩) = M ⟨kind, key, 1, 0, a.elem⟩ := by unfold narrowM Sl.one; simp
    rw [hone]
    rcases hk with rfl | rfl
    · have hn : M ⟨3, key, 1, 0, a.elem⟩ = none := by
        cases hM : M ⟨3, key, 1, 0, a.elem⟩ with
        | none => rfl
        | some g =>
          obtain ⟨y, hy, e1, e2⟩ := h.only _ _ hM
          have hm := hl y hy
          have ty : y.ty = 3 := by rw [← slot_ty y, e1]
          have sd : y.side = 1 := by
            have : (slot y).side = y.side := by unfold slot; rw [if_neg (by omega)]
            rw [← this, e1]
          simp only [mayB, decide_eq_true_eq] at hm
          omega
      rw [hn, h3 rfl]
      simp
    · have hg : (M ⟨4, key, 1, 0, a.elem⟩).isNone = !isGone T key a.elem := by
        cases hM : M ⟨4, key, 1, 0, a.elem⟩ with
        | none =>
          have : isGone T key a.elem = false := by
            unfold isGone
            rw [List.any_eq_false]
            intro y hy
            simp only [decide_eq_true_eq]
            rintro ⟨y1, y2, y3, y4⟩
            obtain ⟨hym, hyM⟩ := (hin y).1 hy
            have hyw : y.who = 0 := by
              simp only [mayB, decide_eq_true_eq] at hym
              omega
            have : slot y = ⟨4, key, 1, 0, a.elem⟩ := by unfold slot; rw [if_neg (by omega), y1, y2, y3, y4, hyw]
            rw [this, hM] at hyM
            cases hyM
          rw [this]
          rfl
        | some g =>
          have : isGone T key a.elem = true := by
            obtain ⟨y0, hy0, e1, e2⟩ := h.only _ _ hM
            have hyT : y0 ∈ T := (hin y0).2 ⟨hl y0 hy0, by rw [e1, e2]; exact hM⟩
            have ty : y0.ty = 4 := by rw [← slot_ty y0, e1]
            have es : slot y0 = ⟨y0.ty, y0.key, y0.side, y0.who, y0.elem⟩ := by unfold slot; rw [if_neg (by omega)]
            rw [es] at e1
            simp only [Sl.mk.injEq] at e1
            unfold isGone
            rw [List.any_eq_true]
            exact ⟨y0, hyT, by simp [e1.1, e1.2.1, e1.2.2.1, e1.2.2.2.2]⟩
          rw [this]
          rfl
      rw [hg]
      rcases hside with e | e <;> rw [e] <;> simp
  have hE : elemsOf (narrowM M kind key) (ofKey T kind key) = valE T kind key T := by
    unfold elemsOf valE
    rw [List.filter_congr hkeep]
    refine List.map_congr_left fun a ha => ?_
    rw [(hsl a (List.mem_filter.1 ha).1).1]
  refine ⟨hE, ?_⟩
  unfold valE
  rw [List.pairwise_map]
  have hs := (ofKey_sorted hT.sorted kind key).filter (keepsE T kind key)
  refine List.Pairwise.imp_of_mem (fun {x y} hx hy hxy => ?_) hs
  obtain ⟨hx1, hx2⟩ := List.mem_filter.1 hx
  obtain ⟨hy1, hy2⟩ := List.mem_filter.1 hy
  have kx := hkeep x hx1
  have ky := hkeep y hy1
  rw [hx2] at kx
  rw [hy2] at ky
  obtain ⟨sx, _⟩ := hsl x hx1
  obtain ⟨sy, _⟩ := hsl y hy1
  have zx : x.side = 0 := by
    unfold kept at kx
    rw [sx] at kx
    simp at kx
    exact kx.1
  have zy : y.side = 0 := by
    unfold kept at ky
    rw [sy] at ky
    simp at ky
    exact ky.1
  rw [plc_eq, sx, sy, zx, zy] at hxy
  have e0 : ∀ z, ci z z = 0 := fun z => (ci_zero z z).2 rfl
  have z0 : ordS key key = 0 := (ordS_zero key key).2 rfl
  simp only [scmp, e0, z0] at hxy
  simp at hxy
  omega
end Go.Proofs.YtfddkkkkehbecaaDoor
