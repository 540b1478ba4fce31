/- slices.Sort on a row of texts of the call's own. -/
import Derived.Test.YtahdlejgjcjeoaaGreatDoorP23
import Derived.Test.YtahdlejgjcjeoaaGreatDoorP22
import Derived.Shelf.Sort.Plain
import Derived.Shelf.Slices.In.SortNone
import Derived.Test.YtahdlejgjcjeoaaGreatDoorProg
import Derived.Test.YtahdlejgjcjeoaaGreatDoorP15
namespace Go.Proofs.YtahdlejgjcjeoaaGreatDoor
open Go.RowKit

theorem told_inM {M : Sl → Option Gr} {l T : List At} (h : Holds2 M l) (hl : ∀ a ∈ l, mayB a = true) (hT : IsTold l T) : ∀ a, a ∈ T ↔ InM M a := by
  have fwd : ∀ a, a ∈ T → InM M a := by
    intro a ha
    obtain ⟨hal, hg⟩ := hT.great a ha
    obtain ⟨g, hMg, hle⟩ := h.top a hal
    obtain ⟨a', ha', h1, h2⟩ := h.only _ _ hMg
    have hp : plc a' a = 0 := by rw [plc_eq, scmp_zero, h1]
    have h3 := hg a' ha' hp
    rw [grd_eq a' a (plc_ty hp), h2] at h3
    have h4 := gcmp_tp.anti (grade a) g
    have : g = grade a := (gcmp_zero _ _).1 (by omega)
    exact ⟨hl a hal, by rw [hMg, this]⟩
  intro a
  refine ⟨fwd a, fun ⟨hm, hM⟩ => ?_⟩
  obtain ⟨a', ha', h1, h2⟩ := h.only _ _ hM
  have haa : a' = a := by rw [← unite_eq a' (hl a' ha'), ← unite_eq a hm, h1, h2]
  subst haa
  obtain ⟨x, hx, hp⟩ := hT.all a' ha'
  obtain ⟨hxm, hxM⟩ := fwd x hx
  have hs := plc_slot hp
  rw [← hs, hM] at hxM
  have : x = a' := by rw [← unite_eq x hxm, ← unite_eq a' hm, hs, Option.some.inj hxM]
  exact this ▸ hx

/-- The atoms of a type and key. -/
def ofKey (T : List At) (kind : Int) (key : ByteArray) : List At := T.filter fun a => decide (a.ty = kind ∧ a.key = key)
theorem slot_key (a : At) : (slot a).key = a.key := by unfold slot; split <;> rfl
theorem narrow_inM (M : Sl → Option Gr) (kind : Int) (key : ByteArray) (a : At) : InM (narrowM M kind key) a ↔ InM M a ∧ a.ty = kind ∧ a.key = key := by
  unfold InM narrowM
  rw [slot_ty, slot_key]
  by_cases h : a.ty = kind ∧ a.key = key
  · rw [if_pos h]; simp [h]
  · rw [if_neg h]; simp [h]
theorem ne_nodup {C : List At} (h : C.Pairwise (fun x y => plc x y ≠ 0)) : C.Nodup := List.Pairwise.imp (fun {x y} hne => fun e : x = y => by subst e; exact hne (plc_tp.refl x)) h
theorem ofKey_sorted {T : List At} (h : T.Pairwise (fun x y => plc x y < 0)) (kind : Int) (key : ByteArray) : (ofKey T kind key).Pairwise (fun x y => plc x y < 0) := h.filter _
theorem coll_perm {M : Sl → Option Gr} {l T C : List At} {kind : Int} {key : ByteArray} (h : Holds2 M l) (hl : ∀ a ∈ l, mayB a = true) (hT : IsTold l T) (hC : Coll (narrowM M kind key) (fun _ => false) C) : C.Perm (ofKey T kind key) := by
  refine (List.perm_ext_iff_of_nodup (ne_nodup hC.apart) (ne_nodup ((ofKey_sorted hT.sorted kind key).imp fun {x y} h => by omega))).2 fun a => ?_
  rw [hC.mem a, narrow_inM]
  unfold ofKey
  rw [List.mem_filter, told_inM h hl hT a]
  simp
theorem svs_perm {a b : List At} (h : a.Perm b) : svs a = svs b := by
  induction h with
  | nil => rfl
  | cons x _ ih => simp only [svs, List.map_cons, List.sum_cons] at *; rw [ih]
  | swap x y l => simp only [svs, List.map_cons, List.sum_cons]; omega
  | trans _ _ h1 h2 => rw [h1, h2]
theorem elemsOf_perm {M : Sl → Option Gr} {a b : List At} (h : a.Perm b) : (elemsOf M a).Perm (elemsOf M b) := (h.filter _).map _
theorem texts_ext {a b : List ByteArray} (h : a.Perm b) (ha : a.Pairwise (fun x y => ordS x y ≤ 0)) (hb : b.Pairwise (fun x y => ordS x y ≤ 0)) : a = b :=
  List.Perm.eq_of_pairwise (le := fun x y => ordS x y ≤ 0) (fun x y _ _ h1 h2 => (ordS_zero x y).1 (by have := ordS_tp.anti x y; omega)) ha hb h

/-- P7, as the document tells it: what is counted; the elements. -/
def isGone (T : List At) (key e : ByteArray) : Bool := T.any fun y => decide (y.ty = 4 ∧ y.key = key ∧ y.side = 1 ∧ y.elem = e)
def valN (kind : Int) (key : ByteArray) (L : List At) : Int :=
  if kind = 1 ∨ kind = 2 then ((ofKey L kind key).map fun a => a.n * (1 - 2 * a.side)).sum
  else if kind = 5 then ((ofKey L kind key).getLast?.map (·.n)).getD 0 else 0
def keepsE (T : List At) (kind : Int) (key : ByteArray) (a : At) : Bool := decide (kind = 3) || decide (kind = 5) || (decide (kind = 4) && decide (a.side ≠ 1) && !isGone T key a.elem)
def valE (T : List At) (kind : Int) (key : ByteArray) (L : List At) : List ByteArray := ((ofKey L kind key).filter (keepsE T kind key)).map (·.elem)
theorem ofKey_snoc (L : List At) (a : At) (kind : Int) (key : ByteArray) : ofKey (L ++ [a]) kind key = if a.ty = kind ∧ a.key = key then ofKey L kind key ++ [a] else ofKey L kind key := by
  unfold ofKey
  rw [List.filter_append]
  by_cases h : a.ty = kind ∧ a.key = key <;> simp [h]
theorem valE_snoc (T L : List At) (a : At) (kind : Int) (key : ByteArray) : valE T kind key (L ++ [a]) = if (a.ty = kind ∧ a.key = key) ∧ keepsE T kind key a = true then valE T kind key L ++ [a.elem] else valE T kind key L := by
  unfold valE
  rw [ofKey_snoc]
  by_cases h : a.ty = kind ∧ a.key = key
  · by_cases k : keepsE T kind key a = true <;> simp [h, k]
  · simp [h]
theorem valE_length (T L : List At) (kind : Int) (key : ByteArray) : (valE T kind key L).length ≤ L.length := by
  unfold valE ofKey
  rw [List.length_map]
  exact Nat.le_trans (List.length_filter_le _ _) (List.length_filter_le _ _)
theorem valN_skip (L : List At) (a : At) (kind : Int) (key : ByteArray) (h : ¬ (a.ty = kind ∧ a.key = key)) : valN kind key (L ++ [a]) = valN kind key L := by
  unfold valN
  rw [ofKey_snoc, if_neg h]
theorem valN_sum (L : List At) (a : At) (kind : Int) (key : ByteArray) (h : a.ty = kind ∧ a.key = key) (hk : kind = 1 ∨ kind = 2) : valN kind key (L ++ [a]) = valN kind key L + a.n * (1 - 2 * a.side) := by
  unfold valN
  rw [ofKey_snoc, if_pos h, if_pos hk, if_pos hk]
  simp
theorem valN_last (L : List At) (a : At) (key : ByteArray) (h : a.ty = 5 ∧ a.key = key) : valN 5 key (L ++ [a]) = a.n := by
  unfold valN
  rw [ofKey_snoc, if_pos h, if_neg (by omega), if_pos rfl]
  simp
theorem valN_set (L : List At) (kind : Int) (key : ByteArray) (hk : kind = 3 ∨ kind = 4) : valN kind key L = 0 := by
  unfold valN
  rw [if_neg (by omega), if_neg (by omega)]

theorem mem_ofKey {T : List At} {kind : Int} {key : ByteArray} {a : At} : a ∈ ofKey T kind key ↔ a ∈ T ∧ a.ty = kind ∧ a.key = key := by
  unfold ofKey
  rw [List.mem_filter]
  simp
theorem sv_may {a : At} (h : mayB a = true) (ht : a.ty = 1 ∨ a.ty = 2) : sv a = a.n * (1 - 2 * a.side) := by
  unfold sv
  rw [grade_n]
  have hs : (slot a).side = a.side := by unfold slot; rw [if_neg (by omega)]
  have h2 : a.side = 0 ∨ a.side = 1 := by
    simp only [mayB, decide_eq_true_eq] at h
    omega
  rw [hs]
  rcases h2 with h2 | h2 <;> rw [h2] <;> simp
/-- A counter's value. -/
theorem total_val {T : List At} {kind : Int} {key : ByteArray} (hT : ∀ a ∈ T, mayB a = true) (hk : kind = 1 ∨ kind = 2) : svs (ofKey T kind key) = valN kind key T ∧ valE T kind key T = [] := by
  constructor
  · unfold valN svs
    rw [if_pos hk]
    congr 1
    refine List.map_congr_left fun a ha => ?_
    obtain ⟨h1, h2, _⟩ := mem_ofKey.1 ha
    exact sv_may (hT a h1) (by omega)
  · unfold valE
    rw [List.map_eq_nil_iff, List.filter_eq_nil_iff]
    intro a _
    unfold keepsE
    have h1 : ¬ kind = 3 := by omega
    have h2 : ¬ kind = 5 := by omega
    have h3 : ¬ kind = 4 := by omega
    simp [h1, h2, h3]
/-- A set's elements. -/
theorem elems_val {M : Sl → Option Gr} {l T : List At} {kind : Int} {key : ByteArray} (h : Holds2 M l) (hl : ∀ a ∈ l, mayB a = true) (hT : IsTold l T) (hk : kind = 3 ∨ kind = 4) : elemsOf (narrowM M kind key) (ofKey T kind key) = valE T kind key T ∧ (valE T kind key T).Pairwise (fun x y => ordS x y ≤ 0) := by
  have hmt : ∀ a ∈ T, mayB a = true := fun a ha => hl a (hT.great a ha).1
  have hin := told_inM h hl hT
  have hsl : ∀ a ∈ ofKey T kind key, slot a = ⟨kind, key, a.side, 0, a.elem⟩ ∧ a.ty = kind ∧ a.key = key ∧ (a.side = 0 ∨ a.side = 1) ∧ (kind = 3 → a.side = 0) ∧ a.who = 0 := by
    intro a ha
    obtain ⟨h1, h2, h3⟩ := mem_ofKey.1 ha
    have hm := hmt a h1
    have hw : a.who = 0 ∧ (a.side = 0 ∨ a.side = 1) ∧ (kind = 3 → a.side = 0) := by
      simp only [mayB, decide_eq_true_eq] at hm
      omega
    refine ⟨?_, h2, h3, hw.2.1, hw.2.2, hw.1⟩
    unfold slot
    rw [if_neg (by omega), h2, h3, hw.1]
  have hkeep : ∀ a ∈ ofKey T kind key, kept (narrowM M kind key) a = keepsE T kind key a := by
    intro a ha
    obtain ⟨hs, ht, hkey, hside, h3, hw⟩ := hsl a ha
    unfold kept keepsE
    rw [hs]
    have hone : narrowM M kind key (Sl.one ⟨kind, key, a.side, 0, a.elem⟩) = M ⟨kind, key, 1, 0, a.elem⟩ := by unfold narrowM Sl.one; simp
    rw [hone]
    rcases hk with rfl | rfl
    · have hn : M ⟨3, key, 1, 0, a.elem⟩ = none := by
        cases hM : M ⟨3, key, 1, 0, a.elem⟩ with
        | none => rfl
        | some g =>
          obtain ⟨y, hy, e1, e2⟩ := h.only _ _ hM
          have hm := hl y hy
          have ty : y.ty = 3 := by rw [← slot_ty y, e1]
          have sd : y.side = 1 := by
            have : (slot y).side = y.side := by unfold slot; rw [if_neg (by omega)]
            rw [← this, e1]
          simp only [mayB, decide_eq_true_eq] at hm
          omega
      rw [hn, h3 rfl]
      simp
    · have hg : (M ⟨4, key, 1, 0, a.elem⟩).isNone = !isGone T key a.elem := by
        cases hM : M ⟨4, key, 1, 0, a.elem⟩ with
        | none =>
          have : isGone T key a.elem = false := by
            unfold isGone
            rw [List.any_eq_false]
            intro y hy
            simp only [decide_eq_true_eq]
            rintro ⟨y1, y2, y3, y4⟩
            obtain ⟨hym, hyM⟩ := (hin y).1 hy
            have hyw : y.who = 0 := by
              simp only [mayB, decide_eq_true_eq] at hym
              omega
            have : slot y = ⟨4, key, 1, 0, a.elem⟩ := by unfold slot; rw [if_neg (by omega), y1, y2, y3, y4, hyw]
            rw [this, hM] at hyM
            cases hyM
          rw [this]
          rfl
        | some g =>
          have : isGone T key a.elem = true := by
            obtain ⟨y0, hy0, e1, e2⟩ := h.only _ _ hM
            have hyT : y0 ∈ T := (hin y0).2 ⟨hl y0 hy0, by rw [e1, e2]; exact hM⟩
            have ty : y0.ty = 4 := by rw [← slot_ty y0, e1]
            have es : slot y0 = ⟨y0.ty, y0.key, y0.side, y0.who, y0.elem⟩ := by unfold slot; rw [if_neg (by omega)]
            rw [es] at e1
            simp only [Sl.mk.injEq] at e1
            unfold isGone
            rw [List.any_eq_true]
            exact ⟨y0, hyT, by simp [e1.1, e1.2.1, e1.2.2.1, e1.2.2.2.2]⟩
          rw [this]
          rfl
      rw [hg]
      rcases hside with e | e <;> rw [e] <;> simp
  have hE : elemsOf (narrowM M kind key) (ofKey T kind key) = valE T kind key T := by
    unfold elemsOf valE
    rw [List.filter_congr hkeep]
    refine List.map_congr_left fun a ha => ?_
    rw [(hsl a (List.mem_filter.1 ha).1).1]
  refine ⟨hE, ?_⟩
  unfold valE
  rw [List.pairwise_map]
  have hs := (ofKey_sorted hT.sorted kind key).filter (keepsE T kind key)
  refine List.Pairwise.imp_of_mem (fun {x y} hx hy hxy => ?_) hs
  obtain ⟨hx1, hx2⟩ := List.mem_filter.1 hx
  obtain ⟨hy1, hy2⟩ := List.mem_filter.1 hy
  have kx := hkeep x hx1
  have ky := hkeep y hy1
  rw [hx2] at kx
  rw [hy2] at ky
  obtain ⟨sx, _⟩ := hsl x hx1
  obtain ⟨sy, _⟩ := hsl y hy1
  have zx : x.side = 0 := by
    unfold kept at kx
    rw [sx] at kx
    simp at kx
    exact kx.1
  have zy : y.side = 0 := by
    unfold kept at ky
    rw [sy] at ky
    simp at ky
    exact ky.1
  rw [plc_eq, sx, sy, zx, zy] at hxy
  have e0 : ∀ z, ci z z = 0 := fun z => (ci_zero z z).2 rfl
  have z0 : ordS key key = 0 := (ordS_zero key key).2 rfl
  simp only [scmp, e0, z0] at hxy
  simp at hxy
  omega
end Go.Proofs.YtahdlejgjcjeoaaGreatDoor

namespace Go.Proofs.YtahdlejgjcjeoaaGreatDoor
open Go.Shelf

def sortTexts_ren : Go.Shelf.Ren := ⟨fun | 190 => 182 | 125 => 161 | 258 => 213 | 128 => 201 | 129 => 202 | 302 => 224 | 303 => 225 | 304 => 226 | 305 => 227 | 306 => 228 | 307 => 229 | 308 => 230 | 309 => 231 | 310 => 232 | 333 => 235 | 329 => 216 | 330 => 217 | 334 => 236 | 335 => 237 | 336 => 204 | 344 => 238 | n => n, fun | 31 => 87 | 9 => 9 | 3 => 3 | 46 => 227 | 0 => 0 | 51 => 106 | 53 => 261 | 4 => 4 | 183 => 253 | 182 => 252 | 131 => 257 | 5 => 5 | 218 => 275 | 222 => 279 | 228 => 289 | 229 => 290 | n => n, fun | n => n⟩

theorem sortTexts : Go.Proofs.Lays.n190 Tryz.prog sortTexts_ren := {
  mixed := by kernel_rfl,
  f125 := Tryz.func161.trans (congrArg some (by kernel_rfl)),
  f128 := Tryz.func201.trans (congrArg some (by kernel_rfl)),
  f129 := Tryz.func202.trans (congrArg some (by kernel_rfl)),
  f190 := Tryz.func182.trans (congrArg some (by kernel_rfl)),
  f258 := Tryz.func213.trans (congrArg some (by kernel_rfl)),
  f302 := Tryz.func224.trans (congrArg some (by kernel_rfl)),
  f303 := Tryz.func225.trans (congrArg some (by kernel_rfl)),
  f304 := Tryz.func226.trans (congrArg some (by kernel_rfl)),
  f305 := Tryz.func227.trans (congrArg some (by kernel_rfl)),
  f306 := Tryz.func228.trans (congrArg some (by kernel_rfl)),
  f307 := Tryz.func229.trans (congrArg some (by kernel_rfl)),
  f308 := Tryz.func230.trans (congrArg some (by kernel_rfl)),
  f309 := Tryz.func231.trans (congrArg some (by kernel_rfl)),
  f310 := Tryz.func232.trans (congrArg some (by kernel_rfl)),
  f329 := Tryz.func216.trans (congrArg some (by kernel_rfl)),
  f330 := Tryz.func217.trans (congrArg some (by kernel_rfl)),
  f333 := Tryz.func235.trans (congrArg some (by kernel_rfl)),
  f334 := Tryz.func236.trans (congrArg some (by kernel_rfl)),
  f335 := Tryz.func237.trans (congrArg some (by kernel_rfl)),
  f336 := Tryz.func204.trans (congrArg some (by kernel_rfl)),
  f344 := Tryz.func238.trans (congrArg some (by kernel_rfl)),
  t0 := Tryz.underlying0,
  a0 := Tryz.isAgg0,
  z0 := Tryz.sizeOf0,
  v0 := Tryz.zeroValue0,
  t3 := Tryz.underlying3,
  a3 := Tryz.isAgg3,
  z3 := Tryz.sizeOf3,
  v3 := Tryz.zeroValue3,
  t4 := Tryz.underlying4,
  a4 := Tryz.isAgg4,
  z4 := Tryz.sizeOf4,
  v4 := Tryz.zeroValue4,
  t5 := Tryz.underlying5,
  a5 := Tryz.isAgg5,
  z5 := Tryz.sizeOf5,
  v5 := Tryz.zeroValue5,
  t9 := Tryz.underlying9,
  a9 := Tryz.isAgg9,
  z9 := Tryz.sizeOf9,
  v9 := Tryz.zeroValue9,
  t31 := Tryz.underlying87,
  a31 := Tryz.isAgg87,
  z31 := Tryz.sizeOf87,
  v31 := Tryz.zeroValue87,
  t46 := Tryz.underlying227,
  a46 := Tryz.isAgg227,
  z46 := Tryz.sizeOf227,
  v46 := Tryz.zeroValue227,
  t51 := Tryz.underlying106,
  a51 := Tryz.isAgg106,
  z51 := Tryz.sizeOf106,
  v51 := Tryz.zeroValue106,
  t53 := Tryz.underlying261,
  a53 := Tryz.isAgg261,
  z53 := Tryz.sizeOf261,
  v53 := Tryz.zeroValue261,
  t131 := Tryz.underlying257,
  a131 := Tryz.isAgg257,
  z131 := Tryz.sizeOf257,
  v131 := Tryz.zeroValue257,
  t182 := Tryz.underlying252,
  a182 := Tryz.isAgg252,
  z182 := Tryz.sizeOf252,
  v182 := Tryz.zeroValue252,
  t183 := Tryz.underlying253,
  a183 := Tryz.isAgg253,
  z183 := Tryz.sizeOf253,
  v183 := Tryz.zeroValue253,
  t218 := Tryz.underlying275,
  a218 := Tryz.isAgg275,
  z218 := Tryz.sizeOf275,
  v218 := Tryz.zeroValue275,
  t222 := Tryz.underlying279,
  a222 := Tryz.isAgg279,
  z222 := Tryz.sizeOf279,
  v222 := Tryz.zeroValue279,
  t228 := Tryz.underlying289,
  a228 := Tryz.isAgg289,
  z228 := Tryz.sizeOf289,
  v228 := Tryz.zeroValue289,
  t229 := Tryz.underlying290,
  a229 := Tryz.isAgg290,
  z229 := Tryz.sizeOf290,
  v229 := Tryz.zeroValue290 }

end Go.Proofs.YtahdlejgjcjeoaaGreatDoor

namespace Go.Proofs.YtahdlejgjcjeoaaGreatDoor
open Go.RowKit Go.Sort

theorem string_cells (xs : List ByteArray) : xs.map Value.string = (xs.map fun x => x.data.toList).map encStr := by
  rw [List.map_map]
  exact List.map_congr_left fun x _ => rfl
theorem ordS_flip (x y : ByteArray) : ordS y x = - ordS x y := by
  have h := plc_tp.anti ⟨5, x, 0, 0, x, 0⟩ ⟨5, y, 0, 0, y, 0⟩
  have e1 : plc ⟨5, x, 0, 0, x, 0⟩ ⟨5, y, 0, 0, y, 0⟩ = ordS x y := by simp [plc]
  have e2 : plc ⟨5, y, 0, 0, y, 0⟩ ⟨5, x, 0, 0, x, 0⟩ = ordS y x := by simp [plc]
  rwa [e1, e2] at h
theorem lt_ordS (x y : ByteArray) : x.data.toList < y.data.toList ↔ ordS x y < 0 := by
  have h1 := Go.Proofs.bytesLess_eq x.data.toList y.data.toList
  have h2 := bytesLess_cb x.data.toList y.data.toList
  rw [h1] at h2
  have := decide_eq_decide.1 h2
  exact this
theorem le_ordS {x y : ByteArray} (h : x.data.toList ≤ y.data.toList) : ordS x y ≤ 0 := by
  have h1 : ¬ ordS y x < 0 := fun e => (List.not_lt.2 h) ((lt_ordS y x).2 e)
  have := ordS_flip x y
  omega

theorem heap_sortedT {w : World} {g n : Nat} {os : Array Obj} {cur : Array Value} {e : TypeId} (F : Array (List UInt8)) (hb : w.heap[g]? = some (.cells cur e (0, 0))) :
    (grow (putRow encStr (Sort.ahead w n) g 0 F) os).heap[g]? = some (.cells (putCells encStr 0 F cur) e (0, 0)) := by
  have hlt := (Array.getElem?_eq_some_iff.1 hb).1
  rw [heap_grow_old _ _ (by simpa using hlt)]
  simp [putRow, mapBlock, Sort.ahead, Array.getElem?_modify, hb, onCells]
theorem grownBy_sortedT {w : World} {g n : Nat} {os : Array Obj} (F : Array (List UInt8)) : w.grownBy (grow (putRow encStr (Sort.ahead w n) g 0 F) os) (some g) := by
  refine ⟨rfl, rfl, rfl, by simp, fun k hk hne => ?_⟩
  rw [heap_grow_old _ _ (by simpa using hk)]
  have : g ≠ k := fun e => hne (by rw [e])
  simp [putRow, mapBlock, Sort.ahead, Array.getElem?_modify, this]
theorem take_putCellsT (cur : Array Value) (F : List (List UInt8)) (h : F.length ≤ cur.size) : (putCells encStr 0 F.toArray cur).toList.take F.length = F.map encStr := by
  apply List.ext_getElem?
  intro j
  by_cases hj : j < F.length
  · rw [List.getElem?_take_of_lt hj, Array.getElem?_toList]
    simp [putCells, hj, show j < cur.size by omega]
  · rw [List.getElem?_take_eq_none (by omega), List.getElem?_eq_none (by simp; omega)]

/-- Sort, on a row of the call's own. -/
theorem sortT_any (base g cap : Nat) (xs : List ByteArray) (w : World) (hown : w.ownsRow base 9 1 (.slice (some ⟨g, 0, none⟩) xs.length cap) xs.length (xs.map Value.string)) (hlen : xs.length < 4611686018427387904) :
    Calls Tryz.prog 182 #[.slice (some ⟨g, 0, none⟩) xs.length cap] w fun e w' =>
      e = .returned (.tuple #[]) ∧ ∃ ys : List ByteArray, ys.Perm xs ∧ ys.Pairwise (fun x y => ordS x y ≤ 0) ∧ w'.ownsRow base 9 1 (.slice (some ⟨g, 0, none⟩) xs.length cap) xs.length (ys.map Value.string) ∧ w.grownBy w' (some g) := by
  rcases hown.2 with ⟨h0, _⟩ | ⟨g', cap', cur, hv, hbase, hb, h1, h2, h3, h4⟩
  · cases h0
  cases hv
  obtain ⟨ss, hss⟩ : ∃ ss : List (List UInt8), ss = xs.map fun x => x.data.toList := ⟨_, rfl⟩
  have hsl : ss.length = xs.length := by rw [hss, List.length_map]
  rw [string_cells, ← hss, Nat.mul_one] at h4
  have hH : Holds encStr w g 0 ss.toArray := by
    intro j hj
    have hj' : j < ss.length := by simpa using hj
    refine ⟨?_, by simp [World.frozen?, hb]⟩
    have e1 : (cur.toList.take xs.length)[j]? = (ss.map encStr)[j]? := by rw [h4]
    rw [List.getElem?_take_of_lt (by omega)] at e1
    simp only [World.cell?, hb, Nat.zero_add]
    simp only [Option.isSome_none, Bool.false_eq_true, if_false]
    rw [← Array.getElem?_toList, e1]
    simp [hj']
  have hcon := Any.slices_Sort_string (P := Tryz.prog) sortTexts g 0 cap ss w hH (Array.getElem?_eq_some_iff.1 hb).1 (by omega)
  rw [hsl] at hcon
  refine Calls.mono (show Calls Tryz.prog 182 _ _ _ from hcon) ?_
  rintro e w' ⟨rfl, n, os, rfl⟩
  have hp : (ss.mergeSort fun x y => decide (x ≤ y)).Perm ss := List.mergeSort_perm _ _
  have hpw := List.pairwise_mergeSort (le := fun x y : List UInt8 => decide (x ≤ y)) (fun a b c h1 h2 => by simp only [decide_eq_true_eq] at *; exact List.le_trans h1 h2) (fun a b => by simp only [Bool.or_eq_true, decide_eq_true_eq]; exact List.le_total a b) ss
  generalize ss.mergeSort (fun x y => decide (x ≤ y)) = F at *
  have hFl : F.length = xs.length := by rw [hp.length_eq, hsl]
  have eF : (F.map fun l => (⟨l.toArray⟩ : ByteArray)).map Value.string = F.map encStr := by rw [List.map_map]; rfl
  refine ⟨rfl, F.map fun l => ⟨l.toArray⟩, ?_, ?_, ?_, grownBy_sortedT _⟩
  · have := hp.map fun l : List UInt8 => (⟨l.toArray⟩ : ByteArray)
    rw [hss, List.map_map] at this
    have e : xs.map ((fun l : List UInt8 => (⟨l.toArray⟩ : ByteArray)) ∘ fun x : ByteArray => x.data.toList) = xs :=
      (List.map_congr_left (g := id) fun x _ => rfl).trans (List.map_id xs)
    rwa [e] at this
  · rw [List.pairwise_map]
    exact hpw.imp fun h => le_ordS (by simpa using h)
  · rw [eF]
    refine ⟨by simp [hFl], .inr ⟨g, cap, _, rfl, hbase, heap_sortedT _ hb, h1, h2, by simp [putCells, h3], ?_⟩⟩
    have := take_putCellsT cur F (by rw [hFl, h3]; omega)
    rw [hFl] at this
    rw [Nat.mul_one]
    exact this
end Go.Proofs.YtahdlejgjcjeoaaGreatDoor
