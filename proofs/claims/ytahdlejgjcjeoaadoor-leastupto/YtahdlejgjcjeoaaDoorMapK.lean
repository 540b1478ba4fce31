/- The program's map from slots to grades: its keys, its elements, as the laws on maps want them. -/
import Derived.Test.YtahdlejgjcjeoaaDoorProg
import Derived.Test.YtahdlejgjcjeoaaDoorOrd
import Derived.Maps.Own
import Derived.Maps.OwnSet
import Derived.Maps.OwnOps
import Derived.Maps.RangeWalk
import Derived.ProofKit
namespace Go.Proofs.YtahdlejgjcjeoaaDoor
open Go.RowKit Go.Maps
set_option maxRecDepth 100000

theorem laidOut : laidOutB Tryd.prog = true := by kernel_rfl
theorem typesTwo : decide (2 ≤ Tryd.prog.types.size) = true := by kernel_rfl
theorem typesSize : ∃ d, Tryd.prog.types.size + 1 = d + 2 := ⟨Tryd.prog.types.size - 1, by have := of_decide_eq_true typesTwo; omega⟩
theorem keyTypeSlot : Tryd.prog.keyType 117 = true := by kernel_rfl
theorem cellsSlot : Tryd.prog.cellsOf 117 = 5 := by kernel_rfl
theorem cellsInt : Tryd.prog.cellsOf 3 = 1 := by kernel_rfl
theorem cellsString : Tryd.prog.cellsOf 9 = 1 := by kernel_rfl

theorem slotKeyed : Keyed Tryd.prog 117 :=
  Keyed.of_law (deep_law_laid laidOut (m := 4) (by omega) (of_decide_eq_true (by kernel_rfl)) (by kernel_rfl) (by kernel_rfl))

def Sl.val (s : Sl) : Value := .agg #[.int .i64 s.ty, .string s.key, .int .i64 s.side, .int .i64 s.who, .string s.elem]
def Gr.val (g : Gr) : Value := .agg #[.int .i64 g.n, .int .i64 g.who, .string g.elem]
def Sl.lit (s : Sl) : Lit := .string (keyBytes [.int .i64 s.ty, .string s.key.data.toList, .int .i64 s.side, .int .i64 s.who, .string s.elem.data.toList])
/-- Numbers of 64 bits, texts that can be. -/
def Sl.ok (s : Sl) : Prop := (Lit.int .i64 s.ty).wf = true ∧ s.key.size ≤ maxLen ∧ (Lit.int .i64 s.side).wf = true ∧ (Lit.int .i64 s.who).wf = true ∧ s.elem.size ≤ maxLen

theorem keyOf_slot (s : Sl) (h : s.ok) : keyOf Tryd.prog 117 s.val = some s.lit := by
  obtain ⟨h1, h2, h3, h4, h5⟩ := h
  unfold keyOf
  rw [Tryd.underlying117]
  have hf : s.val.formed Tryd.prog 117 = true := by simp [Sl.val, Value.formed, Tryd.underlying117, cellsSlot]
  simp only [keyTypeSlot, hf, Bool.and_self, if_true]
  obtain ⟨d, hd⟩ := typesSize
  rw [hd]
  simp [Program.keyLits, Tryd.underlying117, cellsSlot, Sl.val, Value.cells, cellsInt, cellsString, Tryd.underlying3, Tryd.underlying9, h1, h2, h3, h4, h5, Sl.lit]

theorem int_cell (d : Nat) (c : Value) (ls : List Lit) (h : Tryd.prog.keyLits (d + 1) 3 [c] = some ls) : ∃ n, c = .int .i64 n := by
  unfold Program.keyLits at h
  rw [Tryd.underlying3] at h
  cases c <;> simp at h
  obtain ⟨⟨rfl, _⟩, _⟩ := h
  exact ⟨_, rfl⟩
theorem string_cell (d : Nat) (c : Value) (ls : List Lit) (h : Tryd.prog.keyLits (d + 1) 9 [c] = some ls) : ∃ s, c = .string s := by
  unfold Program.keyLits at h
  rw [Tryd.underlying9] at h
  cases c <;> simp at h
  exact ⟨_, rfl⟩
theorem slot_cells (d : Nat) (c0 c1 c2 c3 c4 : Value) (ls : List Lit) (h : Tryd.prog.keyLits (d + 2) 117 [c0, c1, c2, c3, c4] = some ls) : ∃ s : Sl, Value.agg #[c0, c1, c2, c3, c4] = s.val := by
  unfold Program.keyLits at h
  simp only [Tryd.underlying117, cellsSlot] at h
  split at h
  · simp only [List.mapM_cons, List.mapM_nil, Option.map_eq_some_iff, Option.bind_eq_bind, Option.bind_eq_some_iff, cellsInt, cellsString, List.drop_zero, List.take_succ_cons, List.take_zero, List.drop_succ_cons, Option.pure_def] at h
    obtain ⟨xs, ⟨x0, k0, y0, ⟨x1, k1, y1, ⟨x2, k2, y2, ⟨x3, k3, y3, ⟨x4, k4, _⟩, _⟩, _⟩, _⟩, _⟩, _⟩ := h
    obtain ⟨n0, rfl⟩ := int_cell d c0 _ k0
    obtain ⟨n1, rfl⟩ := string_cell d c1 _ k1
    obtain ⟨n2, rfl⟩ := int_cell d c2 _ k2
    obtain ⟨n3, rfl⟩ := int_cell d c3 _ k3
    obtain ⟨n4, rfl⟩ := string_cell d c4 _ k4
    exact ⟨⟨n0, n1, n2, n3, n4⟩, rfl⟩
  · cases h
theorem slot_key_inv (key : Value) (kl : Lit) (h : keyOf Tryd.prog 117 key = some kl) : ∃ s : Sl, key = s.val := by
  unfold keyOf at h
  simp only [Tryd.underlying117, keyTypeSlot, Bool.true_and] at h
  split at h
  · rename_i hf
    cases key with
    | agg cs =>
      simp only [Value.formed, Tryd.underlying117, cellsSlot, beq_iff_eq] at hf
      obtain ⟨d, hd⟩ := typesSize
      rw [hd] at h
      obtain ⟨l⟩ := cs
      match l, hf with
      | [c0, c1, c2, c3, c4], _ =>
        rw [Option.map_eq_some_iff] at h
        obtain ⟨ls, hls, _⟩ := h
        exact slot_cells d c0 c1 c2 c3 c4 ls hls
    | _ => simp [Value.formed, Tryd.underlying117] at hf
  · cases h

/-- How a grade reads. -/
def Gr.dat (g : Gr) : DataW Unit := .agg [.lit (.int .i64 g.n), .lit (.int .i64 g.who), .lit (.string g.elem.data.toList)]
def grElem (v : Value) : Option (DataW Unit × List MemPlace) :=
  match v with
  | .agg cs => match cs.toList with
    | [.int .i64 n, .int .i64 who, .string e] => some (.agg [.lit (.int .i64 n), .lit (.int .i64 who), .lit (.string e.data.toList)], [])
    | _ => none
  | _ => none
theorem grElem_mk (g : Gr) : grElem g.val = some (g.dat, []) := rfl
theorem grElem_inv {v : Value} {z : DataW Unit × List MemPlace} (h : grElem v = some z) : ∃ g : Gr, v = g.val ∧ z = (g.dat, []) := by
  unfold grElem at h
  split at h
  · rename_i cs
    obtain ⟨l⟩ := cs
    split at h
    · rename_i n who e hl
      simp only at hl
      subst hl
      cases h
      exact ⟨⟨n, who, e⟩, rfl, rfl⟩
    · cases h
  · cases h
theorem Gr.dat_inj {g h : Gr} (e : g.dat = h.dat) : g = h := by
  obtain ⟨n, w, x⟩ := g
  obtain ⟨n', w', x'⟩ := h
  simp only [Gr.dat, DataW.agg.injEq, List.cons.injEq, DataW.lit.injEq, Lit.int.injEq, Lit.string.injEq, and_true, true_and] at e
  obtain ⟨rfl, rfl, e⟩ := e
  have : x = x' := ByteArray.ext (Array.toList_inj.1 e)
  rw [this]

theorem zeroGrade (w : World) : (zeroValue 119).run Tryd.prog w = .ok (Gr.val ⟨0, 0, ByteArray.empty⟩) w := by kernel_rfl
theorem Sl.val_inj {s t : Sl} (h : s.val = t.val) : s = t := by
  obtain ⟨a, b, c, d, e⟩ := s
  obtain ⟨a', b', c', d', e'⟩ := t
  simp [Sl.val] at h
  obtain ⟨rfl, rfl, rfl, rfl, rfl⟩ := h
  rfl
theorem Sl.lit_inj {s t : Sl} (hs : s.ok) (ht : t.ok) (h : s.lit = t.lit) : s = t :=
  Sl.val_inj (slotKeyed.inj (keyOf_slot s hs) (by rw [h]; exact keyOf_slot t ht))

/-- THE MAP IN BLOCK b IS M (of at most n entries). -/
def StMap (w : World) (b n : Nat) (M : Sl → Option Gr) : Prop :=
  ∃ D : DataW Unit, w.ownsMap Tryd.prog 117 grElem b n D ∧ (∀ s, s.ok → M s = none → Maps.has D s.lit = false) ∧
    (∀ s g, M s = some g → s.ok ∧ Maps.has D s.lit = true ∧ ∀ z, D.atKey s.lit z = g.dat)

def upd (M : Sl → Option Gr) (s : Sl) (g : Gr) : Sl → Option Gr := fun t => if scmp t s = 0 then some g else M t

theorem stMap_made (w : World) : StMap (w.alloc (.map #[] 0)) w.heap.size 0 (fun _ => none) :=
  ⟨.map [], World.ownsMap_made w _ _ _, fun s _ _ => rfl, fun s g h => by cases h⟩

theorem StMap.kept {w w' : World} {b n : Nat} {M : Sl → Option Gr} {row : Option Nat} (h : StMap w b n M) (hg : w.grownBy w' row) (hne : some b ≠ row) : StMap w' b n M := by
  obtain ⟨D, h1, h2⟩ := h
  exact ⟨D, h1.kept hg hne, h2⟩
theorem StMap.lt {w : World} {b n : Nat} {M : Sl → Option Gr} (h : StMap w b n M) : b < w.heap.size := by
  obtain ⟨D, h1, _⟩ := h
  exact h1.lt
theorem StMap.mono {w : World} {b n n' : Nat} {M : Sl → Option Gr} (h : StMap w b n M) (hn : n ≤ n') : StMap w b n' M := by
  obtain ⟨D, h1, h2⟩ := h
  exact ⟨D, h1.mono hn, h2⟩

theorem upd_stMap {w' : World} {b n : Nat} {D : DataW Unit} {M : Sl → Option Gr} {s : Sl} {g : Gr} (hs : s.ok) (hm : Maps.IsMap D)
    (h2 : ∀ t, t.ok → M t = none → Maps.has D t.lit = false) (h3 : ∀ t g, M t = some g → t.ok ∧ Maps.has D t.lit = true ∧ ∀ z, D.atKey t.lit z = g.dat)
    (h1 : w'.ownsMap Tryd.prog 117 grElem b n (D.put s.lit g.dat)) : StMap w' b n (upd M s g) := by
  have hkl : WideAt.IsKeyLit s.lit := slotKeyed.key (keyOf_slot s hs)
  refine ⟨_, h1, fun t ht hn => ?_, fun t g' hg' => ?_⟩
  · unfold upd at hn
    split at hn
    · cases hn
    · rename_i hne
      have hl : t.lit ≠ s.lit := fun e => hne ((scmp_zero t s).2 (Sl.lit_inj ht hs e))
      rw [Maps.has_put_other hl]
      exact h2 t ht hn
  · unfold upd at hg'
    split at hg'
    · rename_i he
      obtain rfl := (scmp_zero t s).1 he
      cases hg'
      exact ⟨hs, Maps.has_put_same hm hkl _, fun z => Maps.atKey_put_same hm hkl _ z⟩
    · rename_i hne
      obtain ⟨ht, hh, ha⟩ := h3 t g' hg'
      have hl : t.lit ≠ s.lit := fun e => hne ((scmp_zero t s).2 (Sl.lit_inj ht hs e))
      exact ⟨ht, by rw [Maps.has_put_other hl]; exact hh, fun z => by rw [Maps.atKey_put_other hl]; exact ha z⟩

/-- What a look-up hands back. -/
def got (M : Sl → Option Gr) (s : Sl) : Gr := (M s).getD ⟨0, 0, ByteArray.empty⟩

section
variable (w : World) {ops : Array Oper} {rest : List Oper} {o : Oper} {a : Act} {Q : Exit → Act → World → Prop}
theorem wpList_st_look (hg : o.guard = none) (m x : Operand) (t : TypeId) (hop : o.op = Op.lookup t m x true) (ht : Tryd.prog.underlying t = some (.map 117 119)) (b n : Nat) (M : Sl → Option Gr)
    (hm : a.eval m = .map (some b)) (hown : StMap w b n M) (s : Sl) (hs : s.ok) (hx : a.eval x = s.val)
    (hK : wpList Tryd.prog ops Q rest (a.put o.dst (.tuple #[(got M s).val, .bool (M s).isSome])) w) :
    wpList Tryd.prog ops Q (o :: rest) a w := by
  obtain ⟨D, h1, h2, h3⟩ := hown
  refine wpList_lookup_own_ok w hg m x t hop 117 119 slotKeyed ht grElem (zeroGrade w) (Gr.dat ⟨0, 0, ByteArray.empty⟩) [] (grElem_mk _) b n D hm h1 s.val s.lit hx (keyOf_slot s hs) ?_
  intro v ps hv
  obtain ⟨g, rfl, hz⟩ := grElem_inv hv
  simp only [Prod.mk.injEq] at hz
  cases hM : M s with
  | none =>
    have hh := h2 s hs hM
    rw [hh]
    rw [Maps.atKey_of_not_has hh] at hz
    have : g = got M s := by unfold got; rw [hM]; exact (Gr.dat_inj hz.1).symm
    rw [this]
    rw [hM] at hK
    exact hK
  | some g' =>
    obtain ⟨_, hh, ha⟩ := h3 s g' hM
    rw [hh]
    rw [ha] at hz
    have : g = got M s := by unfold got; rw [hM]; exact (Gr.dat_inj hz.1).symm
    rw [this]
    rw [hM] at hK
    exact hK

theorem wpList_st_put (hg : o.guard = none) (m x v : Operand) (t : TypeId) (hop : o.op = Op.mapUpdate t m x v) (ht : Tryd.prog.underlying t = some (.map 117 119)) (b n : Nat) (M : Sl → Option Gr)
    (hm : a.eval m = .map (some b)) (hown : StMap w b n M) (hn : n < maxLen) (s : Sl) (g : Gr) (hs : s.ok) (hx : a.eval x = s.val) (hv : a.eval v = g.val)
    (hK : ∀ w', StMap w' b (n + 1) (upd M s g) → w.grownBy w' (some b) → wpList Tryd.prog ops Q rest (a.put o.dst undef) w') :
    wpList Tryd.prog ops Q (o :: rest) a w := by
  obtain ⟨D, h1, h2, h3⟩ := hown
  refine wpList_mapUpdate_own w hg m x v t hop 117 119 slotKeyed ht grElem b n D hm h1 hn s.val g.val s.lit hx hv (keyOf_slot s hs) g.dat [] (grElem_mk g) ?_
  intro w' r1 r2
  exact hK w' (upd_stMap hs h1.isMap h2 h3 r1) r2
end

/-- Nothing old has turned: so it is grown. -/
theorem below_grown {w w' : World} (h : Below w.heap.size w w') (row : Option Nat) : w.grownBy w' row := ⟨h.os, h.tape, h.output, h.size, fun i hi _ => h.block i hi⟩
theorem grown_trans {a b c : World} {row : Option Nat} (h : a.grownBy b row) (k : b.grownBy c row) : a.grownBy c row :=
  ⟨k.os.trans h.os, k.tape.trans h.tape, k.output.trans h.output, Nat.le_trans h.size k.size, fun i hi hne => (k.block i (Nat.lt_of_lt_of_le hi h.size) hne).trans (h.block i hi hne)⟩
theorem StMap.below {w w' : World} {b n : Nat} {M : Sl → Option Gr} (h : StMap w b n M) (hb : Below w.heap.size w w') : StMap w' b n M := h.kept (below_grown hb none) (by simp)
theorem StMap.ne_cell {w : World} {b n : Nat} {M : Sl → Option Gr} (h : StMap w b n M) {b' o : Nat} {v : Value} (hc : w.cell? ⟨b', o, none⟩ = some v) : b' ≠ b := by
  rintro rfl
  obtain ⟨D, ⟨es, clock, hb, _⟩, _⟩ := h
  simp [World.cell?, hb] at hc

/-- One atom joined into a state; a list. -/
def addA (M : Sl → Option Gr) (a : At) : Sl → Option Gr := upd M (slot a) (match M (slot a) with | none => grade a | some g => if gcmp g (grade a) < 0 then grade a else g)
def addTo (M : Sl → Option Gr) (l : List At) : Sl → Option Gr := l.foldl addA M
theorem addTo_succ (M : Sl → Option Gr) (l : List At) (k : Nat) (h : k < l.length) : addTo M (l.take (k + 1)) = addA (addTo M (l.take k)) l[k] := by
  unfold addTo
  rw [List.take_succ_eq_append_getElem h, List.foldl_append]
  rfl

theorem wf_small {n : Int} (h1 : -4294967296 ≤ n) (h2 : n ≤ 4294967296) : (Lit.int .i64 n).wf = true := by
  simp [Lit.wf, IntKind.min, IntKind.max, IntKind.bits, IntKind.signed]; omega
theorem slot_ok {a : At} (h : fits a) : (slot a).ok := by
  obtain ⟨a1, a2, a3, a4, a5, a6, a7, a8, a9, a10⟩ := h
  unfold slot Sl.ok maxLen
  split
  · dsimp only
    exact ⟨wf_small a1 a2, by omega, by decide, by decide, by simp⟩
  · dsimp only
    exact ⟨wf_small a1 a2, by omega, wf_small a3 a4, wf_small a5 a6, by omega⟩

end Go.Proofs.YtahdlejgjcjeoaaDoor
