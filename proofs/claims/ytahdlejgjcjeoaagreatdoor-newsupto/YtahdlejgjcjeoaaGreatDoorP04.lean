/- The laws' book: entries, marks, what keeps them; an append that says what it leaves. -/
import Derived.Test.YtahdlejgjcjeoaaGreatDoorProg
import Derived.Test.YtahdlejgjcjeoaaGreatDoorP03
import Derived.Maps.Own
import Derived.Maps.OwnSet
import Derived.Maps.OwnOps
import Derived.Maps.RangeWalk
import Derived.ProofKit
import Derived.ArgAppend
import Derived.Deep.DeepAppendRoom
namespace Go.Proofs.YtahdlejgjcjeoaaGreatDoor
open Go.RowKit Go.Maps
set_option maxRecDepth 100000

theorem laidOut : laidOutB Tryz.prog = true := by kernel_rfl
theorem typesTwo : decide (2 ≤ Tryz.prog.types.size) = true := by kernel_rfl
theorem typesSize : ∃ d, Tryz.prog.types.size + 1 = d + 2 := ⟨Tryz.prog.types.size - 1, by have := of_decide_eq_true typesTwo; omega⟩
theorem keyTypeSlot : Tryz.prog.keyType 172 = true := by kernel_rfl
theorem cellsSlot : Tryz.prog.cellsOf 172 = 5 := by kernel_rfl
theorem cellsInt : Tryz.prog.cellsOf 3 = 1 := by kernel_rfl
theorem cellsString : Tryz.prog.cellsOf 9 = 1 := by kernel_rfl

theorem slotKeyed : Keyed Tryz.prog 172 :=
  Keyed.of_law (deep_law_laid laidOut (m := 4) (by omega) (of_decide_eq_true (by kernel_rfl)) (by kernel_rfl) (by kernel_rfl))

def Sl.val (s : Sl) : Value := .agg #[.int .i64 s.ty, .string s.key, .int .i64 s.side, .int .i64 s.who, .string s.elem]
def Gr.val (g : Gr) : Value := .agg #[.int .i64 g.n, .int .i64 g.who, .string g.elem]
def Sl.lit (s : Sl) : Lit := .string (keyBytes [.int .i64 s.ty, .string s.key.data.toList, .int .i64 s.side, .int .i64 s.who, .string s.elem.data.toList])
/-- Numbers of 64 bits, texts that can be. -/
def Sl.ok (s : Sl) : Prop := (Lit.int .i64 s.ty).wf = true ∧ s.key.size ≤ maxLen ∧ (Lit.int .i64 s.side).wf = true ∧ (Lit.int .i64 s.who).wf = true ∧ s.elem.size ≤ maxLen

theorem keyOf_slot (s : Sl) (h : s.ok) : keyOf Tryz.prog 172 s.val = some s.lit := by
  obtain ⟨h1, h2, h3, h4, h5⟩ := h
  unfold keyOf
  rw [Tryz.underlying172]
  have hf : s.val.formed Tryz.prog 172 = true := by simp [Sl.val, Value.formed, Tryz.underlying172, cellsSlot]
  simp only [keyTypeSlot, hf, Bool.and_self, if_true]
  obtain ⟨d, hd⟩ := typesSize
  rw [hd]
  simp [Program.keyLits, Tryz.underlying172, cellsSlot, Sl.val, Value.cells, cellsInt, cellsString, Tryz.underlying3, Tryz.underlying9, h1, h2, h3, h4, h5, Sl.lit]

theorem int_cell (d : Nat) (c : Value) (ls : List Lit) (h : Tryz.prog.keyLits (d + 1) 3 [c] = some ls) : ∃ n, c = .int .i64 n := by
  unfold Program.keyLits at h
  rw [Tryz.underlying3] at h
  cases c <;> simp at h
  obtain ⟨⟨rfl, _⟩, _⟩ := h
  exact ⟨_, rfl⟩
theorem string_cell (d : Nat) (c : Value) (ls : List Lit) (h : Tryz.prog.keyLits (d + 1) 9 [c] = some ls) : ∃ s, c = .string s := by
  unfold Program.keyLits at h
  rw [Tryz.underlying9] at h
  cases c <;> simp at h
  exact ⟨_, rfl⟩
theorem slot_cells (d : Nat) (c0 c1 c2 c3 c4 : Value) (ls : List Lit) (h : Tryz.prog.keyLits (d + 2) 172 [c0, c1, c2, c3, c4] = some ls) : ∃ s : Sl, Value.agg #[c0, c1, c2, c3, c4] = s.val := by
  unfold Program.keyLits at h
  simp only [Tryz.underlying172, cellsSlot] at h
  split at h
  · simp only [List.mapM_cons, List.mapM_nil, Option.map_eq_some_iff, Option.bind_eq_bind, Option.bind_eq_some_iff, cellsInt, cellsString, List.drop_zero, List.take_succ_cons, List.take_zero, List.drop_succ_cons, Option.pure_def] at h
    obtain ⟨xs, ⟨x0, k0, y0, ⟨x1, k1, y1, ⟨x2, k2, y2, ⟨x3, k3, y3, ⟨x4, k4, _⟩, _⟩, _⟩, _⟩, _⟩, _⟩ := h
    obtain ⟨n0, rfl⟩ := int_cell d c0 _ k0
    obtain ⟨n1, rfl⟩ := string_cell d c1 _ k1
    obtain ⟨n2, rfl⟩ := int_cell d c2 _ k2
    obtain ⟨n3, rfl⟩ := int_cell d c3 _ k3
    obtain ⟨n4, rfl⟩ := string_cell d c4 _ k4
    exact ⟨⟨n0, n1, n2, n3, n4⟩, rfl⟩
  · cases h
theorem slot_key_inv (key : Value) (kl : Lit) (h : keyOf Tryz.prog 172 key = some kl) : ∃ s : Sl, key = s.val := by
  unfold keyOf at h
  simp only [Tryz.underlying172, keyTypeSlot, Bool.true_and] at h
  split at h
  · rename_i hf
    cases key with
    | agg cs =>
      simp only [Value.formed, Tryz.underlying172, cellsSlot, beq_iff_eq] at hf
      obtain ⟨d, hd⟩ := typesSize
      rw [hd] at h
      obtain ⟨l⟩ := cs
      match l, hf with
      | [c0, c1, c2, c3, c4], _ =>
        rw [Option.map_eq_some_iff] at h
        obtain ⟨ls, hls, _⟩ := h
        exact slot_cells d c0 c1 c2 c3 c4 ls hls
    | _ => simp [Value.formed, Tryz.underlying172] at hf
  · cases h

/-- How a grade reads. -/
def Gr.dat (g : Gr) : DataW Unit := .agg [.lit (.int .i64 g.n), .lit (.int .i64 g.who), .lit (.string g.elem.data.toList)]
def grElem (v : Value) : Option (DataW Unit × List MemPlace) :=
  match v with
  | .agg cs => match cs.toList with
    | [.int .i64 n, .int .i64 who, .string e] => some (.agg [.lit (.int .i64 n), .lit (.int .i64 who), .lit (.string e.data.toList)], [])
    | _ => none
  | _ => none
theorem grElem_mk (g : Gr) : grElem g.val = some (g.dat, []) := rfl
theorem grElem_inv {v : Value} {z : DataW Unit × List MemPlace} (h : grElem v = some z) : ∃ g : Gr, v = g.val ∧ z = (g.dat, []) := by
  unfold grElem at h
  split at h
  · rename_i cs
    obtain ⟨l⟩ := cs
    split at h
    · rename_i n who e hl
      simp only at hl
      subst hl
      cases h
      exact ⟨⟨n, who, e⟩, rfl, rfl⟩
    · cases h
  · cases h
theorem Gr.dat_inj {g h : Gr} (e : g.dat = h.dat) : g = h := by
  obtain ⟨n, w, x⟩ := g
  obtain ⟨n', w', x'⟩ := h
  simp only [Gr.dat, DataW.agg.injEq, List.cons.injEq, DataW.lit.injEq, Lit.int.injEq, Lit.string.injEq, and_true, true_and] at e
  obtain ⟨rfl, rfl, e⟩ := e
  have : x = x' := ByteArray.ext (Array.toList_inj.1 e)
  rw [this]

theorem zeroGrade (w : World) : (zeroValue 174).run Tryz.prog w = .ok (Gr.val ⟨0, 0, ByteArray.empty⟩) w := by kernel_rfl
theorem Sl.val_inj {s t : Sl} (h : s.val = t.val) : s = t := by
  obtain ⟨a, b, c, d, e⟩ := s
  obtain ⟨a', b', c', d', e'⟩ := t
  simp [Sl.val] at h
  obtain ⟨rfl, rfl, rfl, rfl, rfl⟩ := h
  rfl
theorem Sl.lit_inj {s t : Sl} (hs : s.ok) (ht : t.ok) (h : s.lit = t.lit) : s = t :=
  Sl.val_inj (slotKeyed.inj (keyOf_slot s hs) (by rw [h]; exact keyOf_slot t ht))

/-- THE MAP IN BLOCK b IS M (of at most n entries). -/
def StMap (w : World) (b n : Nat) (M : Sl → Option Gr) : Prop :=
  ∃ D : DataW Unit, w.ownsMap Tryz.prog 172 grElem b n D ∧ (∀ s, s.ok → M s = none → Maps.has D s.lit = false) ∧
    (∀ s g, M s = some g → s.ok ∧ Maps.has D s.lit = true ∧ ∀ z, D.atKey s.lit z = g.dat)

def upd (M : Sl → Option Gr) (s : Sl) (g : Gr) : Sl → Option Gr := fun t => if scmp t s = 0 then some g else M t

theorem stMap_made (w : World) : StMap (w.alloc (.map #[] 0)) w.heap.size 0 (fun _ => none) :=
  ⟨.map [], World.ownsMap_made w _ _ _, fun s _ _ => rfl, fun s g h => by cases h⟩

theorem StMap.kept {w w' : World} {b n : Nat} {M : Sl → Option Gr} {row : Option Nat} (h : StMap w b n M) (hg : w.grownBy w' row) (hne : some b ≠ row) : StMap w' b n M := by
  obtain ⟨D, h1, h2⟩ := h
  exact ⟨D, h1.kept hg hne, h2⟩
theorem StMap.lt {w : World} {b n : Nat} {M : Sl → Option Gr} (h : StMap w b n M) : b < w.heap.size := by
  obtain ⟨D, h1, _⟩ := h
  exact h1.lt
theorem StMap.mono {w : World} {b n n' : Nat} {M : Sl → Option Gr} (h : StMap w b n M) (hn : n ≤ n') : StMap w b n' M := by
  obtain ⟨D, h1, h2⟩ := h
  exact ⟨D, h1.mono hn, h2⟩

theorem upd_stMap {w' : World} {b n : Nat} {D : DataW Unit} {M : Sl → Option Gr} {s : Sl} {g : Gr} (hs : s.ok) (hm : Maps.IsMap D)
    (h2 : ∀ t, t.ok → M t = none → Maps.has D t.lit = false) (h3 : ∀ t g, M t = some g → t.ok ∧ Maps.has D t.lit = true ∧ ∀ z, D.atKey t.lit z = g.dat)
    (h1 : w'.ownsMap Tryz.prog 172 grElem b n (D.put s.lit g.dat)) : StMap w' b n (upd M s g) := by
  have hkl : WideAt.IsKeyLit s.lit := slotKeyed.key (keyOf_slot s hs)
  refine ⟨_, h1, fun t ht hn => ?_, fun t g' hg' => ?_⟩
  · unfold upd at hn
    split at hn
    · cases hn
    · rename_i hne
      have hl : t.lit ≠ s.lit := fun e => hne ((scmp_zero t s).2 (Sl.lit_inj ht hs e))
      rw [Maps.has_put_other hl]
      exact h2 t ht hn
  · unfold upd at hg'
    split at hg'
    · rename_i he
      obtain rfl := (scmp_zero t s).1 he
      cases hg'
      exact ⟨hs, Maps.has_put_same hm hkl _, fun z => Maps.atKey_put_same hm hkl _ z⟩
    · rename_i hne
      obtain ⟨ht, hh, ha⟩ := h3 t g' hg'
      have hl : t.lit ≠ s.lit := fun e => hne ((scmp_zero t s).2 (Sl.lit_inj ht hs e))
      exact ⟨ht, by rw [Maps.has_put_other hl]; exact hh, fun z => by rw [Maps.atKey_put_other hl]; exact ha z⟩

/-- What a look-up hands back. -/
def got (M : Sl → Option Gr) (s : Sl) : Gr := (M s).getD ⟨0, 0, ByteArray.empty⟩

section
variable (w : World) {ops : Array Oper} {rest : List Oper} {o : Oper} {a : Act} {Q : Exit → Act → World → Prop}
theorem wpList_st_look (hg : o.guard = none) (m x : Operand) (t : TypeId) (hop : o.op = Op.lookup t m x true) (ht : Tryz.prog.underlying t = some (.map 172 174)) (b n : Nat) (M : Sl → Option Gr)
    (hm : a.eval m = .map (some b)) (hown : StMap w b n M) (s : Sl) (hs : s.ok) (hx : a.eval x = s.val)
    (hK : wpList Tryz.prog ops Q rest (a.put o.dst (.tuple #[(got M s).val, .bool (M s).isSome])) w) :
    wpList Tryz.prog ops Q (o :: rest) a w := by
  obtain ⟨D, h1, h2, h3⟩ := hown
  refine wpList_lookup_own_ok w hg m x t hop 172 174 slotKeyed ht grElem (zeroGrade w) (Gr.dat ⟨0, 0, ByteArray.empty⟩) [] (grElem_mk _) b n D hm h1 s.val s.lit hx (keyOf_slot s hs) ?_
  intro v ps hv
  obtain ⟨g, rfl, hz⟩ := grElem_inv hv
  simp only [Prod.mk.injEq] at hz
  cases hM : M s with
  | none =>
    have hh := h2 s hs hM
    rw [hh]
    rw [Maps.atKey_of_not_has hh] at hz
    have : g = got M s := by unfold got; rw [hM]; exact (Gr.dat_inj hz.1).symm
    rw [this]
    rw [hM] at hK
    exact hK
  | some g' =>
    obtain ⟨_, hh, ha⟩ := h3 s g' hM
    rw [hh]
    rw [ha] at hz
    have : g = got M s := by unfold got; rw [hM]; exact (Gr.dat_inj hz.1).symm
    rw [this]
    rw [hM] at hK
    exact hK

theorem wpList_st_put (hg : o.guard = none) (m x v : Operand) (t : TypeId) (hop : o.op = Op.mapUpdate t m x v) (ht : Tryz.prog.underlying t = some (.map 172 174)) (b n : Nat) (M : Sl → Option Gr)
    (hm : a.eval m = .map (some b)) (hown : StMap w b n M) (hn : n < maxLen) (s : Sl) (g : Gr) (hs : s.ok) (hx : a.eval x = s.val) (hv : a.eval v = g.val)
    (hK : ∀ w', StMap w' b (n + 1) (upd M s g) → w.grownBy w' (some b) → wpList Tryz.prog ops Q rest (a.put o.dst undef) w') :
    wpList Tryz.prog ops Q (o :: rest) a w := by
  obtain ⟨D, h1, h2, h3⟩ := hown
  refine wpList_mapUpdate_own w hg m x v t hop 172 174 slotKeyed ht grElem b n D hm h1 hn s.val g.val s.lit hx hv (keyOf_slot s hs) g.dat [] (grElem_mk g) ?_
  intro w' r1 r2
  exact hK w' (upd_stMap hs h1.isMap h2 h3 r1) r2
end

/-- Nothing old has turned: so it is grown. -/
theorem below_grown {w w' : World} (h : Below w.heap.size w w') (row : Option Nat) : w.grownBy w' row := ⟨h.os, h.tape, h.output, h.size, fun i hi _ => h.block i hi⟩
theorem grown_trans {a b c : World} {row : Option Nat} (h : a.grownBy b row) (k : b.grownBy c row) : a.grownBy c row :=
  ⟨k.os.trans h.os, k.tape.trans h.tape, k.output.trans h.output, Nat.le_trans h.size k.size, fun i hi hne => (k.block i (Nat.lt_of_lt_of_le hi h.size) hne).trans (h.block i hi hne)⟩
theorem StMap.below {w w' : World} {b n : Nat} {M : Sl → Option Gr} (h : StMap w b n M) (hb : Below w.heap.size w w') : StMap w' b n M := h.kept (below_grown hb none) (by simp)
theorem StMap.ne_cell {w : World} {b n : Nat} {M : Sl → Option Gr} (h : StMap w b n M) {b' o : Nat} {v : Value} (hc : w.cell? ⟨b', o, none⟩ = some v) : b' ≠ b := by
  rintro rfl
  obtain ⟨D, ⟨es, clock, hb, _⟩, _⟩ := h
  simp [World.cell?, hb] at hc

/-- One atom joined into a state; a list. -/
def addA (M : Sl → Option Gr) (a : At) : Sl → Option Gr := upd M (slot a) (match M (slot a) with | none => grade a | some g => if gcmp g (grade a) < 0 then grade a else g)
def addTo (M : Sl → Option Gr) (l : List At) : Sl → Option Gr := l.foldl addA M
theorem addTo_succ (M : Sl → Option Gr) (l : List At) (k : Nat) (h : k < l.length) : addTo M (l.take (k + 1)) = addA (addTo M (l.take k)) l[k] := by
  unfold addTo
  rw [List.take_succ_eq_append_getElem h, List.foldl_append]
  rfl

theorem wf_small {n : Int} (h1 : -4294967296 ≤ n) (h2 : n ≤ 4294967296) : (Lit.int .i64 n).wf = true := by
  simp [Lit.wf, IntKind.min, IntKind.max, IntKind.bits, IntKind.signed]; omega
theorem slot_ok {a : At} (h : fits a) : (slot a).ok := by
  obtain ⟨a1, a2, a3, a4, a5, a6, a7, a8, a9, a10⟩ := h
  unfold slot Sl.ok maxLen
  split
  · dsimp only
    exact ⟨wf_small a1 a2, by omega, by decide, by decide, by simp⟩
  · dsimp only
    exact ⟨wf_small a1 a2, by omega, wf_small a3 a4, wf_small a5 a6, by omega⟩

end Go.Proofs.YtahdlejgjcjeoaaGreatDoor

namespace Go.Proofs.YtahdlejgjcjeoaaGreatDoor
open Go.RowKit

theorem wpList_append_two {P : Program} (w : World) {ops : Array Oper} {rest : List Oper} {o : Oper} {a : Act} {Q : Exit → Act → World → Prop} (hgd : o.guard = none) (s x : Operand) (t : TypeId)
    (ho : o.op = .call { callee := .builtin .append, args := #[s, x], argTypes := #[t, t] })
    (base : Nat) (e : TypeId) (i : TypeInfo) (z : Value) (size bytes : Nat) (ht : P.underlying t = some (.slice e)) (hi : P.info? e = some i) (hz : i.zero = some z)
    (hsize : i.size = size) (hby : i.bytes = bytes) (hzs : z.cells.size = size) (hsz : 0 < size)
    (v : Value) (n : Nat) (xs : List Value) (hs : a.eval s = v) (hown : w.ownsRow base e size v n xs)
    (ad : Addr) (m c : Nat) (news : List Value) (hx : a.eval x = .slice (some ad) m c) (hl : news.length = m * size) (hnews : ∀ j u, news[j]? = some u → w.cell? (ad.add j) = some u) (h1 : ∀ u ∈ news, u.oneCell' = true)
    (hm : 0 < m) (h63 : n + m ≤ maxLen) (hbytes : (n + m) * bytes ≤ 140737488355328) (hbase : base ≤ w.heap.size)
    (h : ∀ g cap w', w'.ownsRow base e size (.slice (some ⟨g, 0, none⟩) (n + m) cap) (n + m) (xs ++ news) → ((w.grownBy w' none ∧ w.heap.size ≤ g) ∨ (v.ownBlock = some g ∧ w.grownBy w' (some g))) → wpList P ops Q rest (a.put o.dst (.slice (some ⟨g, 0, none⟩) (n + m) cap)) w') : wpList P ops Q (o :: rest) a w := by
  have fin : ∀ v' w', w'.ownsRow w.heap.size e size v' (n + m) (xs ++ news) → w.grownBy w' none → wpList P ops Q rest (a.put o.dst v') w' := by
    intro v' w' r1 r2
    rcases r1.2 with ⟨_, h0⟩ | ⟨g, cap, cur, rfl, hg, _⟩
    · omega
    · exact h g cap w' (owns_mono r1 hbase) (.inl ⟨r2, hg⟩)
  rcases hown.2 with ⟨rfl, hn0⟩ | ⟨g, cap, cur, rfl, hg, hh, k1, k2, k3, k4⟩
  · refine wpList_append_grows w hgd s x t ho e i z size bytes ht hi hz hsize hby hzs hsz none n 0 xs (by rw [hs, hn0]) (fun _ => ⟨hn0, rfl⟩) hown.1 (fun b hb => by cases hb) ad m c news hx hl hnews h1 (by omega) h63 hbytes fin
  · by_cases hr : n + m ≤ cap
    · exact wpList_append_own_spare w hgd s x t ho base e i size ht hi hsize g n cap xs hs hown ad m c news hx hl hnews h1 hr (fun w' r1 r2 => h g cap w' r1 (.inr ⟨rfl, r2⟩))
    · refine wpList_append_grows w hgd s x t ho e i z size bytes ht hi hz hsize hby hzs hsz (some ⟨g, 0, none⟩) n cap xs hs (fun hb => by cases hb) hown.1 (fun b hb j u hu => ?_) ad m c news hx hl hnews h1 (by omega) h63 hbytes fin
      cases hb
      have hj : j < xs.length := (List.getElem?_eq_some_iff.1 hu).1
      refine World.news_of_block hh j u ?_
      rw [← k4, List.getElem?_take] at hu
      split at hu
      · exact hu
      · cases hu

/-- The k-th mark. -/
def mark (k : Int) : At := ⟨-1 - k, ⟨#[109, 97, 114, 107]⟩, 0, 0, ⟨#[]⟩, 0⟩

set_option maxHeartbeats 400000 in
theorem atomOf_any (k : Int) (w : World) (h0 : 0 ≤ k) (h1 : k ≤ 16777216) : Calls Tryz.prog 38 #[.int .i64 k] w fun e w' => e = .returned (.agg #[.int .i64 (mark k).ty, .string (mark k).key, .int .i64 (mark k).side, .int .i64 (mark k).who, .string (mark k).elem, .int .i64 (mark k).n]) ∧ Below w.heap.size w w' := by
  go_enter Tryz.func38, Tryz.ntmps38
  go_wp2
  refine bodyPost_ret (v := (mark k).val) (by simp [results, Tryz.results38, go_sem, At.val, mark]) rfl ⟨rfl, ?_⟩
  go_light
  repeat (first | exact Below.refl _ _ | refine below_alloc ?_ _)

theorem SliceOf.grown {w w' : World} {row : Option Nat} {v : Value} {l : List At} (h : SliceOf w v l) (hg : w.grownBy w' row) (hne : ∀ q, v.ownBlock = some q → some q ≠ row) : SliceOf w' v l := by
  obtain ⟨ad, cap, rfl, hcap, H⟩ := h
  refine ⟨ad, cap, rfl, hcap, fun h0 => ?_⟩
  obtain ⟨b, off, rfl, hlt, hrow⟩ := H h0
  refine ⟨b, off, rfl, Nat.lt_of_lt_of_le hlt hg.size, fun k hk => ?_⟩
  have hb : some b ≠ row := hne b rfl
  obtain ⟨c0, c1, c2, c3, c4, c5⟩ := hrow k hk
  exact ⟨hg.cell c0 hb, hg.cell c1 hb, hg.cell c2 hb, hg.cell c3 hb, hg.cell c4 hb, hg.cell c5 hb⟩

/-- The cells of the entries. -/
def flatE (es : List (Value × Int)) : List Value := es.flatMap fun p => [p.1, .int .i64 p.2]

structure BookInv (w : World) (B : Nat) (va : Value) (es : List (Value × Int)) : Prop where
  c0 : w.cell? ⟨B, 0, none⟩ = some va
  c1 : w.cell? ⟨B, 1, none⟩ = some (.slice none 0 0)
  c2 : w.cell? ⟨B, 2, none⟩ = some (.slice none 0 0)
  c3 : w.cell? ⟨B, 3, none⟩ = some (.slice none 0 0)
  fz : ∀ o, w.frozen? ⟨B, o, none⟩ = false
  row : w.ownsRow (B + 1) 75 2 va es.length (flatE es)
  good : ∀ p ∈ es, ∃ n, n ≤ 16777216 ∧ SliceOf w p.1 (List.replicate n (mark p.2))
  bnd : ∀ p ∈ es, 0 ≤ p.2 ∧ p.2 ≤ 1000000
  sep : ∀ p ∈ es, ∀ q, p.1.ownBlock = some q → q < w.heap.size ∧ q ≠ B ∧ some q ≠ va.ownBlock

theorem owns_grown' {w w' : World} {base : Nat} {row : Option Nat} {e : TypeId} {s n : Nat} {v : Value} {xs : List Value} (h : w.ownsRow base e s v n xs) (hg : w.grownBy w' row) (hr : ∀ q, v.ownBlock = some q → some q ≠ row) : w'.ownsRow base e s v n xs := by
  obtain ⟨h0, h⟩ := h
  refine ⟨h0, ?_⟩
  rcases h with h | ⟨g, cap, cur, rfl, hgb, hh, k⟩
  · exact .inl h
  · exact .inr ⟨g, cap, cur, rfl, hgb, by rw [hg.block g (Array.getElem?_eq_some_iff.1 hh).1 (hr g rfl)]; exact hh, k⟩

theorem BookInv.lt {w : World} {B : Nat} {va : Value} {es : List (Value × Int)} (h : BookInv w B va es) : B < w.heap.size := by
  obtain ⟨c, e, fr, hb, _⟩ := Go.Sort.cells_of_cell? h.c0
  exact (Array.getElem?_eq_some_iff.1 hb).1

theorem BookInv.kept {w w' : World} {B : Nat} {va : Value} {es : List (Value × Int)} {row : Option Nat} (h : BookInv w B va es) (hg : w.grownBy w' row) (hB : some B ≠ row) (hva : ∀ q, va.ownBlock = some q → some q ≠ row) (hes : ∀ p ∈ es, ∀ q, p.1.ownBlock = some q → some q ≠ row) : BookInv w' B va es where
  c0 := hg.cell h.c0 hB
  c1 := hg.cell h.c1 hB
  c2 := hg.cell h.c2 hB
  c3 := hg.cell h.c3 hB
  fz o := by rw [← h.fz o]; exact World.frozen?_of_block (w := w) (hg.block B h.lt hB)
  row := owns_grown' h.row hg hva
  good p hp := by obtain ⟨n, hnb, hn⟩ := h.good p hp; exact ⟨n, hnb, hn.grown hg (hes p hp)⟩
  bnd := h.bnd
  sep p hp q hq := ⟨Nat.lt_of_lt_of_le (h.sep p hp q hq).1 hg.size, (h.sep p hp q hq).2⟩

theorem BookInv.below {w w' : World} {B : Nat} {va : Value} {es : List (Value × Int)} (h : BookInv w B va es) (hb : Below w.heap.size w w') : BookInv w' B va es :=
  h.kept (below_grown hb none) (by simp) (by simp) (by simp)

end Go.Proofs.YtahdlejgjcjeoaaGreatDoor
