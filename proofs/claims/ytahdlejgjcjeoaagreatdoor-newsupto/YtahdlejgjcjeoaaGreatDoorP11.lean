/- The document's cluster in memory. -/
import Derived.Test.YtahdlejgjcjeoaaGreatDoorP10
namespace Go.Proofs.YtahdlejgjcjeoaaGreatDoor
open Go.RowKit

/-- An element of Taken, of Log, of Net, as they lie. -/
structure Tk where
  num : Nat
  org : Nat
  v : Value
  d : List At
  kept : Bool
def Tk.cells (t : Tk) : List Value := [.int .i64 t.num, .int .i64 t.org, t.v, .bool t.kept]
def Tk.ent (t : Tk) : Ent := ⟨t.num, t.org, t.d⟩
structure Rc where
  kind : Nat
  num : Nat
  v : Value
  d : List At
  torn : Bool
  bytes : ByteArray
def Rc.cells (r : Rc) : List Value := [.int .i64 r.kind, .int .i64 r.num, r.v, .bool r.torn, .string r.bytes]
def Rc.rec' (r : Rc) : Rec := ⟨r.kind, r.num, r.d⟩
structure Fm where
  f : Frm
  v : Value
def Fm.cells (m : Fm) : List Value := [.int .i64 m.f.kind, .int .i64 m.f.src, .int .i64 m.f.dst, .int .i64 m.f.upto, m.v]

structure RefD where
  ρ : Nat
  va : Value
  vt : Value
  vn : Value
  vk : Value
  vl : Value
  ts : List Tk
  rs : List Rc
def RefD.block (D : RefD) (p : Rep) : Array Value := #[.bool p.down, D.va, .int .i64 p.num, .int .i64 p.base, D.vt, D.vn, D.vk, D.vl, .int .i64 p.frames, .int .i64 p.weight]

/-- The records of a log: whole ones; at the end there may be a torn one, if the replica is down. -/
def LogIs (rs : List Rc) (p : Rep) : Prop :=
  ∃ A B, rs = A ++ B ∧ (∀ r ∈ A, r.torn = false) ∧ A.map Rc.rec' = p.log ∧ ((B = [] ∧ p.torn = []) ∨ ∃ r, B = [r] ∧ r.torn = true ∧ r.bytes = bstr p.torn ∧ p.down = true)

def ints (l : List Nat) : List Value := l.map fun n : Nat => .int .i64 (n : Int)

/-- A replica but for its own block. -/
structure RefRest (w : World) (col : Col) (o i : Nat) (near : List Bool) (D : RefD) (p : Rep) : Prop where
  atoms : Held w col (o, 1) D.va p.atoms
  taken : RowC w col (o, 20 + i) 156 4 D.vt D.ts.length (D.ts.flatMap Tk.cells)
  tkd : ∀ t ∈ D.ts, Held w col (o, 1) t.v t.d
  tsl : D.ts.length ≤ p.num
  buf : (D.ts.filter (·.kept)).map Tk.ent = p.buf
  near : RowC w col (o, 30 + i) 4 1 D.vn near.length (near.map Value.bool)
  acked : RowC w col (o, 40 + i) 3 1 D.vk p.acked.length (ints p.acked)
  log : RowC w col (o, 50 + i) 144 5 D.vl D.rs.length (D.rs.flatMap Rc.cells)
  rcd : ∀ r ∈ D.rs, Held w col (o, 1) r.v r.d
  logs : LogIs D.rs p
structure RefRep (w : World) (col : Col) (o i : Nat) (near : List Bool) (D : RefD) (p : Rep) : Prop extends RefRest w col o i near D p where
  blk : w.heap[D.ρ]? = some (.cells (D.block p) 133 (0, 0))
  cρ : col D.ρ = (o, 10 + i)

/-- The colours of one replica. -/
def ofRep (o i : Nat) : Nat × Nat → Prop := fun κ => κ.1 = o ∧ 10 ≤ κ.2 ∧ κ.2 % 10 = i
theorem RefRest.kept {w w' : World} {col col' : Col} {S : Nat × Nat → Prop} {o i : Nat} {near : List Bool} {D : RefD} {p : Rep} (h : RefRest w col o i near D p) (hf : FrC S col col' w w') (h1 : ¬ S (o, 1)) (hS : ∀ k, k = 2 ∨ k = 3 ∨ k = 4 ∨ k = 5 → ¬ S (o, k * 10 + i)) : RefRest w' col' o i near D p where
  atoms := h.atoms.kept hf h1
  taken := h.taken.kept hf (hS 2 (by omega))
  tkd t ht := (h.tkd t ht).kept hf h1
  tsl := h.tsl
  buf := h.buf
  near := h.near.kept hf (hS 3 (by omega))
  acked := h.acked.kept hf (hS 4 (by omega))
  log := h.log.kept hf (hS 5 (by omega))
  rcd r hr := (h.rcd r hr).kept hf h1
  logs := h.logs
theorem RefRep.kept {w w' : World} {col col' : Col} {S : Nat × Nat → Prop} {o i : Nat} {near : List Bool} {D : RefD} {p : Rep} (h : RefRep w col o i near D p) (hf : FrC S col col' w w') (h1 : ¬ S (o, 1)) (hS : ∀ k, k = 1 ∨ k = 2 ∨ k = 3 ∨ k = 4 ∨ k = 5 → ¬ S (o, k * 10 + i)) : RefRep w' col' o i near D p :=
  { h.toRefRest.kept hf h1 (fun k hk => hS k (by omega)) with
    blk := hf.block h.blk (by rw [h.cρ]; exact hS 1 (by omega))
    cρ := (hf.colB h.blk).trans h.cρ }
theorem RefRep.below {w w' : World} {col : Col} {o i : Nat} {near : List Bool} {D : RefD} {p : Rep} (h : RefRep w col o i near D p) (hb : Below w.heap.size w w') (κ : Nat × Nat) : RefRep w' (paint col w.heap.size κ) o i near D p :=
  h.kept (S := fun _ => False) (frC_below hb κ) id fun _ _ => id
/-- A cell of the replica's own block is written. -/
theorem RefRep.set {w : World} {col : Col} {o i k : Nat} {near : List Bool} {D D' : RefD} {p p' : Rep} {u : Value} (h : RefRep w col o i near D p) (hi : i < 6) (hb : (D.block p).setIfInBounds k u = D'.block p') (hρ : D'.ρ = D.ρ) (hr : RefRest w col o i near D' p') :
    RefRep (w.setCell ⟨D.ρ, k, none⟩ u) col o i near D' p' ∧ FrC (ofRep o i) col col w (w.setCell ⟨D.ρ, k, none⟩ u) := by
  have hS : ofRep o i (col D.ρ) := by rw [h.cρ]; exact ⟨rfl, by show 10 ≤ 10 + i; omega, by show (10 + i) % 10 = i; omega⟩
  have hf : FrC (fun x => x = (o, 10 + i)) col col w (w.setCell ⟨D.ρ, k, none⟩ u) := frC_setCell k u h.cρ
  refine ⟨{ hr.kept hf (fun e => by have := congrArg Prod.snd e; simp only at this; omega) (fun j hj e => by have := congrArg Prod.snd e; simp only at this; omega) with blk := ?_, cρ := by rw [hρ]; exact h.cρ }, frC_setCell k u hS⟩
  rw [hρ, ← hb]
  exact heap_setCell_at h.blk u

def nearRow (c : Clu) (i : Nat) : List Bool := (List.range c.reps.length).map (c.near i)

structure RefC where
  vR : Value
  vN : Value
  Ds : List RefD
  ns : List Fm

structure RefAt (w : World) (col : Col) (o x : Nat) (K : RefC) (c : Clu) : Prop where
  blk : w.heap[x]? = some (.cells #[.int .i64 c.reps.length, .slice none 0 0, .bool c.bp, .bool c.rr, .int .i64 c.room, K.vR, K.vN] 95 (0, 0))
  cx : col x = (o, 0)
  rows : RowC w col (o, 2) 129 1 K.vR K.Ds.length (K.Ds.map fun D => .pointer (some ⟨D.ρ, 0, none⟩))
  net : RowC w col (o, 3) 154 5 K.vN K.ns.length (K.ns.flatMap Fm.cells)
  netd : ∀ f ∈ K.ns, Held w col (o, 1) f.v f.f.d
  nets : K.ns.map Fm.f = c.net
  len : K.Ds.length = c.reps.length
  reps : ∀ i (h : i < K.Ds.length) (h' : i < c.reps.length), RefRep w col o i (nearRow c i) (K.Ds[i]) (c.reps[i])

theorem RefAt.kept {w w' : World} {col col' : Col} {S : Nat × Nat → Prop} {o x : Nat} {K : RefC} {c : Clu} (h : RefAt w col o x K c) (hf : FrC S col col' w w') (hS : ∀ k, ¬ S (o, k)) : RefAt w' col' o x K c where
  blk := hf.block h.blk (by rw [h.cx]; exact hS 0)
  cx := (hf.colB h.blk).trans h.cx
  rows := h.rows.kept hf (hS 2)
  net := h.net.kept hf (hS 3)
  netd f hm := (h.netd f hm).kept hf (hS 1)
  nets := h.nets
  len := h.len
  reps i hi hi' := (h.reps i hi hi').kept hf (hS 1) fun k _ => hS _
theorem RefAt.below {w w' : World} {col : Col} {o x : Nat} {K : RefC} {c : Clu} (h : RefAt w col o x K c) (hb : Below w.heap.size w w') (κ : Nat × Nat) : RefAt w' (paint col w.heap.size κ) o x K c :=
  h.kept (S := fun _ => False) (frC_below hb κ) fun _ => id
theorem RefAt.same {w w' : World} {col : Col} {o x : Nat} {K : RefC} {c : Clu} (h : RefAt w col o x K c) (hb : Below w.heap.size w w') : RefAt w' col o x K c :=
  h.kept (S := fun _ => False) (frC_same hb) fun _ => id

/-- One replica has turned. -/
theorem RefAt.setRep {w w' : World} {col col' : Col} {o x i : Nat} {K : RefC} {c : Clu} {D' : RefD} {p' : Rep} (h : RefAt w col o x K c) (h6 : c.reps.length ≤ 6) (hi : i < c.reps.length) (hf : FrC (ofRep o i) col col' w w') (hρ : ∀ h' : i < K.Ds.length, D'.ρ = (K.Ds[i]).ρ) (hp : RefRep w' col' o i (nearRow c i) D' p') :
    RefAt w' col' o x { K with Ds := K.Ds.set i D' } (c.setRep i p') where
  blk := by
    have := hf.block h.blk (by rw [h.cx]; unfold ofRep; simp)
    simpa [Clu.setRep] using this
  cx := (hf.colB h.blk).trans h.cx
  rows := by
    have hr := h.rows.kept hf (by unfold ofRep; simp)
    have he : (K.Ds.set i D').map (fun D => Value.pointer (some ⟨D.ρ, 0, none⟩)) = K.Ds.map (fun D => Value.pointer (some ⟨D.ρ, 0, none⟩)) := by
      apply List.ext_getElem?
      intro j
      simp only [List.getElem?_map, List.getElem?_set]
      split
      · rename_i e
        subst e
        split
        · rename_i hl
          rw [List.getElem?_eq_getElem hl]
          simp [hρ hl]
        · rename_i hl
          rw [List.getElem?_eq_none (by omega)]
      · rfl
    show RowC w' col' (o, 2) _ 1 K.vR (K.Ds.set i D').length ((K.Ds.set i D').map _)
    rw [he, List.length_set]
    exact hr
  net := h.net.kept hf (by unfold ofRep; simp)
  netd f hm := (h.netd f hm).kept hf (by unfold ofRep; simp)
  nets := h.nets
  len := by simpa [Clu.setRep] using h.len
  reps j hj hj' := by
    have hjc : j < c.reps.length := by simpa [Clu.setRep] using hj'
    have hjK : j < K.Ds.length := by simpa using hj
    have hn : nearRow (c.setRep i p') j = nearRow c j := by simp [nearRow, Clu.setRep]
    rw [hn]
    by_cases e : j = i
    · subst e
      simpa [Clu.setRep] using hp
    · have := (h.reps j hjK hjc).kept hf (by unfold ofRep; simp) (fun k _ => by unfold ofRep; simp only; omega)
      simpa [Clu.setRep, Ne.symm e] using this

/-- What a walk wants to know of a replica's block. -/
theorem RefRep.cells {w : World} {col : Col} {o i : Nat} {near : List Bool} {D : RefD} {p : Rep} (h : RefRep w col o i near D p) :
    w.cell? ⟨D.ρ, 0, none⟩ = some (.bool p.down) ∧ w.cell? ⟨D.ρ, 1, none⟩ = some D.va ∧ w.cell? ⟨D.ρ, 2, none⟩ = some (.int .i64 p.num) ∧ w.cell? ⟨D.ρ, 3, none⟩ = some (.int .i64 p.base) ∧ w.cell? ⟨D.ρ, 4, none⟩ = some D.vt ∧
    w.cell? ⟨D.ρ, 5, none⟩ = some D.vn ∧ w.cell? ⟨D.ρ, 6, none⟩ = some D.vk ∧ w.cell? ⟨D.ρ, 7, none⟩ = some D.vl ∧ w.cell? ⟨D.ρ, 8, none⟩ = some (.int .i64 p.frames) ∧ w.cell? ⟨D.ρ, 9, none⟩ = some (.int .i64 p.weight) ∧ ∀ k, w.frozen? ⟨D.ρ, k, none⟩ = false :=
  ⟨blk_cell h.blk 0, blk_cell h.blk 1, blk_cell h.blk 2, blk_cell h.blk 3, blk_cell h.blk 4, blk_cell h.blk 5, blk_cell h.blk 6, blk_cell h.blk 7, blk_cell h.blk 8, blk_cell h.blk 9, blk_thaw h.blk⟩
theorem RefAt.cells {w : World} {col : Col} {o x : Nat} {K : RefC} {c : Clu} (h : RefAt w col o x K c) :
    w.cell? ⟨x, 0, none⟩ = some (.int .i64 c.reps.length) ∧ w.cell? ⟨x, 1, none⟩ = some (.slice none 0 0) ∧ w.cell? ⟨x, 2, none⟩ = some (.bool c.bp) ∧ w.cell? ⟨x, 3, none⟩ = some (.bool c.rr) ∧ w.cell? ⟨x, 4, none⟩ = some (.int .i64 c.room) ∧ w.cell? ⟨x, 5, none⟩ = some K.vR ∧ w.cell? ⟨x, 6, none⟩ = some K.vN ∧ ∀ k, w.frozen? ⟨x, k, none⟩ = false :=
  ⟨blk_cell h.blk 0, blk_cell h.blk 1, blk_cell h.blk 2, blk_cell h.blk 3, blk_cell h.blk 4, blk_cell h.blk 5, blk_cell h.blk 6, blk_thaw h.blk⟩
/-- The pointer to a replica. -/
theorem RefAt.ptr {w : World} {col : Col} {o x i : Nat} {K : RefC} {c : Clu} (h : RefAt w col o x K c) (hi : i < c.reps.length) : ∃ g cap D, K.vR = .slice (some ⟨g, 0, none⟩) c.reps.length cap ∧ c.reps.length ≤ cap ∧ K.Ds[i]? = some D ∧ w.cell? ⟨g, i, none⟩ = some (.pointer (some ⟨D.ρ, 0, none⟩)) ∧ RefRep w col o i (nearRow c i) D (c.rep i) := by
  have hk : i < K.Ds.length := by rw [h.len]; exact hi
  obtain ⟨g, cap, hv, hc, _, _, _, hcell, _⟩ := h.rows.at (by omega)
  rw [h.len] at hv hc
  refine ⟨g, cap, K.Ds[i], hv, hc, List.getElem?_eq_getElem hk, hcell i _ (by simp [hk]), ?_⟩
  have := h.reps i hk hi
  simpa [Clu.rep, hi] using this

end Go.Proofs.YtahdlejgjcjeoaaGreatDoor
