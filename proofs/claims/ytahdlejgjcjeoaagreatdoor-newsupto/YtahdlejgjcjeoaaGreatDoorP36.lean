/- A region that draws its order and ends in one store: a condition on the world that holds behind every operation but that last one. -/
import Derived.Test.YtahdlejgjcjeoaaGreatDoorP17
import Derived.Test.YtahdlejgjcjeoaaGreatDoorP11
import Derived.Test.YtahdlejgjcjeoaaGreatDoorProg
import Derived.OrdersHeld
import Derived.Deep.RegionHeld3
namespace Go.Proofs.YtahdlejgjcjeoaaGreatDoor
open Go.RowKit

structure PreAt (w : World) (col : Col) (o x n rm : Nat) (bp rr : Bool) (vR : Value) (Ds : List RefD) (f : Nat → Nat → Bool) : Prop where
  blk : w.heap[x]? = some (.cells #[.int .i64 n, .slice none 0 0, .bool bp, .bool rr, .int .i64 rm, vR, .slice none 0 0] 95 (0, 0))
  cx : col x = (o, 0)
  rows : RowC w col (o, 2) 129 1 vR Ds.length (Ds.map fun D => .pointer (some ⟨D.ρ, 0, none⟩))
  reps : ∀ i (h : i < Ds.length), RefRep w col o i ((List.range n).map (f i)) Ds[i] (rep0 n)

def newD (ρ nb ab n : Nat) : RefD := ⟨ρ, .slice none 0 0, .slice none 0 0, .slice (some ⟨nb, 0, none⟩) n n, .slice (some ⟨ab, 0, none⟩) n n, .slice none 0 0, [], []⟩
def newCol (col : Col) (s o i nb ab ρ : Nat) : Col := fun q => if q < s then col q else if q = nb then (o, 30 + i) else if q = ab then (o, 40 + i) else if q = ρ then (o, 10 + i) else (o, 2)

theorem owns_whole {w : World} {g n : Nat} {e : TypeId} {l : List Value} (h : w.heap[g]? = some (.cells l.toArray e (0, 0))) (hl : l.length = n) (hn : n ≤ maxLen) : w.ownsRow 0 e 1 (.slice (some ⟨g, 0, none⟩) n n) n l :=
  ⟨by omega, .inr ⟨g, n, l.toArray, rfl, Nat.zero_le _, h, Nat.le_refl _, hn, by simp [hl], by simp [← hl]⟩⟩

theorem PreAt.push {w wA w3 : World} {col : Col} {o x n rm nb ab ρ g cap : Nat} {bp rr : Bool} {vR : Value} {Ds : List RefD} (h : PreAt w col o x n rm bp rr vR Ds noE) (h6 : n ≤ 6) (_hi6 : Ds.length < 6) (hA : Below w.heap.size w wA)
    (hnb : wA.heap[nb]? = some (.cells (List.replicate n (Value.bool false)).toArray 4 (0, 0))) (hab : wA.heap[ab]? = some (.cells (ints (List.replicate n 0)).toArray 3 (0, 0)))
    (hρ : wA.heap[ρ]? = some (.cells #[.bool false, .slice none 0 0, .int .i64 0, .int .i64 0, .slice none 0 0, .slice (some ⟨nb, 0, none⟩) n n, .slice (some ⟨ab, 0, none⟩) n n, .slice none 0 0, .int .i64 0, .int .i64 0] 133 (0, 0)))
    (nn : w.heap.size ≤ nb) (na : w.heap.size ≤ ab) (nρ : w.heap.size ≤ ρ) (hown : w3.ownsRow 0 129 1 (.slice (some ⟨g, 0, none⟩) (Ds.length + 1) cap) (Ds.length + 1) ((Ds.map fun D => Value.pointer (some ⟨D.ρ, 0, none⟩)) ++ [.pointer (some ⟨ρ, 0, none⟩)]))
    (hg : wA.grownBy w3 vR.ownBlock) (hat : vR.ownBlock = some g ∨ g = wA.heap.size) :
    PreAt (w3.setCell ⟨x, 5, none⟩ (.slice (some ⟨g, 0, none⟩) (Ds.length + 1) cap)) (newCol col w.heap.size o Ds.length nb ab ρ) o x n rm bp rr (.slice (some ⟨g, 0, none⟩) (Ds.length + 1) cap) (Ds ++ [newD ρ nb ab n]) noE ∧
      FrC (fun κ => κ = (o, 0) ∨ κ = (o, 2)) col (newCol col w.heap.size o Ds.length nb ab ρ) w (w3.setCell ⟨x, 5, none⟩ (.slice (some ⟨g, 0, none⟩) (Ds.length + 1) cap)) := by
  have hxl := blk_lt h.blk
  have hsA := hA.size
  have gs := grown_setCell w3 ⟨x, 5, none⟩ (.slice (some ⟨g, 0, none⟩) (Ds.length + 1) cap)
  have hvl : ∀ q, vR.ownBlock = some q → q < w.heap.size := own_lt h.rows.own
  have hxv : vR.ownBlock ≠ some x := fun e => by
    have := h.rows.col x e
    rw [h.cx] at this
    simp at this
  have hxg : x ≠ g := by
    rcases hat with e | e
    · exact fun e' => hxv (by rw [e, e'])
    · omega
  have hf : FrC (fun κ => κ = (o, 0) ∨ κ = (o, 2)) col (newCol col w.heap.size o Ds.length nb ab ρ) w (w3.setCell ⟨x, 5, none⟩ (.slice (some ⟨g, 0, none⟩) (Ds.length + 1) cap)) := by
    refine ⟨((((Fr.refl _ w).below hA).step hg fun q hq => .inr (.inr (h.rows.col q hq))).step gs fun q hq => ?_), fun q hq => if_pos hq⟩
    cases hq
    exact .inr (.inl h.cx)
  have keep : ∀ q b, w.heap.size ≤ q → wA.heap[q]? = some b → (w3.setCell ⟨x, 5, none⟩ (.slice (some ⟨g, 0, none⟩) (Ds.length + 1) cap)).heap[q]? = some b := fun q b hq hb => by
    have h1 : w3.heap[q]? = wA.heap[q]? := hg.block q (blk_lt hb) (fun e => by have := hvl q e.symm; omega)
    rw [Below.heap_setCell _ _ _ _ (show q ≠ x by omega), h1, hb]
  have ne1 : nb ≠ ab := fun e => by rw [e, hab] at hnb; simp at hnb
  have ne2 : nb ≠ ρ := fun e => by rw [e, hρ] at hnb; simp at hnb
  have ne3 : ab ≠ ρ := fun e => by rw [e, hρ] at hab; simp at hab
  have cn : newCol col w.heap.size o Ds.length nb ab ρ nb = (o, 30 + Ds.length) := by unfold newCol; rw [if_neg (by omega), if_pos rfl]
  have ca : newCol col w.heap.size o Ds.length nb ab ρ ab = (o, 40 + Ds.length) := by unfold newCol; rw [if_neg (by omega), if_neg (Ne.symm ne1), if_pos rfl]
  have cρ : newCol col w.heap.size o Ds.length nb ab ρ ρ = (o, 10 + Ds.length) := by unfold newCol; rw [if_neg (by omega), if_neg (Ne.symm ne2), if_neg (Ne.symm ne3), if_pos rfl]
  have hgA : g = wA.heap.size → newCol col w.heap.size o Ds.length nb ab ρ g = (o, 2) := fun e => by
    have l1 := blk_lt hnb
    have l2 := blk_lt hab
    have l3 := blk_lt hρ
    unfold newCol
    rw [if_neg (by omega), if_neg (by omega), if_neg (by omega), if_neg (by omega)]
  refine ⟨⟨?_, ?_, ⟨?_, ?_⟩, fun i hi => ?_⟩, hf⟩
  · have hx3 : w3.heap[x]? = w.heap[x]? := (hg.block x (by omega) (Ne.symm hxv)).trans (hA.block x hxl)
    have := heap_setCell_at (o := 5) (hx3.trans h.blk) (.slice (some ⟨g, 0, none⟩) (Ds.length + 1) cap)
    exact this
  · exact (hf.col x hxl).trans h.cx
  · rw [List.length_append, List.map_append]
    exact owns_grown' hown gs (fun q hq => by cases hq; intro e; exact hxg (Option.some.inj e).symm)
  · intro q hq
    obtain rfl := own_g hq
    rcases hat with e | e
    · rw [hf.col g (hvl g e)]
      exact h.rows.col g e
    · exact hgA e
  · by_cases hil : i < Ds.length
    · rw [List.getElem_append_left hil]
      exact (h.reps i hil).kept hf (by simp) (fun k hk => by simp; omega)
    · have hie : i = Ds.length := by simp at hi; omega
      subst hie
      rw [List.getElem_append_right (Nat.le_refl _)]
      simp only [Nat.sub_self, List.getElem_cons_zero]
      have hrn : (List.range n).map (noE Ds.length) = List.replicate n false := by
        apply List.ext_getElem (by simp)
        intro k h1 h2
        simp [noE]
      rw [hrn]
      exact {
        atoms := held_nil _ _ _
        taken := rowC_nil _ _ _ _ _
        tkd := fun t ht => by cases ht
        tsl := Nat.zero_le _
        buf := rfl
        near := ⟨by
          have := owns_whole (n := n) (keep nb _ nn hnb) (by simp) (Nat.le_trans h6 (by decide))
          show World.ownsRow _ _ _ _ (.slice (some ⟨nb, 0, none⟩) n n) _ _
          simpa using this, fun q hq => by obtain rfl := own_g hq; exact cn⟩
        acked := ⟨by
          have := owns_whole (n := n) (keep ab _ na hab) (by simp [ints]) (Nat.le_trans h6 (by decide))
          show World.ownsRow _ _ _ _ (.slice (some ⟨ab, 0, none⟩) n n) _ _
          simpa [rep0] using this, fun q hq => by obtain rfl := own_g hq; exact ca⟩
        log := rowC_nil _ _ _ _ _
        rcd := fun r hr => by cases hr
        logs := ⟨[], [], rfl, fun r hr => (by cases hr), rfl, .inl ⟨rfl, rfl⟩⟩
        blk := keep ρ _ nρ hρ
        cρ := cρ }

/-- All replicas are there. -/
theorem PreAt.done {w : World} {col : Col} {o x n rm : Nat} {bp rr : Bool} {vR : Value} {Ds : List RefD} {f : Nat → Nat → Bool} (h : PreAt w col o x n rm bp rr vR Ds f) (hl : Ds.length = n) : RefAt w col o x ⟨vR, .slice none 0 0, Ds, []⟩ (clu0 rm bp rr n f) where
  blk := by simpa [clu0] using h.blk
  cx := h.cx
  rows := h.rows
  net := rowC_nil _ _ _ _ _
  netd f hf := by cases hf
  nets := rfl
  len := by simpa [clu0] using hl
  reps i hi hi' := by
    have := h.reps i hi
    simpa [clu0, nearRow] using this

def set1 (f : Nat → Nat → Bool) (a b : Nat) : Nat → Nat → Bool := fun i j => f i j || (decide (i = a) && decide (j = b))
theorem set1_add (f : Nat → Nat → Bool) (a b : Nat) : set1 (set1 f a b) b a = addE f a b := rfl
theorem PreAt.near {w : World} {col : Col} {o x n rm a b : Nat} {bp rr : Bool} {vR : Value} {Ds : List RefD} {f : Nat → Nat → Bool} (h : PreAt w col o x n rm bp rr vR Ds f) (hi6 : Ds.length ≤ 6) (ha : a < Ds.length) (hb : b < n) :
    ∃ ga cap, (Ds[a]).vn = .slice (some ⟨ga, 0, none⟩) n cap ∧ w.cell? ⟨(Ds[a]).ρ, 5, none⟩ = some (.slice (some ⟨ga, 0, none⟩) n cap) ∧ w.cell? ⟨ga, b, none⟩ = some (.bool (f a b)) ∧ w.frozen? ⟨ga, b, none⟩ = false ∧
      PreAt (w.setCell ⟨ga, b, none⟩ (.bool true)) col o x n rm bp rr vR Ds (set1 f a b) ∧ FrC (ofRep o a) col col w (w.setCell ⟨ga, b, none⟩ (.bool true)) ∧ ga ≠ x ∧ ga ≠ (Ds[a]).ρ ∧ (∀ q, col q = (o, 2) → ga ≠ q) ∧ col ga = (o, 30 + a) := by
  have hr := h.reps a ha
  have hn := hr.near
  have hlen : ((List.range n).map (f a)).length = n := by simp
  rw [hlen] at hn
  obtain ⟨ga, cap, hv, h1, h2, hgl, hgc, hcell, hfz⟩ := hn.at (by omega)
  rw [hv] at hn
  obtain ⟨hs, hf⟩ := hn.store b (.bool true)
  have hfr : FrC (ofRep o a) col col w (w.setCell ⟨ga, b, none⟩ (.bool true)) := hf.mono fun κ hκ => by rw [hκ]; exact ⟨rfl, by show 10 ≤ 30 + a; omega, by show (30 + a) % 10 = a; omega⟩
  have hdiff : ∀ q k, k < 30 → col q = (o, k) → ga ≠ q := fun q k hk hq e => by
    rw [← e, hgc] at hq
    have := congrArg Prod.snd hq
    simp at this
    omega
  refine ⟨ga, cap, hv, ?_, hcell b _ (by simp [hb]), hfz b, ?_, hfr, hdiff x 0 (by omega) h.cx, hdiff _ (10 + a) (by omega) hr.cρ, fun q hq => hdiff q 2 (by omega) hq, hgc⟩
  · have := blk_cell hr.blk 5
    rw [this, ← hv]
    rfl
  · refine ⟨hf.block h.blk (by rw [h.cx]; simp; omega), h.cx, h.rows.kept hf (by simp; omega), fun i hi => ?_⟩
    by_cases e : i = a
    · subst e
      have hset : (((List.range n).map (f i)).map Value.bool).set b (.bool true) = ((List.range n).map (set1 f i b i)).map Value.bool := by
        apply List.ext_getElem (by simp)
        intro k k1 k2
        simp only [List.getElem_set, List.getElem_map, List.getElem_range]
        unfold set1
        by_cases ek : b = k
        · subst ek; simp
        · have : k ≠ b := fun e => ek e.symm
          simp [ek, this]
      have hk := h.reps i hi
      refine { atoms := hk.atoms.kept hf (by simp; omega), taken := hk.taken.kept hf (by simp), tkd := fun t ht => (hk.tkd t ht).kept hf (by simp; omega), tsl := hk.tsl, buf := hk.buf, near := ?_, acked := hk.acked.kept hf (by simp), log := hk.log.kept hf (by simp), rcd := fun r hr => (hk.rcd r hr).kept hf (by simp; omega), logs := hk.logs, blk := hf.block hk.blk (by rw [hk.cρ]; simp), cρ := hk.cρ }
      rw [← hset, hv]
      simpa using hs
    · have hne : (List.range n).map (set1 f a b i) = (List.range n).map (f i) := by
        apply List.map_congr_left
        intro k _
        unfold set1
        simp [e]
      rw [hne]
      exact (h.reps i hi).kept hf (by simp; omega) (fun k hk => by simp; omega)
end Go.Proofs.YtahdlejgjcjeoaaGreatDoor

namespace Go.Proofs.YtahdlejgjcjeoaaGreatDoor
open Go

theorem not_unl {b : Bool} {p : Prop} (hb : b = true) (h : b = false) : p := by rw [hb] at h; cases h
section
variable {P : Program} {ops : Array Oper} {Q : Exit → Act → World → Prop} {md : Region.Mode} {S : World → Prop} {L : Nat}

def wpAnyL (P : Program) (md : Region.Mode) (ops : Array Oper) (Q : Exit → Act → World → Prop) (S : World → Prop) (L : Nat) : Nat → Array Bool → Act → World → Prop
  | 0, listed, a, w => Region.ready md ops listed = [] ∧ Q .normal a w
  | fuel + 1, listed, a, w =>
    (Region.ready md ops listed = [] → Q .normal a w) ∧
    ∀ i ∈ Region.ready md ops listed, wpOp P ops Q i (fun a' w' => ((listed.setIfInBounds i true).getD L true = false → S w') ∧ wpAnyL P md ops Q S L fuel (listed.setIfInBounds i true) a' w') a w

theorem wpAny_ofL : ∀ (fuel : Nat) (listed : Array Bool) (a : Act) (w : World), wpAnyL P md ops Q S L fuel listed a w → wpAny P md ops Q fuel listed a w
  | 0, _, _, _, h => h
  | fuel + 1, _, _, _, h => ⟨h.1, fun i hi => wpOp_mono (fun a' w' h' => wpAny_ofL fuel _ a' w' h'.2) (h.2 i hi)⟩

/-- The last one waits for i. -/
def waitsFor (md : Region.Mode) (ops : Array Oper) (L i : Nat) : Bool := match ops[L]? with | some o => o.after.toList.any (fun e => Region.binds md e && e.on == i) | none => false
theorem waits_ready {i : Nat} {listed : Array Bool} (hw : waitsFor md ops L i = true) (hr : i ∈ Region.ready md ops listed) : L ∉ Region.ready md ops listed := by
  intro hL
  obtain ⟨-, oL, hoL, hall⟩ := mem_ready.1 hL
  have h0 := (mem_ready.1 hr).1
  unfold waitsFor at hw
  rw [hoL] at hw
  simp only [List.any_eq_true, Bool.and_eq_true, beq_iff_eq] at hw
  obtain ⟨e, he, hb, rfl⟩ := hw
  have h1 := hall e (by simpa using he) hb
  rcases Nat.lt_or_ge e.on listed.size with h' | h'
  · simp [h'] at h0 h1; rw [h0] at h1; cases h1
  · simp [Array.getElem?_eq_none h'] at h1

theorem wpAnyL_first {i : Nat} {oi : Oper} {v : Value} (hi : ops[i]? = some oi) (hsel : ∀ (j : Nat) (o : Oper) cs b, ops[j]? = some o → o.op ≠ .select cs b)
    (hQ : ∀ c a w, Q (.panic c) (a.put oi.dst v) w → Q (.panic c) a w) (hw : waitsFor md ops L i = true) (hiL : i ≠ L) :
    ∀ (fuel : Nat) (listed : Array Bool) (a : Act) (w : World),
      (∀ j oj, ops[j]? = some oj → j ≠ i → listed.getD j true = false → (∀ e ∈ oj.after, Region.binds md e = true → e.on ≠ i) → oi.apart ops oj = true) →
      i ∈ Region.ready md ops listed → YieldsIf P ops S oi v a → S w → listed.getD L true = false →
      wpAnyL P md ops Q S L fuel (listed.setIfInBounds i true) (a.put oi.dst v) w → wpAnyL P md ops Q S L (fuel + 1) listed a w := by
  intro fuel
  induction fuel with
  | zero =>
    intro listed a w _ hr hy hS hun H
    refine ⟨fun h => (by rw [h] at hr; cases hr), fun j hj => ?_⟩
    by_cases hji : j = i
    · subst hji; exact hy.wpOp hi hS ⟨fun _ => hS, H⟩
    · have := ready_mono hj hji
      rw [H.1] at this
      cases this
  | succ fuel ih =>
    intro listed a w hfree hr hy hS hun H
    refine ⟨fun h => (by rw [h] at hr; cases hr), fun j hj => ?_⟩
    by_cases hji : j = i
    · subst hji; exact hy.wpOp hi hS ⟨fun _ => hS, H⟩
    · have hjL : j ≠ L := fun e => waits_ready hw hr (e ▸ hj)
      have h1 := H.2 j (ready_mono hj hji)
      obtain ⟨hjun, oj, hoj, hall⟩ := mem_ready.1 hj
      have hnot : ∀ e ∈ oj.after, Region.binds md e = true → e.on ≠ i := fun e he hb heq => by
        have h1 := hall e he hb
        have h0 := (mem_ready.1 hr).1
        rw [heq] at h1
        rcases Nat.lt_or_ge i listed.size with h' | h'
        · simp [h'] at h0 h1; rw [h0] at h1; cases h1
        · simp [Array.getElem?_eq_none h'] at h1
      have h2 := wpOp_putIf hoj (hfree j oj hoj hji hjun hnot) (fun cs b => hsel i oi cs b hi) (fun cs b => hsel j oj cs b hoj) hQ hy h1
      have hfree' : ∀ k ok, ops[k]? = some ok → k ≠ i → (listed.setIfInBounds j true).getD k true = false →
          (∀ e ∈ ok.after, Region.binds md e = true → e.on ≠ i) → oi.apart ops ok = true := fun k ok hk hki hun hno => by
        refine hfree k ok hk hki ?_ hno
        by_cases hjk : j = k
        · subst hjk; exact hjun
        · rw [getD_set_ne true hjk] at hun; exact hun
      have hun' : (listed.setIfInBounds j true).getD L true = false := by rw [getD_set_ne true hjL]; exact hun
      have hun2 : ((listed.setIfInBounds i true).setIfInBounds j true).getD L true = false := by rw [getD_set_ne true hjL, getD_set_ne true hiL]; exact hun
      refine wpOp_mono (fun a' w' h3 => ⟨fun _ => h3.2.1 hun2, ih (listed.setIfInBounds j true) a' w' hfree' (ready_mono hr (Ne.symm hji)) h3.1 (h3.2.1 hun2) hun' ?_⟩) h2
      rw [Array.setIfInBounds_comm _ _ hji]
      exact h3.2.2

/-- What yields in whatever world may be taken first, wherever the last one stands. -/
theorem wpAnyL_firstY {i : Nat} {oi : Oper} {v : Value} (hi : ops[i]? = some oi) (hsel : ∀ (j : Nat) (o : Oper) cs b, ops[j]? = some o → o.op ≠ .select cs b)
    (hQ : ∀ c a w, Q (.panic c) (a.put oi.dst v) w → Q (.panic c) a w) (hiL : i ≠ L) :
    ∀ (fuel : Nat) (listed : Array Bool) (a : Act) (w : World),
      (∀ j oj, ops[j]? = some oj → j ≠ i → listed.getD j true = false → (∀ e ∈ oj.after, Region.binds md e = true → e.on ≠ i) → oi.apart ops oj = true) →
      i ∈ Region.ready md ops listed → YieldsIf P ops (fun _ => True) oi v a → (listed.getD L true = false → S w) →
      wpAnyL P md ops Q S L fuel (listed.setIfInBounds i true) (a.put oi.dst v) w → wpAnyL P md ops Q S L (fuel + 1) listed a w := by
  intro fuel
  induction fuel with
  | zero =>
    intro listed a w _ hr hy hS H
    refine ⟨fun h => (by rw [h] at hr; cases hr), fun j hj => ?_⟩
    by_cases hji : j = i
    · subst hji
      exact hy.wpOp hi trivial ⟨fun h => hS (by rw [getD_set_ne true hiL] at h; exact h), H⟩
    · have := ready_mono hj hji
      rw [H.1] at this
      cases this
  | succ fuel ih =>
    intro listed a w hfree hr hy hS H
    refine ⟨fun h => (by rw [h] at hr; cases hr), fun j hj => ?_⟩
    by_cases hji : j = i
    · subst hji
      exact hy.wpOp hi trivial ⟨fun h => hS (by rw [getD_set_ne true hiL] at h; exact h), H⟩
    · have h1 := H.2 j (ready_mono hj hji)
      obtain ⟨hjun, oj, hoj, hall⟩ := mem_ready.1 hj
      have hnot : ∀ e ∈ oj.after, Region.binds md e = true → e.on ≠ i := fun e he hb heq => by
        have h1 := hall e he hb
        have h0 := (mem_ready.1 hr).1
        rw [heq] at h1
        rcases Nat.lt_or_ge i listed.size with h' | h'
        · simp [h'] at h0 h1; rw [h0] at h1; cases h1
        · simp [Array.getElem?_eq_none h'] at h1
      have h2 := wpOp_putIf hoj (hfree j oj hoj hji hjun hnot) (fun cs b => hsel i oi cs b hi) (fun cs b => hsel j oj cs b hoj) hQ hy h1
      have hfree' : ∀ k ok, ops[k]? = some ok → k ≠ i → (listed.setIfInBounds j true).getD k true = false →
          (∀ e ∈ ok.after, Region.binds md e = true → e.on ≠ i) → oi.apart ops ok = true := fun k ok hk hki hun hno => by
        refine hfree k ok hk hki ?_ hno
        by_cases hjk : j = k
        · subst hjk; exact hjun
        · rw [getD_set_ne true hjk] at hun; exact hun
      have hcom : ((listed.setIfInBounds j true).setIfInBounds i true) = ((listed.setIfInBounds i true).setIfInBounds j true) := Array.setIfInBounds_comm _ _ hji
      have hback : (listed.setIfInBounds j true).getD L true = false → ((listed.setIfInBounds i true).setIfInBounds j true).getD L true = false := fun h => by
        rw [← hcom, getD_set_ne true hiL]
        exact h
      refine wpOp_mono (fun a' w' h3 => ⟨fun h => h3.2.1 (hback h), ih (listed.setIfInBounds j true) a' w' hfree' (ready_mono hr (Ne.symm hji)) h3.1 (fun h => h3.2.1 (hback h)) ?_⟩) h2
      rw [hcom]
      exact h3.2.2

theorem wpAnyL_take {i : Nat} {oi : Oper} {v : Value} {fuel : Nat} {listed : Array Bool} {a : Act} {w : World} (hi : ops[i]? = some oi)
    (hs : Region.noSelect ops = true) (hf : Region.free md ops listed i = true) (hr : (Region.ready md ops listed).contains i = true) (hw : waitsFor md ops L i = true)
    (hQ : ∀ c a w, Q (.panic c) (a.put oi.dst v) w → Q (.panic c) a w) (hy : YieldsIf P ops S oi v a) (hS : S w) (hL : (decide (i ≠ L) && !listed.getD L true) = true)
    (h : wpAnyL P md ops Q S L fuel (listed.setIfInBounds i true) (a.put oi.dst v) w) : wpAnyL P md ops Q S L (fuel + 1) listed a w := by
  simp only [Bool.and_eq_true, decide_eq_true_eq, Bool.not_eq_true'] at hL
  exact wpAnyL_first hi (Region.noSelect_spec hs) hQ hw hL.1 fuel listed a w (Region.free_spec hi hf) (by simpa using hr) hy hS hL.2 h
theorem wpAnyL_takeY {i : Nat} {oi : Oper} {v : Value} {fuel : Nat} {listed : Array Bool} {a : Act} {w : World} (hi : ops[i]? = some oi)
    (hs : Region.noSelect ops = true) (hf : Region.free md ops listed i = true) (hr : (Region.ready md ops listed).contains i = true) (hL : decide (i ≠ L) = true)
    (hQ : ∀ c a w, Q (.panic c) (a.put oi.dst v) w → Q (.panic c) a w) (hy : YieldsIf P ops (fun _ => True) oi v a) (hS : S w)
    (h : wpAnyL P md ops Q S L fuel (listed.setIfInBounds i true) (a.put oi.dst v) w) : wpAnyL P md ops Q S L (fuel + 1) listed a w :=
  wpAnyL_firstY hi (Region.noSelect_spec hs) hQ (of_decide_eq_true hL) fuel listed a w (Region.free_spec hi hf) (by simpa using hr) hy (fun _ => hS) h

def AllReadyL (P : Program) (md : Region.Mode) (ops : Array Oper) (Q : Exit → Act → World → Prop) (S : World → Prop) (L : Nat) (fuel : Nat) (listed : Array Bool) (a : Act) (w : World) (rs : List Nat) : Prop :=
  ∀ i ∈ rs, wpOp P ops Q i (fun a' w' => ((listed.setIfInBounds i true).getD L true = false → S w') ∧ wpAnyL P md ops Q S L fuel (listed.setIfInBounds i true) a' w') a w
theorem AllReadyL.nil {fuel : Nat} {listed : Array Bool} {a : Act} {w : World} : AllReadyL P md ops Q S L fuel listed a w [] := fun _ h => by cases h
theorem AllReadyL.cons {fuel : Nat} {listed : Array Bool} {a : Act} {w : World} {i : Nat} {o : Oper} {rs : List Nat} (ho : ops[i]? = some o)
    (h : ∀ K' : Act → World → Prop, Shut (∀ a w, ((listed.setIfInBounds i true).getD L true = false → S w) → (((listed.setIfInBounds i true).getD L true = false → S w) → wpAnyL P md ops Q S L fuel (listed.setIfInBounds i true) a w) → K' a w) → if Region.wanted o (yielded ops a.tmps) = true then Oper.wp P o a w K' Q else K' (a.put o.dst undef) w)
    (hs : AllReadyL P md ops Q S L fuel listed a w rs) : AllReadyL P md ops Q S L fuel listed a w (i :: rs) := fun j hj => by
  rcases List.mem_cons.1 hj with rfl | hj
  · exact wpOp_step ho (fun K' hK => h K' (fun a w hS hW => hK a w ⟨hS, hW hS⟩))
  · exact hs j hj
theorem wpAnyL_ready {rs : List Nat} {fuel : Nat} {listed : Array Bool} {a : Act} {w : World} (hr : Region.ready md ops listed = rs) (hne : rs ≠ [])
    (h : AllReadyL P md ops Q S L fuel listed a w rs) : wpAnyL P md ops Q S L (fuel + 1) listed a w :=
  ⟨fun h0 => absurd (hr ▸ h0) hne, hr ▸ h⟩
theorem wpAnyL_done {listed : Array Bool} {a : Act} {w : World} (hr : Region.ready md ops listed = []) (h : Q .normal a w) :
    ∀ fuel, wpAnyL P md ops Q S L fuel listed a w
  | 0 => ⟨hr, h⟩
  | _ + 1 => ⟨fun _ => h, by rw [hr]; simp⟩
theorem wp_region_last {id : Nat} {a : Act} {w : World} (L : Nat) (hm : P.follows .mixedOrders = true) (hS : S w.drew)
    (h : S w.drew → wpAnyL P .any ops Q S L ops.size (Array.replicate ops.size false) a w.drew) : (Code.region id ops true).wp P Q a w :=
  wp_region_any hm (wpAny_ofL _ _ _ _ (h hS))
end
end Go.Proofs.YtahdlejgjcjeoaaGreatDoor
