/- Walk of the document's fine. -/
import Derived.Test.YtahdlejgjcjeoaaGreatDoorP15
import Derived.Test.YtahdlejgjcjeoaaGreatDoorP03
import Derived.Test.YtahdlejgjcjeoaaGreatDoorP04
import Derived.Test.YtahdlejgjcjeoaaGreatDoorP06
import Derived.Test.YtahdlejgjcjeoaaGreatDoorP07
import Derived.Test.YtahdlejgjcjeoaaGreatDoorP08
import Derived.Test.YtahdlejgjcjeoaaGreatDoorP02
namespace Go.Proofs.YtahdlejgjcjeoaaGreatDoor
open Go.RowKit

/-- A slice of bytes that can be read. -/
def BytesAt (w : World) (v : Value) (l : List UInt8) : Prop :=
  ∃ ad cap, v = .slice ad l.length cap ∧ l.length ≤ cap ∧ (0 < l.length → ∃ b, ad = some ⟨b, 0, none⟩ ∧ ∀ k (h : k < l.length), w.cell? ⟨b, k, none⟩ = some (.int .u8 (l[k].toNat : Int)))
theorem bytesAt_owns {w : World} {base n : Nat} {v : Value} {l : List UInt8} (hn : n = l.length) (h : w.ownsRow base 5 1 v n (bcells l)) : BytesAt w v l := by
  subst hn
  rcases h.2 with ⟨rfl, h0⟩ | ⟨g, cap, cur, rfl, hg, hb, h1, h2, h3, h4⟩
  · exact ⟨none, 0, by rw [h0], by omega, fun h => by omega⟩
  · refine ⟨_, cap, rfl, h1, fun _ => ⟨g, rfl, fun k hk => ?_⟩⟩
    have := h.cells (g := g) rfl k (.int .u8 (l[k].toNat : Int)) (by simp [bcells, hk])
    rw [Addr.add_lit, Nat.zero_add] at this
    exact this
set_option maxRecDepth 100000 in
set_option maxHeartbeats 1000000 in
theorem prgSum (v : Value) (l : List UInt8) (w : World) (hv : BytesAt w v l) (hl : l.length ≤ 17592186044416) :
    Calls Tryz.prog 169 #[v] w fun e w' => e = .returned (.int .u32 (adler l)) ∧ Below w.heap.size w w' := by
  obtain ⟨ad, cap, rfl, hcap, H⟩ := hv
  have HR : Hid (0 < l.length → ∃ b, ad = some ⟨b, 0, none⟩ ∧ ∀ k (h : k < l.length), w.cell? ⟨b, k, none⟩ = some (.int .u8 (l[k].toNat : Int))) := H
  clear H
  go_enter Tryz.func169, Tryz.ntmps169
  go_wp2
  go_loopw [3, 4, 9] (fun a b i wr => ∃ k : Nat, k ≤ l.length ∧ a = .int .u32 (adA (l.take k)).1 ∧ b = .int .u32 (adA (l.take k)).2 ∧ i = .int .i64 k ∧ Below w.heap.size w wr ∧ Hid (BytesAt wr (.slice ad l.length cap) l)) (fun _ _ i _ => l.length - (intOf i).toNat)
  case atStart => exact ⟨0, Nat.zero_le _, rfl, rfl, rfl, Below.refl _ _, ⟨ad, cap, rfl, hcap, HR.out⟩⟩
  case round =>
    obtain ⟨k, hk, rfl, rfl, rfl, hbw, hby⟩ := hrel
    obtain ⟨ha, hb⟩ := adA_lt (l.take k)
    by_cases hlt : k < l.length
    · have HS : Hid (adA (l.take (k + 1)) = (((adA (l.take k)).1 + l[k].toNat) % 65521, (((adA (l.take k)).1 + l[k].toNat) % 65521 + (adA (l.take k)).2) % 65521)) := by rw [Hid, List.take_succ_eq_append_getElem hlt, adA_snoc]
      have hc := l[k].toNat_lt
      obtain ⟨ad', cap', e', _, H⟩ := hby.out
      cases e'
      obtain ⟨bb, rfl, hcell⟩ := H (by omega)
      have c0 := hcell k hlt
      clear H hcell HR
      generalize (adA (l.take k)).1 = a at *
      generalize (adA (l.take k)).2 = b at *
      generalize l[k] = c at *
      have q1 : (k : Int) < (l.length : Int) := by omega
      have t1 : ((a : Int) + (c.toNat : Int)).tmod 65521 = ((a + c.toNat) % 65521 : Nat) := by rw [Int.tmod_eq_emod_of_nonneg (by omega)]; omega
      have t2 : ((b : Int) + ((a + c.toNat) % 65521 : Nat)).tmod 65521 = (((a + c.toNat) % 65521 + b) % 65521 : Nat) := by rw [Int.tmod_eq_emod_of_nonneg (by omega)]; omega
      go_wp2
      refine ⟨⟨k + 1, by omega, ?_, ?_, by go_num, hbw, hby⟩, by simp [intOf]; omega⟩
      · rw [HS.out]; go_num
      · rw [HS.out]; go_num
    · have hkl : k = l.length := by omega
      subst hkl
      rw [List.take_of_length_le (Nat.le_refl _)] at *
      go_wp2
      go_ret
      refine ⟨ret_int ?_, hbw⟩
      unfold adler
      omega
end Go.Proofs.YtahdlejgjcjeoaaGreatDoor

namespace Go.Proofs.YtahdlejgjcjeoaaGreatDoor
open Go.RowKit

theorem Buf.below {B : Nat} {w w' : World} {v : Value} {xs : List UInt8} (h : Buf B w v xs) (hb : Below w.heap.size w w') : Buf B w' v xs := ⟨owns_below h.1 hb, Nat.le_trans h.2 hb.size⟩

set_option maxRecDepth 100000 in
set_option maxHeartbeats 1000000 in
theorem prgBytes (kind num : Nat) (v : Value) (l : List At) (w : World) (hr : RulesAt w) (hv : SliceOf w v l) (hmay : ∀ a ∈ l, mayB a = true) (hlen : l.length ≤ 8388608) (hk : kind < 256) (hn : num < 4611686018427387904) :
    Calls Tryz.prog 116 #[.agg #[.int .i64 kind, .int .i64 num, v]] w fun e w' => ∃ v', e = .returned v' ∧ Hid (Buf w.heap.size w' v' (recBytes ⟨kind, num, l⟩)) ∧ Below w.heap.size w w' := by
  have hsh : ∀ a ∈ l, short a := fun a ha => short_of_may (hmay a ha)
  have hall : l.all mayB = true := List.all_eq_true.2 hmay
  obtain ⟨i0, hi, hz0, hz1, hz2⟩ := info_parts infoByte
  have HMAY : Hid (∀ a ∈ l, mayB a = true) := hmay
  obtain ⟨ad, cap, rfl, hc, H⟩ := id hv
  have hb0 : ∀ o, Below w.heap.size w (w.alloc o) := fun o => below_alloc (Below.refl _ _) o
  have hcE := fun o => encode_yes (.slice ad l.length cap) l (w.alloc o) (hr.below (hb0 o) hr.1) (hv.below (hb0 o)) hsh hlen hall
  clear hr hv hmay hsh hall H
  go_enter Tryz.func116, Tryz.ntmps116
  go_wp2_with fail
  refine (hcE _).mono ?_
  rintro e w1 ⟨out, rfl, ht, hb1⟩
  rw [World.size_alloc] at hb1
  have HOUT : Hid (out = tell l) := ((tell_told l).unique HMAY.out ht.out).symm
  have hlo : out.length ≤ 8388608 := Nat.le_trans (length_le_of_sub (sorted_ne ht.out.sorted) (fun x hx => (ht.out.great x hx).1)) hlen
  have hel := encL_length out (fun a ha => fit2_of_may (HMAY.out a (ht.out.great a ha).1))
  have HBODY : Hid (encS l = be out.length 8 ++ encL out) := by rw [HOUT.out]; rfl
  have hbl : (be out.length 8 ++ encL out).length ≤ 176160776 := by rw [List.length_append, be_length]; omega
  clear hcE ht hel HMAY
  generalize hbd : be out.length 8 ++ encL out = bd at *
  have HBD : Hid (encS l = bd) := HBODY.out
  clear hbd HBODY HOUT
  have r0 : w1.cell? ⟨w.heap.size, 0, none⟩ = some (.int .i64 kind) := (hb1.cell (p := ⟨w.heap.size, 0, none⟩) (by simp)).trans (by simp)
  have r1 : w1.cell? ⟨w.heap.size, 1, none⟩ = some (.int .i64 num) := (hb1.cell (p := ⟨w.heap.size, 1, none⟩) (by simp)).trans (by simp)
  have hsz1 : w.heap.size + 1 ≤ w1.heap.size := by have := hb1.size; simpa using this
  have HW1 : Hid (Below w.heap.size w w1) := (hb0 _).trans (hb1.mono (by omega))
  clear hb1
  go_wp2_with fail
  have hA := appendNumber_int (w.heap.size + 1) (.slice none 0 0) [] (kind : Int) 1 w1 ⟨⟨rfl, .inl ⟨rfl, rfl⟩⟩, hsz1⟩ (by omega) (by omega) (by omega) (by simp)
  refine hA.mono ?_
  rintro e w2 ⟨v2, rfl, hb2, hbw2, hob2⟩
  rw [show ((kind : Int)).toNat = kind by omega, List.nil_append] at hb2
  have s1 : w2.cell? ⟨w.heap.size, 1, none⟩ = some (.int .i64 num) := (hbw2.cell (p := ⟨w.heap.size, 1, none⟩) (by simp)).trans r1
  have HW2 : Hid (Below w.heap.size w w2) := HW1.out.trans (hbw2.mono (by omega))
  have hl2 : (be kind 1).length = 1 := be_length _ _
  clear hA hbw2 hob2 r0 r1 HW1
  go_wp2_with fail
  have hA := appendNumber_int (w.heap.size + 1) v2 (be kind 1) (num : Int) 8 w2 hb2.out (by omega) (by omega) (by omega) (by omega)
  refine hA.mono ?_
  rintro e w3 ⟨v3, rfl, hb3, hbw3, hob3⟩
  rw [show ((num : Int)).toNat = num by omega] at hb3
  have HW3 : Hid (Below w.heap.size w w3) := HW2.out.trans (hbw3.mono (by omega))
  have hl3 : (be kind 1 ++ be num 8).length = 9 := by rw [List.length_append, be_length, be_length]
  clear hA hbw3 hob3 s1 HW2 hb2 hl2
  have hbs := bstr_size bd
  go_wp2_with fail
  have hA := appendNumber_int (w.heap.size + 1) v3 (be kind 1 ++ be num 8) ((bd.length : Nat) : Int) 8 w3 hb3.out (by omega) (by omega) (by omega) (by omega)
  refine hA.mono ?_
  rintro e w4 ⟨v4, rfl, hb4, hbw4, hob4⟩
  rw [show ((bd.length : Nat) : Int).toNat = bd.length by omega] at hb4
  have HW4 : Hid (Below w.heap.size w w4) := HW3.out.trans (hbw4.mono (by omega))
  have hl4 : ((be kind 1 ++ be num 8) ++ be bd.length 8).length = 17 := by rw [List.length_append, be_length, hl3]
  clear hA hbw4 hob4 HW3 hb3 hl3
  have hown := hb4.out.1
  have hbl4 := hb4.out.2
  rw [hl4] at hown
  have HX : Hid (recHead ⟨kind, num, l⟩ = ((be kind 1 ++ be num 8) ++ be bd.length 8) ++ bd) := by rw [Hid, recHead, HBD.out]; simp
  generalize (be kind 1 ++ be num 8) ++ be bd.length 8 = hd at *
  clear hb4
  have hds : (bstr bd).data.toList = bd := by simp [bstr]
  have HDS : Hid ((bstr bd).data.toList = bd) := hds
  clear hds
  go_wp2_with (at_builtin; refine Go.Lib.wpList_append_own_string _ rfl _ _ 124 9 rfl (w.heap.size + 1) 5 i0 Tryz.underlying124 Tryz.underlying9 hi hz0 hz1 hz2 _ 17 _ rfl hown (bstr bd) rfl (by unfold maxLen; omega) (by omega) hbl4 ?_; intro v5 w5 hown5 hg5 _)
  have HB5 : Hid (Buf (w.heap.size + 1) w5 v5 (hd ++ bd)) := by
    refine ⟨?_, Nat.le_trans hbl4 hg5.size⟩
    have e1 : Lib.strCells (bstr bd) = bcells bd := (show _ = bcells (bstr bd).data.toList from rfl).trans (by rw [HDS.out])
    rw [e1] at hown5
    rw [bcells_append, List.length_append, hl4]
    have : (bstr bd).size = bd.length := hbs
    rw [this] at hown5
    exact hown5
  have HW5 : Hid (Below w.heap.size w w5) := HW4.out.grown hg5 (by omega) (fun q hq => Nat.le_of_succ_le (owns_base hown q hq))
  have hl5 : (hd ++ bd).length ≤ 176160793 := by rw [List.length_append, hl4]; omega
  have HX2 : Hid (recHead ⟨kind, num, l⟩ = hd ++ bd) := HX.out
  clear hown5 hown hg5 HW4 hbl4 HX HDS hl4 hbl hbs HBD
  generalize hd ++ bd = hb at *
  refine (prgSum v5 hb w5 (bytesAt_owns rfl HB5.out.1) (by omega)).mono ?_
  rintro e w6 ⟨rfl, hb6⟩
  have HB6 : Hid (Buf (w.heap.size + 1) w6 v5 hb) := HB5.out.below hb6
  have HW6 : Hid (Below w.heap.size w w6) := HW5.out.trans (hb6.mono (Nat.le_of_succ_le HB5.out.2))
  have had := adler_lt hb
  have HREC : Hid (recBytes ⟨kind, num, l⟩ = hb ++ be (adler hb) 4) := by rw [Hid, recBytes, HX2.out]
  clear HB5 HW5 hb6
  generalize adler hb = sm at *
  go_wp2_with fail
  have hA := appendNumber_int (w.heap.size + 1) v5 hb (sm : Int) 4 w6 HB6.out (by omega) (by omega) (by omega) (by omega)
  refine hA.mono ?_
  rintro e w7 ⟨v7, rfl, hb7, hbw7, hob7⟩
  rw [show ((sm : Int)).toNat = sm by omega] at hb7
  have HW7 : Hid (Below w.heap.size w w7) := HW6.out.trans (hbw7.mono (by omega))
  have HB7 : Hid (Buf w.heap.size w7 v7 (recBytes ⟨kind, num, l⟩)) := by
    rw [Hid, HREC.out]
    exact ⟨owns_mono hb7.out.1 (by omega), Nat.le_of_succ_le hb7.out.2⟩
  clear hA hbw7 hob7 HW6 HB6 hb7
  go_wp2
  go_ret
  exact ⟨v7, rfl, HB7, HW7.out⟩
end Go.Proofs.YtahdlejgjcjeoaaGreatDoor

namespace Go.Proofs.YtahdlejgjcjeoaaGreatDoor
open Go.RowKit

theorem hid_of {p : Prop} (h : p) : Hid p := h
/-- An entry of a buffer, as it lies. -/
structure Pe where
  num : Nat
  org : Nat
  v : Value
  d : List At
def Pe.cells (e : Pe) : List Value := [.int .i64 e.num, .int .i64 e.org, e.v]
def Pe.ent (e : Pe) : Ent := ⟨e.num, e.org, e.d⟩
theorem Pe.cells_length (e : Pe) : e.cells.length = 3 := rfl

/-- What a replica has, as it lies. -/
structure PrD where
  up : Bool
  num : Nat
  base : Nat
  b : Nat
  n : Nat
  M : Sl → Option Gr
  vb : Value
  es : List Pe
  ak : Nat → Nat
  vl : Value
  bytes : List UInt8
  frames : Nat
  weight : Nat
def PrD.cells (D : PrD) : List Value := [.bool D.up, .int .i64 D.num, .int .i64 D.base, .map (some D.b), D.vb, .int .i64 (D.ak 0), .int .i64 (D.ak 1), .int .i64 (D.ak 2), .int .i64 (D.ak 3), .int .i64 (D.ak 4), .int .i64 (D.ak 5), D.vl, .int .i64 D.frames, .int .i64 D.weight]
theorem PrD.cells_length (D : PrD) : D.cells.length = 14 := rfl

structure PrRep (w : World) (col : Col) (o i : Nat) (D : PrD) : Prop where
  st : StMap w D.b D.n D.M
  cb : col D.b = (o, 10 + i)
  buf : RowC w col (o, 20 + i) 86 3 D.vb D.es.length (D.es.flatMap Pe.cells)
  ed : ∀ e ∈ D.es, Held w col (o, 1) e.v e.d
  log : RowC w col (o, 50 + i) 5 1 D.vl D.bytes.length (bcells D.bytes)

theorem StMap.block {w w' : World} {b n : Nat} {M : Sl → Option Gr} (h : StMap w b n M) (hb : w'.heap[b]? = w.heap[b]?) : StMap w' b n M := by
  obtain ⟨D, ⟨es, clock, h1, h2⟩, h3⟩ := h
  exact ⟨D, ⟨es, clock, hb.trans h1, h2⟩, h3⟩
theorem PrRep.kept {w w' : World} {col col' : Col} {S : Nat × Nat → Prop} {o i : Nat} {D : PrD} (h : PrRep w col o i D) (hf : FrC S col col' w w') (h1 : ¬ S (o, 1)) (h2 : ¬ S (o, 10 + i)) (h3 : ¬ S (o, 20 + i)) (h4 : ¬ S (o, 50 + i)) : PrRep w' col' o i D where
  st := h.st.block (hf.fr.block _ h.st.lt (by rw [h.cb]; exact h2))
  cb := (hf.col _ h.st.lt).trans h.cb
  buf := h.buf.kept hf h3
  ed e he := (h.ed e he).kept hf h1
  log := h.log.kept hf h4

structure PrK where
  lk : Int
  bp : Bool
  rr : Bool
  room : Nat
  near : Nat → Nat → Bool
  R : Nat
  vF : Value
  Ds : List PrD
  ns : List Fm
def PrK.block (K : PrK) : List Value := [.int .i32 K.lk, .int .u32 0, .bool K.bp, .bool K.rr, .int .i64 K.room] ++ (linkB K.near ++ [.slice (some ⟨K.R, 0, none⟩) K.Ds.length K.Ds.length, K.vF])
def PrK.setD (K : PrK) (i : Nat) (D : PrD) : PrK := { K with Ds := K.Ds.set i D }

/-- The cluster, but for what hangs on the replica that is out. -/
structure PrB (w : World) (col : Col) (o x : Nat) (ex : Option Nat) (K : PrK) : Prop where
  blk : w.heap[x]? = some (.cells K.block.toArray 117 (0, 0))
  cx : col x = (o, 0)
  row : w.heap[K.R]? = some (.cells (K.Ds.flatMap PrD.cells).toArray 126 (0, 0))
  cR : col K.R = (o, 2)
  net : RowC w col (o, 3) 153 5 K.vF K.ns.length (K.ns.flatMap Fm.cells)
  netd : ∀ f ∈ K.ns, Held w col (o, 1) f.v f.f.d
  reps : ∀ i (h : i < K.Ds.length), some i ≠ ex → PrRep w col o i K.Ds[i]
abbrev PrAt (w : World) (col : Col) (o x : Nat) (K : PrK) : Prop := PrB w col o x none K

theorem PrB.kept {w w' : World} {col col' : Col} {S : Nat × Nat → Prop} {o x : Nat} {ex : Option Nat} {K : PrK} (h : PrB w col o x ex K) (hf : FrC S col col' w w') (h4 : ∀ k, k < 4 → ¬ S (o, k)) (hS : ∀ i, i < K.Ds.length → some i ≠ ex → ∀ k, k = 1 ∨ k = 2 ∨ k = 5 → ¬ S (o, k * 10 + i)) : PrB w' col' o x ex K where
  blk := hf.block h.blk (by rw [h.cx]; exact h4 0 (by omega))
  cx := (hf.colB h.blk).trans h.cx
  row := hf.block h.row (by rw [h.cR]; exact h4 2 (by omega))
  cR := (hf.colB h.row).trans h.cR
  net := h.net.kept hf (h4 3 (by omega))
  netd f hm := (h.netd f hm).kept hf (h4 1 (by omega))
  reps i hi hne := (h.reps i hi hne).kept hf (h4 1 (by omega)) (hS i hi hne 1 (by omega)) (hS i hi hne 2 (by omega)) (hS i hi hne 5 (by omega))
theorem PrB.far {w w' : World} {col col' : Col} {S : Nat × Nat → Prop} {o x : Nat} {ex : Option Nat} {K : PrK} (h : PrB w col o x ex K) (hf : FrC S col col' w w') (hS : ∀ k, ¬ S (o, k)) : PrB w' col' o x ex K := h.kept hf (fun k _ => hS k) fun _ _ _ _ _ => hS _
theorem PrB.below {w w' : World} {col : Col} {o x : Nat} {ex : Option Nat} {K : PrK} (h : PrB w col o x ex K) (hb : Below w.heap.size w w') (κ : Nat × Nat) : PrB w' (paint col w.heap.size κ) o x ex K := h.far (S := fun _ => False) (frC_below hb κ) fun _ => id
theorem PrB.same {w w' : World} {col : Col} {o x : Nat} {ex : Option Nat} {K : PrK} (h : PrB w col o x ex K) (hb : Below w.heap.size w w') : PrB w' col o x ex K := h.far (S := fun _ => False) (frC_same hb) fun _ => id
/-- Only what hangs on replica i has turned. -/
theorem PrB.rest {w w' : World} {col col' : Col} {o x i : Nat} {K : PrK} (h : PrB w col o x (some i) K) (h6 : K.Ds.length ≤ 6) (hi : i < K.Ds.length) (hf : FrC (ofRep o i) col col' w w') : PrB w' col' o x (some i) K :=
  h.kept hf (fun k hk => by unfold ofRep; simp only; omega) fun j hj hne k hk => by
    have : j ≠ i := fun e => hne (by rw [e])
    unfold ofRep
    simp only
    omega
theorem PrB.open {w : World} {col : Col} {o x i : Nat} {K : PrK} (h : PrAt w col o x K) (hi : i < K.Ds.length) : PrB w col o x (some i) K ∧ PrRep w col o i K.Ds[i] :=
  ⟨⟨h.blk, h.cx, h.row, h.cR, h.net, h.netd, fun j hj _ => h.reps j hj (by simp)⟩, h.reps i hi (by simp)⟩
theorem PrB.close {w : World} {col : Col} {o x i : Nat} {K : PrK} (h : PrB w col o x (some i) K) (hp : ∀ hi : i < K.Ds.length, PrRep w col o i K.Ds[i]) : PrAt w col o x K :=
  ⟨h.blk, h.cx, h.row, h.cR, h.net, h.netd, fun j hj _ => by
    by_cases e : j = i
    · subst e; exact hp hj
    · exact h.reps j hj (fun e' => e (Option.some.inj e'))⟩
theorem PrB.xR {w : World} {col : Col} {o x : Nat} {ex : Option Nat} {K : PrK} (h : PrB w col o x ex K) : x ≠ K.R := fun e => by
  have h1 := h.cx
  have h2 := h.cR
  rw [e, h2] at h1
  cases h1
theorem PrK.setD_len (K : PrK) (i : Nat) (D : PrD) : (K.setD i D).Ds.length = K.Ds.length := List.length_set ..
theorem PrK.setD_block (K : PrK) (i : Nat) (D : PrD) : (K.setD i D).block = K.block := by simp [PrK.block, PrK.setD]
theorem PrK.setD_at (K : PrK) (i : Nat) (D : PrD) (h : i < (K.setD i D).Ds.length) : (K.setD i D).Ds[i] = D := List.getElem_set_self ..
theorem PrK.setD_setD (K : PrK) (i : Nat) (D E : PrD) : (K.setD i D).setD i E = K.setD i E := by simp [PrK.setD]

/-- The cells of a replica. -/
theorem PrB.cell {w : World} {col : Col} {o x : Nat} {ex : Option Nat} {K : PrK} (h : PrB w col o x ex K) {i : Nat} (hi : i < K.Ds.length) {k : Nat} (hk : k < 14) {u : Value} (hu : (K.Ds[i]).cells[k]? = some u) : w.cell? ⟨K.R, i * 14 + k, none⟩ = some u := by
  rw [blk_cell h.row, List.getElem?_toArray, flatMap_get PrD.cells 14 PrD.cells_length K.Ds i k hi hk]
  exact hu
theorem PrB.thaw {w : World} {col : Col} {o x : Nat} {ex : Option Nat} {K : PrK} (h : PrB w col o x ex K) (k : Nat) : w.frozen? ⟨K.R, k, none⟩ = false := blk_thaw h.row k
structure Cells14 (w : World) (R i : Nat) (D : PrD) : Prop where
  c0 : w.cell? ⟨R, i * 14, none⟩ = some (.bool D.up)
  c1 : w.cell? ⟨R, i * 14 + 1, none⟩ = some (.int .i64 D.num)
  c2 : w.cell? ⟨R, i * 14 + 2, none⟩ = some (.int .i64 D.base)
  c3 : w.cell? ⟨R, i * 14 + 3, none⟩ = some (.map (some D.b))
  c4 : w.cell? ⟨R, i * 14 + 4, none⟩ = some D.vb
  c11 : w.cell? ⟨R, i * 14 + 11, none⟩ = some D.vl
  c12 : w.cell? ⟨R, i * 14 + 12, none⟩ = some (.int .i64 D.frames)
  c13 : w.cell? ⟨R, i * 14 + 13, none⟩ = some (.int .i64 D.weight)
  fz : ∀ k, w.frozen? ⟨R, k, none⟩ = false
  ak : ∀ q, q < 6 → w.cell? ⟨R, i * 14 + (5 + q), none⟩ = some (.int .i64 (D.ak q))
theorem PrB.cells {w : World} {col : Col} {o x : Nat} {ex : Option Nat} {K : PrK} (h : PrB w col o x ex K) {i : Nat} (hi : i < K.Ds.length) : Cells14 w K.R i K.Ds[i] where
  c0 := h.cell hi (k := 0) (by omega) rfl
  c1 := h.cell hi (by omega) rfl
  c2 := h.cell hi (by omega) rfl
  c3 := h.cell hi (by omega) rfl
  c4 := h.cell hi (by omega) rfl
  c11 := h.cell hi (by omega) rfl
  c12 := h.cell hi (by omega) rfl
  c13 := h.cell hi (by omega) rfl
  fz := h.thaw
  ak q hq := h.cell hi (by omega) (by
    rcases (by omega : q = 0 ∨ q = 1 ∨ q = 2 ∨ q = 3 ∨ q = 4 ∨ q = 5) with rfl | rfl | rfl | rfl | rfl | rfl <;> rfl)

theorem flatMap_same {α : Type} (f : α → List Value) (l : List α) (i : Nat) (a : α) (h : ∀ hi : i < l.length, f a = f l[i]) : (l.set i a).flatMap f = l.flatMap f := by
  induction l generalizing i with
  | nil => rfl
  | cons b l ih =>
    cases i with
    | zero => simp [h (by simp)]
    | succ i => simp only [List.set_cons_succ, List.flatMap_cons]; rw [ih i (fun hi => h (Nat.succ_lt_succ hi))]
/-- What hangs on the replica may be called otherwise, if its cells are the same. -/
theorem PrB.as {w : World} {col : Col} {o x i : Nat} {K : PrK} (h : PrB w col o x (some i) K) (D : PrD) (hD : ∀ hi : i < K.Ds.length, D.cells = (K.Ds[i]).cells) : PrB w col o x (some i) (K.setD i D) where
  blk := by rw [K.setD_block]; exact h.blk
  cx := h.cx
  row := by
    show w.heap[K.R]? = some (.cells ((K.Ds.set i D).flatMap PrD.cells).toArray _ _)
    rw [flatMap_same PrD.cells K.Ds i D hD]
    exact h.row
  cR := h.cR
  net := h.net
  netd := h.netd
  reps j hj hne := by
    have hj' : j < K.Ds.length := by rw [← K.setD_len i D]; exact hj
    have : (K.setD i D).Ds[j] = K.Ds[j] := List.getElem_set_ne (fun e => hne (by rw [e])) _
    rw [this]
    exact h.reps j hj' hne
/-- A cell of the replica is written. -/
theorem PrB.put {w : World} {col : Col} {o x i k : Nat} {K : PrK} {u : Value} (h : PrB w col o x (some i) K) (hi : i < K.Ds.length) (hk : k < 14) (D : PrD) (hD : (K.Ds[i]).cells.set k u = D.cells) : PrB (w.setCell ⟨K.R, i * 14 + k, none⟩ u) col o x (some i) (K.setD i D) ∧ FrC (fun κ => κ = (o, 2)) col col w (w.setCell ⟨K.R, i * 14 + k, none⟩ u) := by
  have hf : FrC (fun κ => κ = (o, 2)) col col w (w.setCell ⟨K.R, i * 14 + k, none⟩ u) := frC_setCell _ u h.cR
  refine ⟨?_, hf⟩
  have n0 : ∀ j, j ≠ 2 → ¬ ((o, j) = (o, 2)) := fun j hj e => hj (congrArg Prod.snd e)
  exact {
    blk := by rw [K.setD_block]; exact hf.block h.blk (by rw [h.cx]; exact n0 0 (by omega))
    cx := h.cx
    row := by
      show _ = some (Obj.cells ((K.Ds.set i D).flatMap PrD.cells).toArray _ _)
      rw [← flatMap_set PrD.cells 14 PrD.cells_length K.Ds i k u D hi hk hD, ← List.setIfInBounds_toArray]
      exact heap_setCell_at h.row u
    cR := h.cR
    net := h.net.kept hf (n0 3 (by omega))
    netd := fun f hm => (h.netd f hm).kept hf (n0 1 (by omega))
    reps := fun j hj hne => by
      have hj' : j < K.Ds.length := by rw [← K.setD_len i D]; exact hj
      have : (K.setD i D).Ds[j] = K.Ds[j] := List.getElem_set_ne (fun e => hne (by rw [e])) _
      rw [this]
      exact (h.reps j hj' hne).kept hf (n0 1 (by omega)) (n0 _ (by omega)) (n0 _ (by omega)) (n0 _ (by omega)) }

/-- The lock is taken, or given back. -/
theorem PrB.lock {w : World} {col : Col} {o x : Nat} {ex : Option Nat} {K : PrK} (h : PrB w col o x ex K) (l : Int) : PrB (w.setCell ⟨x, 0, none⟩ (.int .i32 l)) col o x ex { K with lk := l } ∧ FrC (fun κ => κ = (o, 0)) col col w (w.setCell ⟨x, 0, none⟩ (.int .i32 l)) := by
  have hf : FrC (fun κ => κ = (o, 0)) col col w (w.setCell ⟨x, 0, none⟩ (.int .i32 l)) := frC_setCell _ _ h.cx
  refine ⟨?_, hf⟩
  have n0 : ∀ j, j ≠ 0 → ¬ ((o, j) = (o, 0)) := fun j hj e => hj (congrArg Prod.snd e)
  exact {
    blk := by
      rw [heap_setCell_at h.blk]
      simp [PrK.block]
    cx := h.cx
    row := hf.block h.row (by rw [h.cR]; exact n0 2 (by omega))
    cR := h.cR
    net := h.net.kept hf (n0 3 (by omega))
    netd := fun f hm => (h.netd f hm).kept hf (n0 1 (by omega))
    reps := fun j hj hne => (h.reps j hj hne).kept hf (n0 1 (by omega)) (n0 _ (by omega)) (n0 _ (by omega)) (n0 _ (by omega)) }
theorem PrB.cl {w : World} {col : Col} {o x : Nat} {ex : Option Nat} {K : PrK} (h : PrB w col o x ex K) :
    w.cell? ⟨x, 0, none⟩ = some (.int .i32 K.lk) ∧ w.cell? ⟨x, 2, none⟩ = some (.bool K.bp) ∧ w.cell? ⟨x, 3, none⟩ = some (.bool K.rr) ∧ w.cell? ⟨x, 4, none⟩ = some (.int .i64 K.room) ∧ w.cell? ⟨x, 41, none⟩ = some (.slice (some ⟨K.R, 0, none⟩) K.Ds.length K.Ds.length) ∧ w.cell? ⟨x, 42, none⟩ = some K.vF ∧ ∀ k, w.frozen? ⟨x, k, none⟩ = false := by
  have hl : (linkB K.near).length = 36 := by simp [linkB]
  refine ⟨?_, ?_, ?_, ?_, ?_, ?_, blk_thaw h.blk⟩ <;> rw [blk_cell h.blk] <;> simp [PrK.block, hl]
theorem PrB.clAt {w : World} {col : Col} {o x : Nat} {ex : Option Nat} {K : PrK} (h : PrB w col o x ex K) (h0 : K.lk = 0) : ClAt w x K.R K.Ds.length K.Ds.length := by
  obtain ⟨c0, _, _, _, c41, _, fz⟩ := h.cl
  rw [h0] at c0
  exact ⟨c0, fz 0, c41, h.xR, Nat.le_refl _⟩

/-- What a replica has is what the model says. -/
structure PrD.is (D : PrD) (p : Rep) : Prop where
  up : D.up = !p.down
  num : D.num = p.num
  base : D.base = p.base
  M : D.M = addTo (fun _ => none) p.atoms
  buf : D.es.map Pe.ent = p.buf
  ak : ∀ q, q < 6 → D.ak q = p.acked.getD q 0
  bytes : D.bytes = logBytes p
  frames : D.frames = p.frames
  weight : D.weight = p.weight
structure PrK.is (K : PrK) (c : Clu) : Prop where
  lk : K.lk = 0
  bp : K.bp = c.bp
  rr : K.rr = c.rr
  room : K.room = c.room
  near : ∀ i j, i < 6 → j < 6 → K.near i j = c.near i j
  len : K.Ds.length = c.reps.length
  nets : K.ns.map Fm.f = c.net
  reps : ∀ i (h : i < K.Ds.length), (K.Ds[i]).is (c.rep i)
theorem PrK.is.set {K : PrK} {c : Clu} {i : Nat} {D : PrD} {p : Rep} (h : K.is c) (hi : i < c.reps.length) (hD : D.is p) : (K.setD i D).is (c.setRep i p) where
  lk := h.lk
  bp := h.bp
  rr := h.rr
  room := h.room
  near := h.near
  len := by rw [K.setD_len, h.len]; simp [Clu.setRep]
  nets := h.nets
  reps j hj := by
    have hj' : j < K.Ds.length := by rw [← K.setD_len i D]; exact hj
    by_cases e : j = i
    · subst e
      rw [K.setD_at]
      simpa [Clu.rep, Clu.setRep, hi] using hD
    · have h1 : (K.setD i D).Ds[j] = K.Ds[j] := List.getElem_set_ne (fun e' => e e'.symm) _
      rw [h1]
      have := h.reps j hj'
      simpa [Clu.rep, Clu.setRep, Ne.symm e] using this

end Go.Proofs.YtahdlejgjcjeoaaGreatDoor

namespace Go.Proofs.YtahdlejgjcjeoaaGreatDoor
open Go.RowKit

/-- A map is emptied. -/
def emptied (w : World) (b clock : Nat) : World := { w with heap := w.heap.setIfInBounds b (.map #[] clock) }
theorem clear_map (b : Nat) (ty : TypeId) (W : World) (es : Array MapEntry) (clock : Nat) (h : W.heap[b]? = some (.map es clock)) : (Builtin.clear_ #[122] ty #[.map (some b)]).run Tryz.prog W = .ok (.tuple #[]) (emptied W b clock) := by
  simp [Builtin.clear_, run_underlying Tryz.underlying122, MapKept.run_getObj_map h, MapKept.run_setObj_map _ h, Result.andThen, emptied]
theorem emptied_grown (w : World) (b clock : Nat) : w.grownBy (emptied w b clock) (some b) := by
  refine ⟨rfl, rfl, rfl, by simp [emptied], fun k hk hne => ?_⟩
  have : b ≠ k := fun e => hne (by rw [e])
  simp [emptied, this]
theorem emptied_cell (w : World) (b clock : Nat) (a : Addr) (h : b ≠ a.block) : (emptied w b clock).cell? a = w.cell? a := by
  have : (emptied w b clock).heap[a.block]? = w.heap[a.block]? := by simp [emptied, h]
  simp [World.cell?, this]
theorem emptied_frozen (w : World) (b clock : Nat) (a : Addr) (h : b ≠ a.block) : (emptied w b clock).frozen? a = w.frozen? a := by
  have : (emptied w b clock).heap[a.block]? = w.heap[a.block]? := by simp [emptied, h]
  simp [World.frozen?, this]
theorem emptied_map {w : World} {b clock : Nat} (h : b < w.heap.size) : StMap (emptied w b clock) b 0 (fun _ => none) := by
  refine ⟨.map [], ⟨#[], clock, by simp [emptied, h], ⟨by simp, ?_, by simp⟩, Nat.le_refl _, rfl⟩, fun s _ _ => rfl, fun s g h => by cases h⟩
  exact MapKept.stamped_empty clock
theorem StMap.heap {w : World} {b n : Nat} {M : Sl → Option Gr} (h : StMap w b n M) : ∃ es clock, w.heap[b]? = some (.map es clock) := by
  obtain ⟨D, ⟨es, clock, h1, _⟩, _⟩ := h
  exact ⟨es, clock, h1⟩

def fall1 (w : World) (R i : Nat) : World := ((w.setCell ⟨R, i * 14, none⟩ (.bool false)).setCell ⟨R, i * 14 + 1, none⟩ (.int .i64 0)).setCell ⟨R, i * 14 + 2, none⟩ (.int .i64 0)
def fall2 (w : World) (R i : Nat) : World := ((((((w.setCell ⟨R, i * 14 + 4, none⟩ (.slice none 0 0)).setCell ⟨R, i * 14 + 5, none⟩ (.int .i64 0)).setCell ⟨R, i * 14 + 5 + 1, none⟩ (.int .i64 0)).setCell ⟨R, i * 14 + 5 + 2, none⟩ (.int .i64 0)).setCell ⟨R, i * 14 + 5 + 3, none⟩ (.int .i64 0)).setCell ⟨R, i * 14 + 5 + 4, none⟩ (.int .i64 0)).setCell ⟨R, i * 14 + 5 + 5, none⟩ (.int .i64 0)

set_option maxRecDepth 100000 in
set_option maxHeartbeats 1000000 in
theorem fall_cells (R i : Nat) (D : PrD) (w : World) (hc : Cells14 w R i D) (es : Array MapEntry) (clock : Nat) (hm : w.heap[D.b]? = some (.map es clock)) (hbR : D.b ≠ R) :
    Calls Tryz.prog 67 #[.pointer (some ⟨R, i * 14, none⟩)] w fun e w' => e = .returned (.tuple #[]) ∧ w' = fall2 (emptied (fall1 w R i) D.b clock) R i := by
  obtain ⟨c0, c1, c2, c3, c4, c11, c12, c13, fz, ak⟩ := hc
  generalize hW1 : fall1 w R i = W1
  have hm1 : W1.heap[D.b]? = some (.map es clock) := by
    subst hW1
    unfold fall1
    rw [Below.heap_setCell _ _ _ _ hbR, Below.heap_setCell _ _ _ _ hbR, Below.heap_setCell _ _ _ _ hbR]
    exact hm
  have hcl := fun ty => clear_map D.b ty W1 es clock hm1
  have k4 : (emptied W1 D.b clock).cell? ⟨R, i * 14 + 4, none⟩ = some D.vb := by
    rw [emptied_cell _ _ _ _ hbR, ← hW1]
    simp [fall1, World.cell?_setCell_other, c4]
  have kf : ∀ k, (emptied W1 D.b clock).frozen? ⟨R, k, none⟩ = false := fun k => by
    rw [emptied_frozen _ _ _ _ hbR, ← hW1]
    simp [fall1, fz]
  have ka : ∀ q, q < 6 → (emptied W1 D.b clock).cell? ⟨R, i * 14 + (5 + q), none⟩ = some (Value.int IntKind.i64 ↑(D.ak q)) := fun q hq => by
    rw [emptied_cell _ _ _ _ hbR, ← hW1]
    unfold fall1
    rw [World.cell?_setCell_other _ _ _ _ (by simp), World.cell?_setCell_other _ _ _ _ (by simp), World.cell?_setCell_other _ _ _ _ (by simp)]
    exact ak q hq
  have ka0 := ka 0 (by omega)
  have ka1 := ka 1 (by omega)
  have ka2 := ka 2 (by omega)
  have ka3 := ka 3 (by omega)
  have ka4 := ka 4 (by omega)
  have ka5 := ka 5 (by omega)
  clear ka hm1
  generalize emptied W1 D.b clock = W2 at *
  subst hW1
  unfold fall1 at hcl
  go_enter Tryz.func67, Tryz.ntmps67
  go_wp2
  go_end0
  exact ⟨rfl, rfl⟩

/-- What a replica's call may turn. -/
def ofPrg (o i : Nat) : Nat × Nat → Prop := fun κ => κ = (o, 2) ∨ ofRep o i κ
theorem PrB.put2 {w : World} {col : Col} {o x i k : Nat} {K : PrK} {D : PrD} {u : Value} (h : PrB w col o x (some i) (K.setD i D)) (hi : i < K.Ds.length) (hk : k < 14) (D' : PrD) (hD : D.cells.set k u = D'.cells) : PrB (w.setCell ⟨K.R, i * 14 + k, none⟩ u) col o x (some i) (K.setD i D') ∧ FrC (fun κ => κ = (o, 2)) col col w (w.setCell ⟨K.R, i * 14 + k, none⟩ u) := by
  have hi' : i < (K.setD i D).Ds.length := by rw [K.setD_len]; exact hi
  have := PrB.put h hi' hk D' (u := u) (by rw [K.setD_at]; exact hD)
  rw [K.setD_setD] at this
  exact this
theorem PrB.self {w : World} {col : Col} {o x i : Nat} {ex : Option Nat} {K : PrK} (h : PrB w col o x ex K) (hi : i < K.Ds.length) : PrB w col o x ex (K.setD i K.Ds[i]) := by
  have : K.setD i K.Ds[i] = K := by simp [PrK.setD]
  rw [this]
  exact h
theorem frC_emptied {S : Nat × Nat → Prop} {col : Col} {w : World} {b clock : Nat} (h : S (col b)) : FrC S col col w (emptied w b clock) :=
  ⟨(Fr.refl _ w).step (emptied_grown w b clock) (fun q hq => by cases hq; exact .inr h), fun _ _ => rfl⟩
theorem PrRep.bR {w : World} {col : Col} {o x i : Nat} {ex : Option Nat} {K : PrK} {D : PrD} (h : PrB w col o x ex K) (hp : PrRep w col o i D) : D.b ≠ K.R := fun e => by
  have h1 := hp.cb
  rw [e, h.cR] at h1
  have := congrArg Prod.snd h1
  simp only at this
  omega
def PrD.fall (D : PrD) : PrD := { D with up := false, num := 0, base := 0, n := 0, M := fun _ => none, vb := .slice none 0 0, es := [], ak := fun _ => 0 }
theorem prgFall {w : World} {col : Col} {o x i : Nat} {K : PrK} {D : PrD} (h : PrB w col o x (some i) (K.setD i D)) (h6 : K.Ds.length ≤ 6) (hi : i < K.Ds.length) (hp : PrRep w col o i D) :
    Calls Tryz.prog 67 #[.pointer (some ⟨K.R, i * 14, none⟩)] w fun e w' => e = .returned (.tuple #[]) ∧ PrB w' col o x (some i) (K.setD i D.fall) ∧ PrRep w' col o i D.fall ∧ FrC (ofPrg o i) col col w w' := by
  have hi' : i < (K.setD i D).Ds.length := by rw [K.setD_len]; exact hi
  have hc := h.cells hi'
  rw [K.setD_at] at hc
  obtain ⟨es, clock, hm⟩ := hp.st.heap
  have hbR : D.b ≠ K.R := PrRep.bR (K := K.setD i D) h hp
  refine (fall_cells K.R i D w hc es clock hm hbR).mono ?_
  rintro e w' ⟨rfl, rfl⟩
  obtain ⟨h1, f1⟩ := h.put2 hi (k := 0) (u := .bool false) (by omega) { D with up := false } rfl
  obtain ⟨h2, f2⟩ := h1.put2 hi (k := 1) (u := .int .i64 0) (by omega) { D with up := false, num := 0 } rfl
  obtain ⟨h3, f3⟩ := h2.put2 hi (k := 2) (u := .int .i64 0) (by omega) { D with up := false, num := 0, base := 0 } rfl
  have F3 : FrC (fun κ => κ = (o, 2)) col col w (fall1 w K.R i) := (f1.trans f2).trans f3
  have h3' : PrB (fall1 w K.R i) col o x (some i) (K.setD i { D with up := false, num := 0, base := 0 }) := h3
  clear h1 h2 h3 f1 f2 f3
  generalize fall1 w K.R i = w3 at *
  have hcb := hp.cb
  have hlt3 : D.b < w3.heap.size := Nat.lt_of_lt_of_le hp.st.lt F3.size
  have F4 : FrC (ofRep o i) col col w3 (emptied w3 D.b clock) := frC_emptied (by rw [hcb]; exact ⟨rfl, by show 10 ≤ 10 + i; omega, by show (10 + i) % 10 = i; omega⟩)
  have F4' : FrC (fun κ => κ = (o, 10 + i)) col col w3 (emptied w3 D.b clock) := frC_emptied hcb
  have hst : StMap (emptied w3 D.b clock) D.b 0 (fun _ => none) := emptied_map hlt3
  have h4 := (h3'.rest (by rw [K.setD_len]; exact h6) (by rw [K.setD_len]; exact hi) F4).as { D with up := false, num := 0, base := 0, n := 0, M := fun _ => none } (fun hi => by rw [K.setD_at]; rfl)
  rw [K.setD_setD] at h4
  generalize emptied w3 D.b clock = w4 at *
  clear h3'
  obtain ⟨h5, f5⟩ := h4.put2 hi (k := 4) (u := .slice none 0 0) (by omega) { D with up := false, num := 0, base := 0, n := 0, M := fun _ => none, vb := .slice none 0 0, es := [] } rfl
  obtain ⟨h6', f6⟩ := h5.put2 hi (k := 5) (u := .int .i64 0) (by omega) { D with up := false, num := 0, base := 0, n := 0, M := fun _ => none, vb := .slice none 0 0, es := [], ak := fun q => if q < 1 then 0 else D.ak q } rfl
  obtain ⟨h7, f7⟩ := h6'.put2 hi (k := 6) (u := .int .i64 0) (by omega) { D with up := false, num := 0, base := 0, n := 0, M := fun _ => none, vb := .slice none 0 0, es := [], ak := fun q => if q < 2 then 0 else D.ak q } rfl
  obtain ⟨h8, f8⟩ := h7.put2 hi (k := 7) (u := .int .i64 0) (by omega) { D with up := false, num := 0, base := 0, n := 0, M := fun _ => none, vb := .slice none 0 0, es := [], ak := fun q => if q < 3 then 0 else D.ak q } rfl
  obtain ⟨h9, f9⟩ := h8.put2 hi (k := 8) (u := .int .i64 0) (by omega) { D with up := false, num := 0, base := 0, n := 0, M := fun _ => none, vb := .slice none 0 0, es := [], ak := fun q => if q < 4 then 0 else D.ak q } rfl
  obtain ⟨h10, f10⟩ := h9.put2 hi (k := 9) (u := .int .i64 0) (by omega) { D with up := false, num := 0, base := 0, n := 0, M := fun _ => none, vb := .slice none 0 0, es := [], ak := fun q => if q < 5 then 0 else D.ak q } rfl
  obtain ⟨h11, f11⟩ := h10.put2 hi (k := 10) (u := .int .i64 0) (by omega) D.fall rfl
  have F11 : FrC (fun κ => κ = (o, 2)) col col w4 (fall2 w4 K.R i) := (((((f5.trans f6).trans f7).trans f8).trans f9).trans f10).trans f11
  have H11 : PrB (fall2 w4 K.R i) col o x (some i) (K.setD i D.fall) := h11
  clear h5 h6' h7 h8 h9 h10 h11 f5 f6 f7 f8 f9 f10 f11
  generalize fall2 w4 K.R i = w5 at *
  have n2 : ∀ j, j ≠ 2 → ¬ ((o, j) = (o, 2)) := fun j hj e => hj (congrArg Prod.snd e)
  have n10 : ∀ j, j ≠ 10 + i → ¬ ((o, j) = (o, 10 + i)) := fun j hj e => hj (congrArg Prod.snd e)
  refine ⟨rfl, H11, ⟨?_, hcb, rowC_nil _ _ _ _ _, (fun e he => by cases he), ((hp.log.kept F3 (n2 _ (by omega))).kept F4' (n10 _ (by omega))).kept F11 (n2 _ (by omega))⟩, ?_⟩
  · exact hst.block (F11.fr.block _ hst.lt (by rw [hcb]; exact n2 _ (by omega)))
  · exact ((F3.mono fun x hx => .inl hx).trans (F4.mono fun x hx => .inr hx)).trans (F11.mono fun x hx => .inl hx)
theorem PrD.is.fall {D : PrD} {p : Rep} (h : D.is p) : D.fall.is p.fall where
  up := rfl
  num := rfl
  base := rfl
  M := rfl
  buf := rfl
  ak q hq := by simp only [PrD.fall, Rep.fall, List.getD, List.getElem?_replicate]; split <;> rfl
  bytes := h.bytes
  frames := h.frames
  weight := h.weight
end Go.Proofs.YtahdlejgjcjeoaaGreatDoor

namespace Go.Proofs.YtahdlejgjcjeoaaGreatDoor
open Go.RowKit

/-- An operation as a value. -/
def OpV.val (o : OpV) : Value := .agg #[.int .i64 o.ty, .string o.key, .int .i64 o.side, .string o.elem, .int .i64 o.n]
/-- Texts that a length can tell. -/
def OpV.short (o : OpV) : Prop := o.key.size ≤ 281474976710656 ∧ o.elem.size ≤ 281474976710656

theorem toList_nil (s : ByteArray) : s.toList = [] ↔ s.size = 0 := by rw [← List.isEmpty_iff, isEmpty_size]

set_option maxHeartbeats 4000000 in
theorem refFine (o : OpV) (w : World) (ho : o.short) :
    Calls Tryz.prog 109 #[o.val] w fun e w' => e = .returned (.bool (fineOp o)) ∧ Below w.heap.size w w' := by
  obtain ⟨ty, key, side, elem, n⟩ := o
  simp only [OpV.short] at ho
  obtain ⟨hk, he⟩ := ho
  unfold OpV.val
  simp only
  go_enter Tryz.func109, Tryz.ntmps109
  go_wp2
  all_goals
    go_ret
    refine ⟨ret_bool ?_, by repeat (first | exact Below.refl _ _ | refine below_drewN ?_ _ | refine Below.alloc ?_ (by simp) _)⟩
  all_goals go_light
  all_goals rw [Bool.eq_iff_iff]
  all_goals simp only [fineOp, decide_eq_true_eq, beq_iff_eq, beq_eq_false_iff_ne, ne_eq, Bool.false_eq_true, toList_nil, false_iff] at *
  all_goals first | omega | (simp_all; try omega; done)
end Go.Proofs.YtahdlejgjcjeoaaGreatDoor
