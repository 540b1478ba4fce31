/- Rows of atoms, copied and made. -/
import Derived.Test.YtahdlejgjcjeoaaDoorLawA
import Derived.Test.YtahdlejgjcjeoaaDoorRowSet
import Derived.Test.YtahdlejgjcjeoaaDoorRefB
namespace Go.Proofs.YtahdlejgjcjeoaaDoor
open Go.RowKit

theorem rowAt_cells {w : World} {b off : Nat} {l : List At} (h : RowAt w b off l) : ∀ j u, (flat l)[j]? = some u → w.cell? ((⟨b, off, none⟩ : Addr).add j) = some u := by
  intro j u hu
  have hadd : (⟨b, off, none⟩ : Addr).add j = ⟨b, off + j, none⟩ := by unfold Addr.add; split <;> simp_all
  have hj : j < (flat l).length := (List.getElem?_eq_some_iff.1 hu).1
  rw [flat_length] at hj
  have hk : j / 6 < l.length := by omega
  have hg := flat_get l (j / 6) (j % 6) hk (Nat.mod_lt _ (by decide))
  rw [show j / 6 * 6 + j % 6 = j by omega, hu] at hg
  obtain ⟨c0, c1, c2, c3, c4, c5⟩ := h (j / 6) hk
  rw [hadd]
  have hcase : j % 6 = 0 ∨ j % 6 = 1 ∨ j % 6 = 2 ∨ j % 6 = 3 ∨ j % 6 = 4 ∨ j % 6 = 5 := by omega
  rcases hcase with e | e | e | e | e | e
  · rw [show off + j = off + j / 6 * 6 by omega, c0, hg, e]; rfl
  · rw [show off + j = off + j / 6 * 6 + 1 by omega, c1, hg, e]; rfl
  · rw [show off + j = off + j / 6 * 6 + 2 by omega, c2, hg, e]; rfl
  · rw [show off + j = off + j / 6 * 6 + 3 by omega, c3, hg, e]; rfl
  · rw [show off + j = off + j / 6 * 6 + 4 by omega, c4, hg, e]; rfl
  · rw [show off + j = off + j / 6 * 6 + 5 by omega, c5, hg, e]; rfl

theorem flat_oneCell (l : List At) : ∀ u ∈ flat l, u.oneCell' = true := by
  intro u hu
  obtain ⟨a, _, h⟩ := List.mem_flatMap.1 hu
  exact enc_oneCell a u h
theorem flat_append (l m : List At) : flat (l ++ m) = flat l ++ flat m := by simp [flat]
theorem flat_drop (l : List At) (k : Nat) : (flat l).drop (k * 6) = flat (l.drop k) := by
  induction l generalizing k with
  | nil => simp [flat]
  | cons a l ih =>
    cases k with
    | zero => simp
    | succ k =>
      have : flat (a :: l) = enc a ++ flat l := rfl
      rw [this, List.drop_append, show (enc a).length = 6 from rfl, List.drop_of_length_le (by show 6 ≤ _; omega), show (k + 1) * 6 - 6 = k * 6 by omega, ih]
      rfl

theorem wpList_copy_atoms {P : Program} {w : World} {ops : Array Oper} {rest : List Oper} {o : Oper} {a : Act} {Q : Exit → Act → World → Prop} (hgd : o.guard = none) (d s : Operand) (dT sT : TypeId)
    (ho : o.op = .call { callee := .builtin .copy, args := #[d, s], argTypes := #[dT, sT] }) (elem : TypeId) (hu : P.underlying dT = some (.slice elem)) (hsz : (P.info? elem).map (·.size) = some 6)
    (base g n cap : Nat) (xs : List At) (hd : a.eval d = .slice (some ⟨g, 0, none⟩) n cap) (hown : w.ownsRow base elem 6 (.slice (some ⟨g, 0, none⟩) n cap) n (flat xs)) (hn : n = xs.length)
    (v : Value) (hs : a.eval s = v) (l : List At) (hv : SliceOf w v l) (hle : l.length ≤ n)
    (h : ∀ w', w'.ownsRow base elem 6 (.slice (some ⟨g, 0, none⟩) n cap) n (flat (l ++ xs.drop l.length)) → w.grownBy w' (some g) → wpList P ops Q rest (a.put o.dst (goInt l.length)) w') : wpList P ops Q (o :: rest) a w := by
  refine wpList_plain hgd fun K hK => ?_
  subst hn
  obtain ⟨ad, capS, rfl, hcap, H⟩ := hv
  by_cases h0 : 0 < l.length
  · obtain ⟨b, off, rfl, hb, hrow⟩ := H h0
    rcases hown.2 with ⟨h0, _⟩ | ⟨g', cap', cur, hv, hg, hh, h1, h2, h3, h4⟩
    · cases h0
    cases hv
    have hmin : Nat.min l.length xs.length = l.length := Nat.min_eq_left hle
    have hfl := flat_length l
    have hfit : 0 + (flat l).length ≤ cur.size := by rw [hfl, h3]; have := Nat.mul_le_mul_right 6 (Nat.le_trans hle h1); omega
    have hrun := run_copy_row6 (P := P) w dT sT o.type elem g 0 xs.length cap ⟨b, off, none⟩ l.length capS cur elem (flat l) hu hsz hh (by rw [hmin, hfl]) (rowAt_cells hrow) hfit (flat_oneCell l)
    rw [hmin] at hrun
    unfold Oper.wp
    simp only [execOp, ho, resolve, invoke, builtin, Sem.run_bind, Sem.run_pure, Result.andThen_ok, List.map_toArray, List.map_cons, List.map_nil, hd, hs, hrun]
    refine hK _ _ (h _ ?_ ?_)
    · refine ⟨by rw [flat_length]; simp; omega, .inr ⟨g, cap, _, rfl, hg, setRow_heap w g _ _ elem _ hh, h1, h2, ?_, ?_⟩⟩
      · simp; omega
      · simp only [List.take_zero, List.nil_append, Nat.zero_add]
        rw [List.take_append, List.take_of_length_le (by rw [hfl]; have := Nat.mul_le_mul_right 6 hle; omega), hfl, flat_append]
        congr 1
        have e1 : (cur.toList.drop (l.length * 6)).take (xs.length * 6 - l.length * 6) = (cur.toList.take (xs.length * 6)).drop (l.length * 6) := by rw [List.drop_take]
        rw [e1, h4, flat_drop]
    · exact ⟨rfl, rfl, rfl, by simp [World.setRow], fun k _ hne => setRow_other w g k _ (fun e => hne (by rw [e]))⟩
  · obtain rfl := List.length_eq_zero_iff.1 (by omega : l.length = 0)
    have hrun := run_copy_none6 (P := P) w dT sT o.type elem g 0 xs.length cap ad capS hu hsz
    unfold Oper.wp
    simp only [execOp, ho, resolve, invoke, builtin, Sem.run_bind, Sem.run_pure, Result.andThen_ok, List.map_toArray, List.map_cons, List.map_nil, hd, hs, List.length_nil, hrun]
    exact hK _ _ (h w (by simpa using hown) ⟨rfl, rfl, rfl, Nat.le_refl _, fun _ _ _ => rfl⟩)

theorem made_flat (n : Nat) : (madeCells (Value.cells (.agg #[.int .i64 0, .string ⟨#[]⟩, .int .i64 0, .int .i64 0, .string ⟨#[]⟩, .int .i64 0])) (n * 6)).toList = flat (List.replicate n ⟨0, ⟨#[]⟩, 0, 0, ⟨#[]⟩, 0⟩) := by
  apply List.ext_getElem?
  intro t
  by_cases ht : t < n * 6
  · have hk : t / 6 < (List.replicate n (⟨0, ⟨#[]⟩, 0, 0, ⟨#[]⟩, 0⟩ : At)).length := by simp; omega
    have hg := flat_get _ (t / 6) (t % 6) hk (Nat.mod_lt _ (by decide))
    rw [show t / 6 * 6 + t % 6 = t by omega] at hg
    rw [hg]
    simp only [List.getElem_replicate]
    have hcase : t % 6 = 0 ∨ t % 6 = 1 ∨ t % 6 = 2 ∨ t % 6 = 3 ∨ t % 6 = 4 ∨ t % 6 = 5 := by omega
    rcases hcase with e | e | e | e | e | e <;> simp [madeCells, Value.cells, ht, e, enc]
  · have h1 : (flat (List.replicate n (⟨0, ⟨#[]⟩, 0, 0, ⟨#[]⟩, 0⟩ : At))).length ≤ t := by rw [flat_length]; simp; omega
    rw [List.getElem?_eq_none h1, List.getElem?_eq_none (by simp [madeCells]; omega)]

theorem sizeAtom : (Tryd.prog.info? 52).map (·.size) = some 6 := by kernel_rfl

end Go.Proofs.YtahdlejgjcjeoaaDoor
