/- Walk of the law Joins. -/
import Derived.Test.YtahdlejgjcjeoaaDoorAnswers
import Derived.Test.YtahdlejgjcjeoaaDoorJoinRef
import Derived.Test.YtahdlejgjcjeoaaDoorJoinLat
namespace Go.Proofs.YtahdlejgjcjeoaaDoor
open Go.RowKit

/-- What a Join answers: the state told, or the error and no list. -/
def JoinSpec (l m : List At) (c : Int) (v : Value) (out : List At) : Prop :=
  (c = 0 ∧ (∀ x ∈ l ++ m, mayB x = true) ∧ IsTold (l ++ m) out) ∨ (c = 1 ∧ v = .slice none 0 0 ∧ out = [])
def joinCode (l m : List At) : Int := if l.all mayB && m.all mayB then 0 else 1
theorem JoinSpec.unique {l m : List At} {c : Int} {v v' : Value} {a b : List At} (h : JoinSpec l m c v a) (k : JoinSpec l m c v' b) : a = b := by
  rcases h with ⟨h0, hm, ha⟩ | ⟨h1, _, rfl⟩
  · rcases k with ⟨_, _, hb⟩ | ⟨k1, _⟩
    · exact ha.unique hm hb
    · omega
  · rcases k with ⟨k0, _⟩ | ⟨_, _, rfl⟩
    · omega
    · rfl
theorem told_length {l out : List At} (h : IsTold l out) : out.length ≤ l.length := length_le_of_sub (sorted_ne h.sorted) (fun x hx => (h.great x hx).1)
theorem JoinSpec.length {l m : List At} {c : Int} {v : Value} {a : List At} (h : JoinSpec l m c v a) : a.length ≤ l.length + m.length := by
  rcases h with ⟨_, _, h⟩ | ⟨_, _, rfl⟩
  · have := told_length h; simpa using this
  · simp
theorem JoinSpec.code {l m : List At} {c : Int} {v : Value} {a : List At} (h : JoinSpec l m c v a) : c = 0 ∨ (c = 1 ∧ v = .slice none 0 0) := by
  rcases h with ⟨h, _⟩ | ⟨h, h', _⟩
  · exact .inl h
  · exact .inr ⟨h, h'⟩

theorem refJoin_any (v1 v2 : Value) (l m : List At) (w : World) (h1 : SliceOf w v1 l) (h2 : SliceOf w v2 m) (hs1 : ∀ a ∈ l, short a) (hs2 : ∀ a ∈ m, short a) (hlen : l.length ≤ 4194304) (hlen2 : m.length ≤ 4194304) :
    Calls Tryd.prog 12 #[v1, v2] w fun e w' => ∃ v out, e = .returned (.tuple #[v, .int .i64 (joinCode l m)]) ∧ w'.ownsRow w.heap.size 52 6 v out.length (flat out) ∧ Hid (JoinSpec l m (joinCode l m) v out) ∧ Below w.heap.size w w' := by
  cases hb : (l.all mayB && m.all mayB)
  · have hc : joinCode l m = 1 := by simp [joinCode, hb]
    rw [hc]
    refine (refJoin_no v1 v2 l m w h1 h2 hs1 hs2 hlen hlen2 hb).mono ?_
    rintro e w' ⟨rfl, hw⟩
    exact ⟨_, [], rfl, ⟨rfl, .inl ⟨rfl, rfl⟩⟩, .inr ⟨rfl, rfl, rfl⟩, hw⟩
  · have hc : joinCode l m = 0 := by simp [joinCode, hb]
    rw [hc]
    simp only [Bool.and_eq_true] at hb
    refine (refJoin_yes v1 v2 l m w h1 h2 hs1 hs2 hlen hlen2 hb.1 hb.2).mono ?_
    rintro e w' ⟨v, out, rfl, hown, ht, hw⟩
    refine ⟨v, out, rfl, hown, .inl ⟨rfl, fun x hx => ?_, ht⟩, hw⟩
    rcases List.mem_append.1 hx with h | h
    · exact List.all_eq_true.1 hb.1 x h
    · exact List.all_eq_true.1 hb.2 x h
theorem latJoin_any (v1 v2 : Value) (l m : List At) (w : World) (hr : RulesAt w) (h1 : SliceOf w v1 l) (h2 : SliceOf w v2 m) (hs1 : ∀ a ∈ l, short a) (hs2 : ∀ a ∈ m, short a) (hlen : l.length ≤ 4194304) (hlen2 : m.length ≤ 4194304) :
    Calls Tryd.prog 13 #[v1, v2] w fun e w' => ∃ v out, e = .returned (.tuple #[v, .int .i64 (joinCode l m)]) ∧ w'.ownsRow w.heap.size 52 6 v out.length (flat out) ∧ Hid (JoinSpec l m (joinCode l m) v out) ∧ Below w.heap.size w w' := by
  cases hb : (l.all mayB && m.all mayB)
  · have hc : joinCode l m = 1 := by simp [joinCode, hb]
    rw [hc]
    refine (latJoin_no v1 v2 l m w hr h1 h2 hs1 hs2 hlen hlen2 hb).mono ?_
    rintro e w' ⟨rfl, hw⟩
    exact ⟨_, [], rfl, ⟨rfl, .inl ⟨rfl, rfl⟩⟩, .inr ⟨rfl, rfl, rfl⟩, hw⟩
  · have hc : joinCode l m = 0 := by simp [joinCode, hb]
    rw [hc]
    simp only [Bool.and_eq_true] at hb
    refine (latJoin_yes v1 v2 l m w hr h1 h2 hs1 hs2 hlen hlen2 hb.1 hb.2).mono ?_
    rintro e w' ⟨v, out, rfl, hown, ht, hw⟩
    refine ⟨v, out, rfl, hown, .inl ⟨rfl, fun x hx => ?_, ht⟩, hw⟩
    rcases List.mem_append.1 hx with h | h
    · exact List.all_eq_true.1 hb.1 x h
    · exact List.all_eq_true.1 hb.2 x h

/-- A list lent, cut to its own length, reads as it. -/
theorem lent_cut {w : World} {base g n : Nat} {l r : List At} (h : w.ownsRow base 52 6 (.slice (some ⟨g, 0, none⟩) n n) n (flat (l ++ r))) (hn : n = (l ++ r).length) : SliceOf w (.slice (some ⟨g, 0, none⟩) l.length n) l := by
  subst hn
  rcases h.2 with ⟨h0, _⟩ | ⟨g', cap', cur, hv, _, hh, _, _, _, h4⟩
  · cases h0
  cases hv
  have hrow := rowAt_of_block hh h4
  refine ⟨_, _, rfl, by simp, fun _ => ⟨g, 0, rfl, (Array.getElem?_eq_some_iff.1 hh).1, fun k hk => ?_⟩⟩
  have := hrow k (by simp; omega)
  rwa [List.getElem_append_left hk] at this

end Go.Proofs.YtahdlejgjcjeoaaDoor
