/- Bytes that stand for a state. -/
import Derived.Test.YtahdlejgjcjeoaaDoorDec
import Derived.Test.YtahdlejgjcjeoaaDoorOrd
namespace Go.Proofs.YtahdlejgjcjeoaaDoor


/-- The bytes are those of the state t. -/
def Good (l : List UInt8) (t : List At) : Prop := IsTold t t ∧ (∀ a ∈ t, mayB a = true) ∧ l = be t.length 8 ++ encL t
theorem Good.parse {l : List UInt8} {t : List At} (h : Good l t) : parse (l.drop 8) = t := by
  rw [h.2.2, drop_app (be_length _ _), parse_encL t h.2.1]
theorem Good.unique {l : List UInt8} {t u : List At} (h : Good l t) (k : Good l u) : t = u := by rw [← h.parse, k.parse]
theorem told_again {l out : List At} (h : IsTold l out) : IsTold out out where
  sorted := h.sorted
  great x hx := ⟨hx, fun y hy hp => (h.great x hx).2 y (h.great y hy).1 hp⟩
  all y hy := ⟨y, hy, plc_tp.refl y⟩
theorem good_of {l : List UInt8} {m out : List At} (hm : ∀ a ∈ m, mayB a = true) (ht : IsTold m out) (h : l = be out.length 8 ++ encL out) : Good l out :=
  ⟨told_again ht, fun a ha => hm a (ht.great a ha).1, h⟩

end Go.Proofs.YtahdlejgjcjeoaaDoor
