/- Bytes as a text. -/
import Derived.Test.YtahdlejgjcjeoaaDoorEnc
namespace Go.Proofs.YtahdlejgjcjeoaaDoor
open Go.RowKit

/-- Bytes as a text. -/
def bstr (l : List UInt8) : ByteArray := ⟨l.toArray⟩
theorem bstr_data (l : List UInt8) : (bstr l).data.toList = l := rfl
theorem bstr_nums (l : List UInt8) : strOfNums (l.map fun b => (b.toNat : Int)) = bstr l := by
  unfold strOfNums bstr
  congr 2
  rw [List.map_map]
  conv => rhs; rw [← List.map_id l]
  apply List.map_congr_left
  intro b _
  simp
theorem bstr_size (l : List UInt8) : (bstr l).size = l.length := by simp [bstr, ByteArray.size]
theorem bstr_self (s : ByteArray) : bstr s.data.toList = s := rfl

end Go.Proofs.YtahdlejgjcjeoaaDoor
