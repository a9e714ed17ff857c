/- What Parent, Last, Same, Above and Compare of package rel give, for every argument. -/
import Derived.Test.YtnjlfbcfnmdkkaaWalkH
import Derived.Test.YtnjlfbcfnmdkkaaPlainI
namespace Go.Proofs.Ytnjlfbcfnmdkkaa
open Go.RowKit
open Pl

/-- What Parent, Last and Child hand back. -/
def optV : Option (List UInt8) → Value
  | some l => .tuple #[.string ⟨l.toArray⟩, .int .i64 0]
  | none => .tuple #[.string ⟨#[]⟩, .int .i64 200]

theorem ret_some {r : Option (List UInt8)} {t : ByteArray} (h : r = some t.data.toList) : Ending.returned (.tuple #[.string t, .int .i64 0]) = .returned (optV r) := by rw [h]; rfl
theorem ret_none {r : Option (List UInt8)} (h : r = none) : Ending.returned (.tuple #[.string ⟨#[]⟩, .int .i64 200]) = .returned (optV r) := by rw [h]; rfl

theorem ext_list (s : ByteArray) (i j : Nat) : (s.extract i j).data.toList = (s.data.toList.drop i).take (j - i) := by simp [List.extract_eq_take_drop]
theorem ext_from (s : ByteArray) (i : Nat) : (s.extract i s.size).data.toList = s.data.toList.drop i := by
  rw [ext_list, List.take_of_length_le (by simp)]

theorem root_test {s : ByteArray} {b : Bool} (h : decide (s.data.toList = [0]) = b) : (s.toList == [0]) = b := by
  rw [ByteArray.toList_eq, ← h, Bool.eq_iff_iff]; simp

end Go.Proofs.Ytnjlfbcfnmdkkaa
