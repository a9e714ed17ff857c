/- What Child and Fold of package rel give, for every argument. -/
import Derived.Test.YtnjlfbcfnmdkkaaWalkL
import Derived.Lib.AppendStr
namespace Go.Proofs.Ytnjlfbcfnmdkkaa
open Go.RowKit
open Pl

theorem child_no {x l : List UInt8} (h : x.length < 1 ∨ 63 < x.length ∨ isName l = false ∨ 255 < 1 + x.length + l.length) : childR x l = none := by
  unfold childR
  rw [if_neg]
  rintro ⟨h1, h2, h3, h4⟩
  rcases h with h | h | h | h
  · omega
  · omega
  · rw [h] at h3; simp at h3
  · omega

theorem str_cells (s : ByteArray) : Lib.strCells s = s.data.toList.map bv := rfl

theorem child_cells (x s : ByteArray) (h : x.size ≤ 63) : [] ++ [Value.int .u8 (x.size : Int)] ++ Lib.strCells x ++ Lib.strCells s = (UInt8.ofNat x.size :: (x.data.toList ++ s.data.toList)).map bv := by
  rw [str_cells, str_cells]
  simp [bv]
  omega

end Go.Proofs.Ytnjlfbcfnmdkkaa
