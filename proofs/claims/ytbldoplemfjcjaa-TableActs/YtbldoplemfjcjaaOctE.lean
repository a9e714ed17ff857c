/- What the document's Be gives. -/
import Derived.Test.YtbldoplemfjcjaaOctD
import Derived.Laws.MakeOwn
namespace Go.Proofs.Ytbldoplemfjcjaa
open Go.RowKit


theorem made_zero (n : Nat) : madeCells #[.int .u8 0] n = ((List.replicate n (0 : UInt8)).map bv).toArray := by
  apply Array.ext
  · simp [madeCells]
  · intro i h1 h2
    simp [madeCells, bv, Nat.mod_one]

/-- The last j bytes of a number of n bytes, zeros ahead of them. -/
def beL (x : Int) (n j : Nat) : List UInt8 := (List.range n).map fun p => if n - j ≤ p then oct x (256 ^ (n - 1 - p)) else 0
theorem beL_len (x : Int) (n j : Nat) : (beL x n j).length = n := by simp [beL]
theorem beL_zero (x : Int) (n : Nat) : beL x n 0 = List.replicate n 0 := by
  apply List.ext_getElem (by simp [beL])
  intro i h1 h2
  have : i < n := by simpa [beL] using h1
  simp only [beL, List.getElem_map, List.getElem_range, List.getElem_replicate]
  rw [if_neg (by omega)]
theorem beL_set (x : Int) (n j q : Nat) (h : q + 1 + j = n) : (beL x n j).set q (oct x (256 ^ j)) = beL x n (j + 1) := by
  apply List.ext_getElem (by simp [beL])
  intro i h1 h2
  have hi : i < n := by simpa [beL] using h2
  rw [List.getElem_set]
  simp only [beL, List.getElem_map, List.getElem_range]
  split
  · rename_i e
    subst e
    rw [if_pos (by omega), show n - 1 - q = j from by omega]
  · by_cases hj : n - j ≤ i
    · rw [if_pos hj, if_pos (by omega)]
    · rw [if_neg hj, if_neg (by omega)]
theorem beL_two (x : Int) : beL x 2 2 = [oct x 256, oct x 1] := by
  simp [beL, List.range_succ]
theorem beL_four (x : Int) : beL x 4 4 = [oct x 16777216, oct x 65536, oct x 256, oct x 1] := by
  simp [beL, List.range_succ]

theorem set_cells (l : List UInt8) (i : Nat) (b : UInt8) : (l.map bv).set i (.int .u8 (b.toNat : Int)) = (l.set i b).map bv := by
  rw [List.map_set]; rfl

theorem wraps_u64 (n : Int) (h₀ : 0 ≤ n) (h₁ : n < 2 ^ 64) : IntKind.u64.wrap n = n := by
  have : IntKind.u64.wrap n = n % 18446744073709551616 := by simp [IntKind.wrap, IntKind.bits, IntKind.signed]
  rw [this]; omega

theorem u64_byte (x u : Int) (j : Nat) (hj : j ≤ 4) (hu : u = x % 18446744073709551616 / 256 ^ j) : bits .and .u64 u 255 = ((oct x (256 ^ j)).toNat : Int) := by
  have hd : j = 0 ∨ j = 1 ∨ j = 2 ∨ j = 3 ∨ j = 4 := by omega
  have h0 : 0 ≤ u ∧ u < 18446744073709551616 := by
    rcases hd with rfl | rfl | rfl | rfl | rfl <;> subst hu <;> omega
  have := bits_mask .u64 64 (by decide) wraps_u64 8 (by decide) u h0.1 (by omega)
  rw [oct_nat]
  have h2 : bits .and .u64 u 255 = u % 256 := by simpa using this
  rw [h2]
  rcases hd with rfl | rfl | rfl | rfl | rfl <;> subst hu <;> omega




end Go.Proofs.Ytbldoplemfjcjaa
