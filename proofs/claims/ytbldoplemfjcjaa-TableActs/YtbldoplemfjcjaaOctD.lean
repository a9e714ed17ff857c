/- What the document's Num and Be give. -/
import Derived.Test.YtbldoplemfjcjaaOctC
import Derived.LoopN
import Derived.WalkSpells
namespace Go.Proofs.Ytbldoplemfjcjaa
open Go.RowKit

/-- The number of n bytes from k on. -/
def val (s : ByteArray) (k : Nat) : Nat → Int
  | 0 => 0
  | i + 1 => val s k i * 256 + ((s.data.toList.getD (k + i) 0).toNat : Int)
theorem val_lt (s : ByteArray) (k : Nat) : ∀ i, 0 ≤ val s k i ∧ val s k i < 256 ^ i := by
  intro i
  induction i with
  | zero => simp [val]
  | succ i ih =>
    have := (s.data.toList.getD (k + i) 0).toNat_lt
    unfold val
    rw [Int.pow_succ]
    omega
theorem val_getD (s : ByteArray) (k : Nat) (h : k < s.size) : s.data.toList.getD k 0 = s[k] := by
  rw [List.getD_eq_getElem?_getD, List.getElem?_eq_getElem (by rw [data_len]; exact h)]
  rfl
theorem val_two (s : ByteArray) (k : Nat) (h : k + 2 ≤ s.size) : val s k 2 = two s[k] s[k + 1] := by
  unfold val val val two
  rw [val_getD s _ (by omega), val_getD s _ (by omega)]
  simp only [Nat.add_zero]
  omega
theorem val_four (s : ByteArray) (k : Nat) (h : k + 4 ≤ s.size) : val s k 4 = four s[k] s[k + 1] s[k + 2] s[k + 3] := by
  unfold val val val val val four two
  rw [val_getD s _ (by omega), val_getD s _ (by omega), val_getD s _ (by omega), val_getD s _ (by omega)]
  simp only [Nat.add_zero]
  omega

theorem wraps_i64 (n : Int) (h₀ : 0 ≤ n) (h₁ : n < 2 ^ 62) : IntKind.i64.wrap n = n := by rw [IntKind.wrap_i64]; omega



end Go.Proofs.Ytbldoplemfjcjaa
