/- What the document's Num and Be give. -/
import Derived.Test.YtehldafdjldpbaaOctC
import Derived.LoopN
import Derived.WalkSpells
namespace Go.Proofs.Ytehldafdjldpbaa
open Go.RowKit

/-- The number of n bytes from k on. -/
def val (s : ByteArray) (k : Nat) : Nat → Int
  | 0 => 0
  | i + 1 => val s k i * 256 + ((s.data.toList.getD (k + i) 0).toNat : Int)
theorem val_lt (s : ByteArray) (k : Nat) : ∀ i, 0 ≤ val s k i ∧ val s k i < 256 ^ i := by
  intro i
  induction i with
  | zero => simp [val]
  | succ i ih =>
    have := (s.data.toList.getD (k + i) 0).toNat_lt
    unfold val
    rw [Int.pow_succ]
    omega
theorem val_getD (s : ByteArray) (k : Nat) (h : k < s.size) : s.data.toList.getD k 0 = s[k] := by
  rw [List.getD_eq_getElem?_getD, List.getElem?_eq_getElem (by rw [data_len]; exact h)]
  rfl
theorem val_two (s : ByteArray) (k : Nat) (h : k + 2 ≤ s.size) : val s k 2 = two s[k] s[k + 1] := by
  unfold val val val two
  rw [val_getD s _ (by omega), val_getD s _ (by omega)]
  simp only [Nat.add_zero]
  omega
theorem val_four (s : ByteArray) (k : Nat) (h : k + 4 ≤ s.size) : val s k 4 = four s[k] s[k + 1] s[k + 2] s[k + 3] := by
  unfold val val val val val four two
  rw [val_getD s _ (by omega), val_getD s _ (by omega), val_getD s _ (by omega), val_getD s _ (by omega)]
  simp only [Nat.add_zero]
  omega

theorem wraps_i64 (n : Int) (h₀ : 0 ≤ n) (h₁ : n < 2 ^ 62) : IntKind.i64.wrap n = n := by rw [IntKind.wrap_i64]; omega

theorem refNum_yes (s : ByteArray) (k n : Nat) (w : World) (hs : s.size ≤ maxLen) (hn : n ≤ 4) (h : k + n ≤ s.size) :
    Calls Try.prog 32 #[.string s, .int .i64 (k : Int), .int .i64 (n : Int)] w fun e w' => e = .returned (.tuple #[.int .i64 (val s k n), .int .i64 ((k : Int) + n), .int .i64 0]) ∧ w' = w := by
  unfold maxLen at hs
  have t1 : decide ((k : Int) < 0) = false := by simp
  have t2 : decide (s.size < k) = false := by simp; omega
  have t3 : decide ((s.size : Int) - k < n) = false := by simp; omega
  go_enter Try.func32, Try.ntmps32
  go_wp2
  go_loop [9, 10] (fun x i => ∃ j : Nat, j ≤ n ∧ x = .int .i64 (val s k j) ∧ i = .int .i64 (j : Int)) (fun _ i => n - (intOf i).toNat)
  case atStart => exact ⟨0, Nat.zero_le _, rfl, rfl⟩
  case round =>
    obtain ⟨j, hj, rfl, rfl⟩ := hrel
    by_cases hjn : j < n
    · have hkj : k + j < s.size := by omega
      have hi := idx s (k + j) ((k : Int) + j) (by omega) hkj
      have hv := val_lt s k j
      have hp : (256 : Int) ^ j ≤ 256 ^ 3 := by
        have : j = 0 ∨ j = 1 ∨ j = 2 ∨ j = 3 := by omega
        rcases this with rfl | rfl | rfl | rfl <;> decide
      have hb := s[k + j].toNat_lt
      have hor : bits .or .i64 (val s k j * 256) (s[k + j].toNat : Int) = val s k (j + 1) := by
        rw [bits_join .i64 62 (by decide) wraps_i64 8 _ _ (by omega) (by omega) (by omega) (by omega) (by omega) (by omega)]
        show _ = val s k j * 256 + ((s.data.toList.getD (k + j) 0).toNat : Int)
        rw [val_getD s _ hkj]
      have hv2 : 0 ≤ val s k j ∧ val s k j < 16777216 := by omega
      clear hv hp t1 t2 t3
      go_wp2
      go_round
      case rel => exact ⟨j + 1, by omega, rfl, by go_num⟩
      case measure => simp [intOf]; omega
    · have e : j = n := by omega
      subst e
      clear hjn
      go_wp2
      go_ret3
      exact ⟨rfl, rfl⟩

theorem refNum_no (s : ByteArray) (x : Int) (n : Nat) (w : World) (_hs : s.size ≤ maxLen) (hn : n ≤ 4) (h : x < 0 ∨ (s.size : Int) < x + n) :
    Calls Try.prog 32 #[.string s, .int .i64 x, .int .i64 (n : Int)] w fun e w' => e = .returned (.tuple #[.int .i64 0, .int .i64 0, .int .i64 300]) ∧ w' = w := by
  unfold maxLen at _hs
  by_cases t1 : x < 0
  · clear h
    go_enter Try.func32, Try.ntmps32
    go_wp2
    go_ret3
    exact ⟨rfl, rfl⟩
  · have t1' : decide (x < 0) = false := by simpa using t1
    by_cases t2 : (s.size : Int) < x
    · clear h
      go_enter Try.func32, Try.ntmps32
      go_wp2
      go_ret3
      exact ⟨rfl, rfl⟩
    · have t2' : decide ((s.size : Int) < x) = false := by simpa using t2
      have t3 : (s.size : Int) - x < n := by omega
      clear h
      go_enter Try.func32, Try.ntmps32
      go_wp2
      go_ret3
      exact ⟨rfl, rfl⟩

end Go.Proofs.Ytehldafdjldpbaa
