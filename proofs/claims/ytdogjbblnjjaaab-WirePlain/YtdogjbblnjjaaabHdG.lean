/- What awake gives: true. -/
import Derived.Test.YtdogjbblnjjaaabHdF
namespace Go.Proofs.Ytdogjbblnjjaaab
open Go.RowKit

theorem eq4' (n : Nat) (a b c d a' b' c' d' : Int) (u : World) : (Op.equalIn (n + 2) 47 (.agg #[.int .i64 a, .int .i64 b, .int .i64 c, .int .i64 d]) (.agg #[.int .i64 a', .int .i64 b', .int .i64 c', .int .i64 d'])).run Try.prog u = .ok ((a == a') && (b == b') && (c == c') && (d == d')) u := by
  have hi : ∀ (x y : Int) (u : World), (Op.equalIn (n + 1) 3 (.int .i64 x) (.int .i64 y)).run Try.prog u = .ok (x == y) u := fun x y u => run_equalIn_int u n 3 .i64 .i64 x y Try.underlying3
  rw [Op.equalIn]
  simp only [Sem.run_bind, run_underlying Try.underlying47, Result.andThen_ok, Std.Legacy.Range.forIn_eq_forIn_range', Std.Legacy.Range.size, List.range', List.forIn_cons, List.forIn_nil]
  cases h1 : a == a' <;> cases h2 : b == b' <;> cases h3 : c == c' <;> cases h4 : d == d' <;> simp [go_sem, part, sizeOf, size3, hi, h1, h2, h3, h4]
/-- Whether two rows of four counts are the same. -/
theorem eq4 (a b c d a' b' c' d' : Int) (u : World) : (Op.equalIn 10000 47 (.agg #[.int .i64 a, .int .i64 b, .int .i64 c, .int .i64 d]) (.agg #[.int .i64 a', .int .i64 b', .int .i64 c', .int .i64 d'])).run Try.prog u = .ok ((a == a') && (b == b') && (c == c') && (d == d')) u := eq4' 9998 a b c d a' b' c' d' u

theorem max9 {n : Nat} (h : n ≤ 100) : n ≤ maxLen := by unfold maxLen; omega

/-- The bytes of the header that awake puts. -/
def awS : ByteArray := ⟨#[1, 2, 145, 83, 0, 1, 0, 2, 0, 3, 0, 4]⟩
theorem aw1 (w : World) : Calls Try.prog 16 #[.agg (headV 258 true 2 false false true false 5 3), .agg (cntV 1 2 3 4)] w fun e w' => e = .returned (.tuple #[.string awS, .int .i64 0]) ∧ Below w.heap.size w w' := by
  have h := put_yes 258 true 2 false false true false 5 3 1 2 3 4 w (by decide)
  rw [show putS 258 (wordH true 2 false false true false 5 3) 1 2 3 4 4 = awS from by apply ByteArray.ext; decide] at h
  exact h
theorem aw2 (w : World) : Calls Try.prog 11 #[.string awS] w fun e w' => e = .returned (.tuple #[.agg (headV 258 true 2 false false true false 5 3), .agg (cntV 1 2 3 4), .int .i64 0]) ∧ Below w.heap.size w w' := by
  have h := get_yes awS w (max9 (by decide)) (by decide)
  have v0 : val awS 0 2 = 258 := by decide
  have v1 : val awS 2 2 = 37203 := by decide
  have v2 : val awS 4 2 = 1 := by decide
  have v3 : val awS 6 2 = 2 := by decide
  have v4 : val awS 8 2 = 3 := by decide
  have v5 : val awS 10 2 = 4 := by decide
  have hc : cntC awS 4 = cntV (val awS 4 2) (val awS 6 2) (val awS 8 2) (val awS 10 2) := rfl
  rw [hc, v0, v1, v2, v3, v4, v5] at h
  exact h
theorem aw3 (w : World) : Calls Try.prog 16 #[.agg (headV 0 false 16 false false false false 0 0), .agg (cntV 0 0 0 0)] w fun e w' => e = .returned (.tuple #[.string ⟨#[]⟩, .int .i64 600]) ∧ Below w.heap.size w w' := put_no 0 false 16 false false false false 0 0 0 0 0 0 w (by decide)
theorem aw4 (w : World) : Calls Try.prog 11 #[.string ⟨#[97]⟩] w fun e w' => e = .returned (.tuple #[.agg (headV 0 false 0 false false false false 0 0), .agg (cntV 0 0 0 0), .int .i64 600]) ∧ Below w.heap.size w w' := get_no ⟨#[97]⟩ w (max9 (by decide)) (by decide)


end Go.Proofs.Ytdogjbblnjjaaab
