/- What awake gives: true. -/
import Derived.Test.YtkjcnhnpndcnmaaOctA
namespace Go.Proofs.Ytkjcnhnpndcnmaa
open Go.RowKit

theorem below_drew {w w' : World} (h : ∃ m, w' = w.drewN m) : Below w.heap.size w w' := by
  obtain ⟨m, rfl⟩ := h
  exact ⟨rfl, rfl, rfl, Nat.le_refl _, fun _ _ => rfl⟩
theorem next {w b c : World} (h : Below w.heap.size w b) (k : Below b.heap.size b c) : Below w.heap.size w c := h.trans (k.mono h.size)

theorem a1 (w : World) : Calls Try.prog 7 #[.string ⟨#[1, 2, 3]⟩, .int .i64 1] w fun e w' => e = .returned (.tuple #[.int .i64 515, .int .i64 3, .int .i64 0]) ∧ ∃ m, w' = w.drewN m :=
  u16_yes ⟨#[1, 2, 3]⟩ 1 w (by unfold maxLen; decide) (by decide)
theorem a2 (w : World) : Calls Try.prog 9 #[.string ⟨#[0, 0, 1, 2]⟩, .int .i64 0] w fun e w' => e = .returned (.tuple #[.int .i64 258, .int .i64 4, .int .i64 0]) ∧ ∃ m, w' = w.drewN m :=
  u32_yes ⟨#[0, 0, 1, 2]⟩ 0 w (by unfold maxLen; decide) (by decide)
theorem a3 (w : World) : Calls Try.prog 7 #[.string ⟨#[97]⟩, .int .i64 0] w fun e w' => e = .returned (.tuple #[.int .i64 0, .int .i64 0, .int .i64 300]) ∧ w' = w :=
  u16_no ⟨#[97]⟩ 0 w (by unfold maxLen; decide) (by decide)
theorem a4 (w : World) : Calls Try.prog 11 #[.int .i64 (-1)] w fun e w' => e = .returned (.string ⟨#[255, 255]⟩) ∧ Below w.heap.size w w' :=
  put16_any (-1) w
theorem a5 (w : World) : Calls Try.prog 13 #[.int .i64 258] w fun e w' => e = .returned (.string ⟨#[0, 0, 1, 2]⟩) ∧ Below w.heap.size w w' :=
  put32_any 258 w

theorem awake_any (w : World) : Calls Try.prog 14 #[] w fun e w' => e = .returned (.bool true) ∧ Below w.heap.size w w' := by
  go_enter Try.func14, Try.ntmps14
  go_wp2_with (first
    | (go_at_call_of 7 (#[Value.string ⟨#[1, 2, 3]⟩, Value.int IntKind.i64 1]); go_must (refine (a1 _).mono ?_); rintro e w1 ⟨rfl, b1⟩)
    | (go_at_call_of 7 (#[Value.string ⟨#[97]⟩, Value.int IntKind.i64 0]); go_must (refine (a3 _).mono ?_); rintro e w' ⟨rfl, hw⟩; obtain rfl := hw.symm)
    | (go_at_call 9; go_must (refine (a2 _).mono ?_); rintro e w2 ⟨rfl, b2⟩)
    | (go_at_call 10; refine (num_any _ _).mono ?_; rintro e w' ⟨rfl, hw⟩; obtain rfl := hw.symm)
    | (go_at_call 11; go_must (refine (a4 _).mono ?_); rintro e w4 ⟨rfl, b4⟩)
    | (go_at_call 13; go_must (refine (a5 _).mono ?_); rintro e w5 ⟨rfl, b5⟩))
  go_ret
  exact ⟨rfl, next (next (next (below_drew b1) (below_drew b2)) b4) b5⟩

end Go.Proofs.Ytkjcnhnpndcnmaa
