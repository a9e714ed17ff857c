/- What every program of drawn numbers answers: awake. -/
import Derived.Test.YtnpgbiehnnekgaaIdC
namespace Go.Proofs.Ytnpgbiehnnekgaa
open Go.RowKit
namespace Ix

/-- A row of so many noughts is made. -/
theorem made (n : Nat) (hn : n ≤ 100000) : ∃ Zc : Array Value, Zc.toList = iC (List.replicate n 0) ∧ ∀ u : World, (Instr.makeSlice 22 (.int .i64 (n : Int)) (.int .i64 (n : Int))).run Try.prog u = .ok (.slice (some ⟨u.heap.size, 0, none⟩) n n) (u.alloc (.cells Zc 3)) := by
  obtain ⟨i0, hi, hz0, hz1, hz2⟩ := info_parts info3'
  refine ⟨madeCells #[.int .i64 0] n, ?_, fun u => ?_⟩
  · rw [toList_madeCells_one]
    unfold iC
    induction n with
    | zero => rfl
    | succ n ih => rw [List.replicate_succ, List.replicate_succ, List.flatMap_cons, ← ih (by omega)]; rfl
  · have := run_make (P := Try.prog) u 22 3 i0 (.int .i64 0) Try.underlying22 hi hz0 .i64 .i64 (n : Int) (n : Int) (by omega) (by omega) (by rw [hz2]; omega) (by omega)
    rw [Int.toNat_natCast, hz1, Nat.mul_one] at this
    exact this
theorem awake_any (w : World) : Calls Try.prog 10 #[] w fun e w' => e = .returned (.bool true) ∧ Below w.heap.size w w' := by
  have hrow : Row (w.alloc (.cells #[.int .i64 65537, .int .i64 (-1)] 3)) (.slice (some ⟨w.heap.size, 0, none⟩) 2 2) 2 (iC [65537, -1]) := Row.of_blk (Blk.new w _ _) rfl 2 2
  have hb0 : Below w.heap.size w (w.alloc (.cells #[.int .i64 65537, .int .i64 (-1)] 3)) := lay (Below.refl _ _) _
  have hn := new_yes (.slice (some ⟨w.heap.size, 0, none⟩) 2 2) [65537, -1] _ hrow (by decide)
  obtain ⟨Zc, _, hmk⟩ := made 1025 (by decide)
  rw [show ((1025 : Nat) : Int) = 1025 from rfl] at hmk
  have t1 := True.intro
  have t2 := True.intro
  have t3 := True.intro
  clear hrow
  go_enter Try.func10, Try.ntmps10
  go_wp2_with (first
    | (go_at_call_of 6 (#[Value.slice (some ⟨w.heap.size, 0, none⟩) 2 2]); go_must (refine hn.mono ?_); rintro e w1 ⟨g, u, rfl, H0, b1⟩; have H1 := H0.base hb0.size; clear hn H0; replace hb0 := next hb0 b1)
    | (go_at_call 6; go_must (refine (new_no _ 1025 1025 _ (by unfold maxLen; decide) (by decide)).mono ?_); rintro e w2 ⟨rfl, hw⟩; obtain rfl := hw.symm; replace hb0 := lay hb0 (.cells Zc 3); replace H1 := H1.below (lay (Below.refl _ _) (.cells Zc 3)); clear hmk)
    | (go_at_call 14; go_must (refine (left_any H1).mono ?_); rintro e w4 ⟨rfl, b4⟩; rw [show (([65537, -1] : List Int).length - (0 + 1) : Nat) = 1 from rfl]; replace H1 := H1.below b4; replace hb0 := next hb0 b4)
    | (go_at_call 12; have _t := t1; go_must (refine (next_yes H1 (by decide) 65537 rfl).mono ?_); rintro e w3 ⟨rfl, h1, b3⟩; rw [show (65537 : Int) % 65536 = 1 from rfl]; replace hb0 := Turn.below (S := fun i => i = g) hb0 b3 hb0.size (fun i hi => by rw [hi]; exact H1.new); clear H1; have H1 := h1; clear h1 b3 t1)
    | (go_at_call 12; have _t := t2; go_must (refine (next_yes H1 (by decide) (-1) rfl).mono ?_); rintro e w3 ⟨rfl, h1, b3⟩; rw [show (-1 : Int) % 65536 = 65535 from rfl]; replace hb0 := Turn.below (S := fun i => i = g) hb0 b3 hb0.size (fun i hi => by rw [hi]; exact H1.new); clear H1; have H1 := h1; clear h1 b3 t2)
    | (go_at_call 12; have _t := t3; go_must (refine (next_no H1 rfl).mono ?_); rintro e w3 ⟨rfl, b3⟩; replace hb0 := next hb0 b3; clear H1 t3)
    | (go_at_call 9; go_must (refine (num_any _ _).mono ?_); rintro e w' ⟨rfl, hw⟩; obtain rfl := hw.symm))
  go_ret
  exact ⟨rfl, hb0⟩

end Ix
end Go.Proofs.Ytnpgbiehnnekgaa
