/- What May of package rdata gives, for every argument. -/
import Derived.Test.YtdaegnmokaibpaaRdA
namespace Go.Proofs.Ytdaegnmokaibpaa
open Go.RowKit
open Pl

theorem soaNames_as (s : ByteArray) (o : Option (Nat × Nat)) (w : World) (hs : s.size ≤ maxLen) (h : soaL s.data.toList = o) :
    Calls Try.prog 49 #[.string s] w fun e w' => e = .returned (soaT s o) ∧ ∃ m, w' = w.drewN m := by rw [← h]; exact soaNames_any s w hs

/-- The tests of a type that the document does not name. -/
theorem other_tests {t : Int} (h : Other t) : (t == 1) = false ∧ (t == 28) = false ∧ (t == 2) = false ∧ (t == 5) = false ∧ (t == 12) = false ∧ (t == 15) = false ∧ (t == 6) = false ∧ (t == 16) = false := by
  obtain ⟨h1, h2, h3, h4, h5, h6, h7, h8⟩ := h
  refine ⟨?_, ?_, ?_, ?_, ?_, ?_, ?_, ?_⟩ <;> (rw [beq_eq_false_iff_ne]; assumption)

set_option maxRecDepth 20000 in
theorem may4_any (t : Int) (s : ByteArray) (w : World) (hs : s.size ≤ maxLen) :
    Calls Try.prog 41 #[.int .i64 t, .string s] w fun e w' => e = .returned (.bool (mayD t s.data.toList)) ∧ ∃ m, w' = w.drewN m := by
  have HM : Hid (s.size ≤ maxLen) := hs
  unfold maxLen at hs
  have hl := data_len s
  rcases kinds t with rfl | rfl | h | rfl | rfl | rfl | h
  · have HR : Hid (mayD 1 s.data.toList = ((s.size : Int) == 4)) := by unfold Hid; rw [may_1, Bool.eq_iff_iff]; simp; omega
    go_enter Try.func41, Try.ntmps41
    go_wp2
    go_ret
    exact ⟨ret_bool HR.out.symm, 0, rfl⟩
  · have HR : Hid (mayD 28 s.data.toList = ((s.size : Int) == 16)) := by unfold Hid; rw [may_28, Bool.eq_iff_iff]; simp; omega
    go_enter Try.func41, Try.ntmps41
    go_wp2
    go_ret
    exact ⟨ret_bool HR.out.symm, 0, rfl⟩
  · have HR := may_n h s.data.toList
    rw [HR]
    rcases h with rfl | rfl | rfl
    all_goals
      go_enter Try.func41, Try.ntmps41
      go_wp2_with (go_at_call 40; go_must (refine (may_any _ _ HM.out).mono ?_); rintro e w' ⟨rfl, hw⟩; obtain rfl := hw.symm)
      go_ret
      exact ⟨rfl, 0, rfl⟩
  · by_cases h2 : 2 < s.size
    · have hcut := cut_rest s 2 2 rfl (by omega)
      obtain ⟨r, hr⟩ : ∃ r, isName (s.extract 2 s.size).data.toList = r := ⟨_, rfl⟩
      have HR : Hid (mayD 15 s.data.toList = r) := by unfold Hid; rw [← hr, may_15, ext_from]; simp; omega
      have h2' : (2 : Int) < (s.size : Int) := by omega
      go_enter Try.func41, Try.ntmps41
      go_wp2_with (go_at_call 40; go_must (refine (may_as _ r _ (by unfold maxLen; simp; omega) hr).mono ?_); rintro e w' ⟨rfl, hw⟩; obtain rfl := hw.symm)
      go_ret
      exact ⟨ret_bool HR.out.symm, 0, rfl⟩
    · have HR : Hid (mayD 15 s.data.toList = false) := by unfold Hid; rw [may_15]; simp; omega
      have h2' : decide ((2 : Int) < (s.size : Int)) = false := by simp; omega
      go_enter Try.func41, Try.ntmps41
      go_wp2
      go_ret
      exact ⟨ret_bool HR.out.symm, 0, rfl⟩
  · rw [may_6]
    cases ho : soaL s.data.toList with
    | none =>
      go_enter Try.func41, Try.ntmps41
      go_wp2_with (go_at_call 49; go_must (refine (soaNames_as s none _ HM.out ho).mono ?_); rintro e w1 ⟨rfl, b1⟩; unfold soaT)
      go_ret
      exact ⟨rfl, b1⟩
    | some ab =>
      obtain ⟨a, b⟩ := ab
      go_enter Try.func41, Try.ntmps41
      go_wp2_with (go_at_call 49; go_must (refine (soaNames_as s (some (a, b)) _ HM.out ho).mono ?_); rintro e w1 ⟨rfl, b1⟩; unfold soaT)
      go_ret
      exact ⟨rfl, b1⟩
  · by_cases h2 : s.size ≤ 65535
    · have HR : Hid (mayD 16 s.data.toList = texts s.data.toList) := by unfold Hid; rw [may_16]; simp; omega
      have h2' : (s.size : Int) ≤ 65535 := by omega
      go_enter Try.func41, Try.ntmps41
      go_wp2_with (go_at_call 50; go_must (refine (mayTexts_any _ _ h2).mono ?_); rintro e w' ⟨rfl, hw⟩; obtain rfl := hw.symm)
      go_ret
      exact ⟨ret_bool HR.out.symm, 0, rfl⟩
    · have HR : Hid (mayD 16 s.data.toList = false) := may_long 16 (by omega)
      have h2' : decide ((s.size : Int) ≤ 65535) = false := by simp; omega
      go_enter Try.func41, Try.ntmps41
      go_wp2
      go_ret
      exact ⟨ret_bool HR.out.symm, 0, rfl⟩
  · have HO : Hid (mayD t s.data.toList = (decide (1 ≤ t) && decide (t ≤ 65535) && decide (s.data.toList.length ≤ 65535))) := may_o h _
    obtain ⟨h1, h2, h3, h4, h5, h6, h7, h8⟩ := other_tests h
    clear h
    by_cases p1 : 1 ≤ t
    · by_cases p2 : t ≤ 65535
      · have HR : Hid (mayD t s.data.toList = decide ((s.size : Int) ≤ 65535)) := by unfold Hid; rw [HO.out, Bool.eq_iff_iff]; simp; omega
        go_enter Try.func41, Try.ntmps41
        go_wp2
        go_ret
        exact ⟨ret_bool HR.out.symm, 0, rfl⟩
      · have HR : Hid (mayD t s.data.toList = false) := may_none (.inr (by omega)) _
        have p2' : decide (t ≤ 65535) = false := by simpa using p2
        go_enter Try.func41, Try.ntmps41
        go_wp2
        go_ret
        exact ⟨ret_bool HR.out.symm, 0, rfl⟩
    · have HR : Hid (mayD t s.data.toList = false) := may_none (.inl (by omega)) _
      have p1' : decide (1 ≤ t) = false := by simpa using p1
      go_enter Try.func41, Try.ntmps41
      go_wp2
      go_ret
      exact ⟨ret_bool HR.out.symm, 0, rfl⟩

end Go.Proofs.Ytdaegnmokaibpaa
