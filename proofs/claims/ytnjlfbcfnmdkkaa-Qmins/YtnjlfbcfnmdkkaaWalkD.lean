/- What foldByte, the library's Compare and order give, for every argument. -/
import Derived.Test.YtnjlfbcfnmdkkaaWalkB
import Derived.Test.YtnjlfbcfnmdkkaaPlainH
namespace Go.Proofs.Ytnjlfbcfnmdkkaa
open Go.RowKit
open Pl

theorem foldByte_any (b : UInt8) (w : World) :
    Calls Try.prog 36 #[.int .u8 (b.toNat : Int)] w fun e w' => e = .returned (.int .u8 ((fb b).toNat : Int)) ∧ w' = w := by
  have hb := b.toNat_lt
  have hf := fb_nat b
  by_cases h1 : 65 ≤ b.toNat
  · by_cases h2 : b.toNat ≤ 90
    · rw [if_pos ⟨h1, h2⟩] at hf
      rw [hf]
      clear hf
      go_enter Try.func36, Try.ntmps36
      go_wp2
      go_ret
      exact ⟨ret_int (by omega), rfl⟩
    · rw [if_neg (by omega)] at hf
      rw [hf]
      clear hf
      go_enter Try.func36, Try.ntmps36
      go_wp2
      go_ret
      exact ⟨rfl, rfl⟩
  · rw [if_neg (by omega)] at hf
    rw [hf]
    clear hf
    go_enter Try.func36, Try.ntmps36
    go_wp2
    go_ret
    exact ⟨rfl, rfl⟩

theorem nanI_any (x : Int) (w : World) :
    Calls Try.prog 41 #[.int .i64 x] w fun e w' => e = .returned (.bool false) ∧ w' = w := by
  go_enter Try.func41, Try.ntmps41
  go_wp2
  go_ret
  exact ⟨ret_bool (by simp), rfl⟩
theorem nanB_any (x : Int) (w : World) :
    Calls Try.prog 40 #[.int .u8 x] w fun e w' => e = .returned (.bool false) ∧ w' = w := by
  go_enter Try.func40, Try.ntmps40
  go_wp2
  go_ret
  exact ⟨ret_bool (by simp), rfl⟩

theorem cmpI_any (x y : Int) (w : World) :
    Calls Try.prog 37 #[.int .i64 x, .int .i64 y] w fun e w' => e = .returned (.int .i64 (sgn x y)) ∧ w' = w := by
  go_enter Try.func37, Try.ntmps37
  go_wp2_with (go_at_call 41; refine (nanI_any _ _).mono ?_; rintro e w' ⟨rfl, hw⟩; obtain rfl := hw.symm)
  all_goals go_ret
  all_goals refine ⟨ret_int ?_, rfl⟩
  all_goals unfold sgn
  all_goals simp_all
  all_goals omega
theorem cmpB_any (x y : Int) (w : World) :
    Calls Try.prog 35 #[.int .u8 x, .int .u8 y] w fun e w' => e = .returned (.int .i64 (sgn x y)) ∧ w' = w := by
  go_enter Try.func35, Try.ntmps35
  go_wp2_with (go_at_call 40; refine (nanB_any _ _).mono ?_; rintro e w' ⟨rfl, hw⟩; obtain rfl := hw.symm)
  all_goals go_ret
  all_goals refine ⟨ret_int ?_, rfl⟩
  all_goals unfold sgn
  all_goals simp_all
  all_goals omega

end Go.Proofs.Ytnjlfbcfnmdkkaa
