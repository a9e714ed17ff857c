/- NegForms' six ways: what is not held. -/
import Derived.Test.YtphhljbeaklikaaXP9
namespace Go.Proofs.Ytphhljbeaklikaa
open Go.RowKit
open Pl
namespace Ng

theorem no_put {most : Nat} {F : List En} {e : En} {now : Int} (h : mayN e now = false) : errN e now = 1400 ∧ putN most F e now = F := by
  unfold errN putN
  rw [h]
  exact ⟨rfl, rfl⟩
theorem may_not {e : En} {now : Int} (h : isName e.n.data.toList = false ∨ e.t < 0 ∨ 65535 < e.t ∨ e.u ≤ now ∨ now < 0 ∨ 1099511627776 < now) : mayN e now = false := by
  cases hm : mayN e now with
  | false => rfl
  | true =>
    obtain ⟨h1, h2, h3, h4, h5, h6⟩ := mayN_parts hm
    rcases h with h | h | h | h | h | h
    · rw [h1] at h; cases h
    · omega
    · omega
    · omega
    · omega
    · omega

set_option maxRecDepth 20000 in
set_option maxHeartbeats 4000000 in
theorem nf0 (which x U e : Int) (w : World) (hU : IntKind.u64.wrap which = U) (hm : U.tmod 6 = 0) (m63 : bits .and .i64 x 63 = e) (e0 : 0 ≤ e) (e1 : e < 64) :
    Calls Try.prog 5 #[.int .i64 which, .int .i64 x] w fun e w' => e = .returned (.bool true) ∧ Below w.heap.size w w' := by
  have HNO : Hid (∀ F, errN (nE ⟨#[]⟩ 3 50) 5 = 1400 ∧ putN 2 F (nE ⟨#[]⟩ 3 50) 5 = F) := fun F => no_put (may_not (.inl (by decide)))
  have t1 : True := trivial
  have t3 : True := trivial
  go_enter Try.func5, Try.ntmps5
  go_wp2_with (first
    | (go_at_call 10; refine (num_any _ _).mono ?_; rintro e w' ⟨rfl, hw⟩; obtain rfl := hw.symm)
    | (go_at_call 11; go_must (refine (awake_any _).mono ?_); rintro e w1 ⟨rfl, b1⟩)
    | (go_at_call 8; have _t := t1; go_must (refine (lw_new b1 2 (by decide) (by decide)).mono ?_); rintro e w2 ⟨gs, rfl, lw2, _, _⟩; have hp := lw_put (lw2.below (lay (Below.refl _ _) (.cells #[.string ⟨#[]⟩, .int .i64 3, .int .i64 50] 33))) ⟨#[]⟩ 3 50 5 (by decide) 1400 (HNO.out []).1 [] (HNO.out []).2; clear t1)
    | (go_at_call 12; go_must (refine hp.mono ?_); rintro e w4 ⟨rfl, mb4, lw4, _, _⟩; clear hp)
    | (go_at_call 8; have _t := t3; go_must (refine (new_no (-(1 + e)) _ (by omega)).mono ?_); rintro e w' ⟨rfl, hw⟩; obtain rfl := hw.symm; clear t3)
    | (go_at_call 8; go_must (refine (new_no (256 + (1 + e)) _ (by omega)).mono ?_); rintro e w' ⟨rfl, hw⟩; obtain rfl := hw.symm)
    | (go_at_call 17; go_must (refine (lw4.all 0 rfl).mono ?_); rintro e w7 ⟨y7, c7, rfl, _, lw7, _⟩))
  go_ret
  exact ⟨rfl, lw7.bel⟩

set_option maxRecDepth 20000 in
set_option maxHeartbeats 4000000 in
theorem nf1 (which x U e : Int) (w : World) (hU : IntKind.u64.wrap which = U) (hm : U.tmod 6 = 1) (m63 : bits .and .i64 x 63 = e) (e0 : 0 ≤ e) (e1 : e < 64) :
    Calls Try.prog 5 #[.int .i64 which, .int .i64 x] w fun e w' => e = .returned (.bool true) ∧ Below w.heap.size w w' := by
  have HNO : Hid (∀ F, errN (nE ⟨#[1, 97, 0]⟩ (-(1 + e)) 50) 5 = 1400 ∧ putN 2 F (nE ⟨#[1, 97, 0]⟩ (-(1 + e)) 50) 5 = F) := fun F => no_put (may_not (.inr (.inl (by show -(1 + e) < 0; omega))))
  have t1 : True := trivial
  have t3 : True := trivial
  go_enter Try.func5, Try.ntmps5
  go_wp2_with (first
    | (go_at_call 10; refine (num_any _ _).mono ?_; rintro e w' ⟨rfl, hw⟩; obtain rfl := hw.symm)
    | (go_at_call 11; go_must (refine (awake_any _).mono ?_); rintro e w1 ⟨rfl, b1⟩)
    | (go_at_call 8; have _t := t1; go_must (refine (lw_new b1 2 (by decide) (by decide)).mono ?_); rintro e w2 ⟨gs, rfl, lw2, _, _⟩; have hp := lw_put (lw2.below (lay (Below.refl _ _) (.cells #[.string ⟨#[1, 97, 0]⟩, .int .i64 (-(1 + e)), .int .i64 50] 33))) ⟨#[1, 97, 0]⟩ (-(1 + e)) 50 5 (by decide) 1400 (HNO.out []).1 [] (HNO.out []).2; clear t1)
    | (go_at_call 12; go_must (refine hp.mono ?_); rintro e w4 ⟨rfl, mb4, lw4, _, _⟩; clear hp)
    | (go_at_call 8; have _t := t3; go_must (refine (new_no (-(1 + e)) _ (by omega)).mono ?_); rintro e w' ⟨rfl, hw⟩; obtain rfl := hw.symm; clear t3)
    | (go_at_call 8; go_must (refine (new_no (256 + (1 + e)) _ (by omega)).mono ?_); rintro e w' ⟨rfl, hw⟩; obtain rfl := hw.symm)
    | (go_at_call 17; go_must (refine (lw4.all 0 rfl).mono ?_); rintro e w7 ⟨y7, c7, rfl, _, lw7, _⟩))
  go_ret
  exact ⟨rfl, lw7.bel⟩

set_option maxRecDepth 20000 in
set_option maxHeartbeats 4000000 in
theorem nf2 (which x U e : Int) (w : World) (hU : IntKind.u64.wrap which = U) (hm : U.tmod 6 = 2) (m63 : bits .and .i64 x 63 = e) (e0 : 0 ≤ e) (e1 : e < 64) :
    Calls Try.prog 5 #[.int .i64 which, .int .i64 x] w fun e w' => e = .returned (.bool true) ∧ Below w.heap.size w w' := by
  have HNO : Hid (∀ F, errN (nE ⟨#[1, 97, 0]⟩ (65535 + (1 + e)) 50) 5 = 1400 ∧ putN 2 F (nE ⟨#[1, 97, 0]⟩ (65535 + (1 + e)) 50) 5 = F) := fun F => no_put (may_not (.inr (.inr (.inl (by show 65535 < 65535 + (1 + e); omega)))))
  have t1 : True := trivial
  have t3 : True := trivial
  go_enter Try.func5, Try.ntmps5
  go_wp2_with (first
    | (go_at_call 10; refine (num_any _ _).mono ?_; rintro e w' ⟨rfl, hw⟩; obtain rfl := hw.symm)
    | (go_at_call 11; go_must (refine (awake_any _).mono ?_); rintro e w1 ⟨rfl, b1⟩)
    | (go_at_call 8; have _t := t1; go_must (refine (lw_new b1 2 (by decide) (by decide)).mono ?_); rintro e w2 ⟨gs, rfl, lw2, _, _⟩; have hp := lw_put (lw2.below (lay (Below.refl _ _) (.cells #[.string ⟨#[1, 97, 0]⟩, .int .i64 (65535 + (1 + e)), .int .i64 50] 33))) ⟨#[1, 97, 0]⟩ (65535 + (1 + e)) 50 5 (by decide) 1400 (HNO.out []).1 [] (HNO.out []).2; clear t1)
    | (go_at_call 12; go_must (refine hp.mono ?_); rintro e w4 ⟨rfl, mb4, lw4, _, _⟩; clear hp)
    | (go_at_call 8; have _t := t3; go_must (refine (new_no (-(1 + e)) _ (by omega)).mono ?_); rintro e w' ⟨rfl, hw⟩; obtain rfl := hw.symm; clear t3)
    | (go_at_call 8; go_must (refine (new_no (256 + (1 + e)) _ (by omega)).mono ?_); rintro e w' ⟨rfl, hw⟩; obtain rfl := hw.symm)
    | (go_at_call 17; go_must (refine (lw4.all 0 rfl).mono ?_); rintro e w7 ⟨y7, c7, rfl, _, lw7, _⟩))
  go_ret
  exact ⟨rfl, lw7.bel⟩

set_option maxRecDepth 20000 in
set_option maxHeartbeats 4000000 in
theorem nf3 (which x U e : Int) (w : World) (hU : IntKind.u64.wrap which = U) (hm : U.tmod 6 = 3) (m63 : bits .and .i64 x 63 = e) (e0 : 0 ≤ e) (e1 : e < 64) :
    Calls Try.prog 5 #[.int .i64 which, .int .i64 x] w fun e w' => e = .returned (.bool true) ∧ Below w.heap.size w w' := by
  have HNO : Hid (∀ F, errN (nE ⟨#[1, 97, 0]⟩ 3 (6 - (1 + e))) 5 = 1400 ∧ putN 2 F (nE ⟨#[1, 97, 0]⟩ 3 (6 - (1 + e))) 5 = F) := fun F => no_put (may_not (.inr (.inr (.inr (.inl (by show 6 - (1 + e) ≤ 5; omega))))))
  have t1 : True := trivial
  have t3 : True := trivial
  go_enter Try.func5, Try.ntmps5
  go_wp2_with (first
    | (go_at_call 10; refine (num_any _ _).mono ?_; rintro e w' ⟨rfl, hw⟩; obtain rfl := hw.symm)
    | (go_at_call 11; go_must (refine (awake_any _).mono ?_); rintro e w1 ⟨rfl, b1⟩)
    | (go_at_call 8; have _t := t1; go_must (refine (lw_new b1 2 (by decide) (by decide)).mono ?_); rintro e w2 ⟨gs, rfl, lw2, _, _⟩; have hp := lw_put (lw2.below (lay (Below.refl _ _) (.cells #[.string ⟨#[1, 97, 0]⟩, .int .i64 3, .int .i64 (6 - (1 + e))] 33))) ⟨#[1, 97, 0]⟩ 3 (6 - (1 + e)) 5 (by decide) 1400 (HNO.out []).1 [] (HNO.out []).2; clear t1)
    | (go_at_call 12; go_must (refine hp.mono ?_); rintro e w4 ⟨rfl, mb4, lw4, _, _⟩; clear hp)
    | (go_at_call 8; have _t := t3; go_must (refine (new_no (-(1 + e)) _ (by omega)).mono ?_); rintro e w' ⟨rfl, hw⟩; obtain rfl := hw.symm; clear t3)
    | (go_at_call 8; go_must (refine (new_no (256 + (1 + e)) _ (by omega)).mono ?_); rintro e w' ⟨rfl, hw⟩; obtain rfl := hw.symm)
    | (go_at_call 17; go_must (refine (lw4.all 0 rfl).mono ?_); rintro e w7 ⟨y7, c7, rfl, _, lw7, _⟩))
  go_ret
  exact ⟨rfl, lw7.bel⟩

set_option maxRecDepth 20000 in
set_option maxHeartbeats 4000000 in
theorem nf4 (which x U e : Int) (w : World) (hU : IntKind.u64.wrap which = U) (hm : U.tmod 6 = 4) (m63 : bits .and .i64 x 63 = e) (e0 : 0 ≤ e) (e1 : e < 64) :
    Calls Try.prog 5 #[.int .i64 which, .int .i64 x] w fun e w' => e = .returned (.bool true) ∧ Below w.heap.size w w' := by
  have HNO : Hid (∀ F, errN (nE ⟨#[1, 97, 0]⟩ 3 50) (-(1 + e)) = 1400 ∧ putN 2 F (nE ⟨#[1, 97, 0]⟩ 3 50) (-(1 + e)) = F) := fun F => no_put (may_not (.inr (.inr (.inr (.inr (.inl (by omega)))))))
  have t1 : True := trivial
  have t3 : True := trivial
  go_enter Try.func5, Try.ntmps5
  go_wp2_with (first
    | (go_at_call 10; refine (num_any _ _).mono ?_; rintro e w' ⟨rfl, hw⟩; obtain rfl := hw.symm)
    | (go_at_call 11; go_must (refine (awake_any _).mono ?_); rintro e w1 ⟨rfl, b1⟩)
    | (go_at_call 8; have _t := t1; go_must (refine (lw_new b1 2 (by decide) (by decide)).mono ?_); rintro e w2 ⟨gs, rfl, lw2, _, _⟩; have hp := lw_put (lw2.below (lay (Below.refl _ _) (.cells #[.string ⟨#[1, 97, 0]⟩, .int .i64 3, .int .i64 50] 33))) ⟨#[1, 97, 0]⟩ 3 50 (-(1 + e)) (by decide) 1400 (HNO.out []).1 [] (HNO.out []).2; clear t1)
    | (go_at_call 12; go_must (refine hp.mono ?_); rintro e w4 ⟨rfl, mb4, lw4, _, _⟩; clear hp)
    | (go_at_call 8; have _t := t3; go_must (refine (new_no (-(1 + e)) _ (by omega)).mono ?_); rintro e w' ⟨rfl, hw⟩; obtain rfl := hw.symm; clear t3)
    | (go_at_call 8; go_must (refine (new_no (256 + (1 + e)) _ (by omega)).mono ?_); rintro e w' ⟨rfl, hw⟩; obtain rfl := hw.symm)
    | (go_at_call 17; go_must (refine (lw4.all 0 rfl).mono ?_); rintro e w7 ⟨y7, c7, rfl, _, lw7, _⟩))
  go_ret
  exact ⟨rfl, lw7.bel⟩

set_option maxRecDepth 20000 in
set_option maxHeartbeats 4000000 in
theorem nf5 (which x U e : Int) (w : World) (hU : IntKind.u64.wrap which = U) (hm : U.tmod 6 = 5) (m63 : bits .and .i64 x 63 = e) (e0 : 0 ≤ e) (e1 : e < 64) :
    Calls Try.prog 5 #[.int .i64 which, .int .i64 x] w fun e w' => e = .returned (.bool true) ∧ Below w.heap.size w w' := by
  have HNO : Hid (∀ F, errN (nE ⟨#[1, 97, 0]⟩ 3 (1099511627776 + (1 + e) + 9)) (1099511627776 + (1 + e)) = 1400 ∧ putN 2 F (nE ⟨#[1, 97, 0]⟩ 3 (1099511627776 + (1 + e) + 9)) (1099511627776 + (1 + e)) = F) := fun F => no_put (may_not (.inr (.inr (.inr (.inr (.inr (by omega)))))))
  have t1 : True := trivial
  have t3 : True := trivial
  go_enter Try.func5, Try.ntmps5
  go_wp2_with (first
    | (go_at_call 10; refine (num_any _ _).mono ?_; rintro e w' ⟨rfl, hw⟩; obtain rfl := hw.symm)
    | (go_at_call 11; go_must (refine (awake_any _).mono ?_); rintro e w1 ⟨rfl, b1⟩)
    | (go_at_call 8; have _t := t1; go_must (refine (lw_new b1 2 (by decide) (by decide)).mono ?_); rintro e w2 ⟨gs, rfl, lw2, _, _⟩; have hp := lw_put (lw2.below (lay (Below.refl _ _) (.cells #[.string ⟨#[1, 97, 0]⟩, .int .i64 3, .int .i64 (1099511627776 + (1 + e) + 9)] 33))) ⟨#[1, 97, 0]⟩ 3 (1099511627776 + (1 + e) + 9) (1099511627776 + (1 + e)) (by decide) 1400 (HNO.out []).1 [] (HNO.out []).2; clear t1)
    | (go_at_call 12; go_must (refine hp.mono ?_); rintro e w4 ⟨rfl, mb4, lw4, _, _⟩; clear hp)
    | (go_at_call 8; have _t := t3; go_must (refine (new_no (-(1 + e)) _ (by omega)).mono ?_); rintro e w' ⟨rfl, hw⟩; obtain rfl := hw.symm; clear t3)
    | (go_at_call 8; go_must (refine (new_no (256 + (1 + e)) _ (by omega)).mono ?_); rintro e w' ⟨rfl, hw⟩; obtain rfl := hw.symm)
    | (go_at_call 17; go_must (refine (lw4.all 0 rfl).mono ?_); rintro e w7 ⟨y7, c7, rfl, _, lw7, _⟩))
  go_ret
  exact ⟨rfl, lw7.bel⟩

end Ng
end Go.Proofs.Ytphhljbeaklikaa
