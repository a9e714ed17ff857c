/- StoreRanks holds: a less trusted set does not take the place of a live one; an equal or more trusted one does; behind its end any does. -/
import Derived.Test.YtcmhjlflgedcdaaXStW
import Derived.ProofKit
import Derived.OpenShut
import Derived.ShutString
namespace Go.Proofs.Ytcmhjlflgedcdaa.storeRanks
open Go.ChangeShapes Go.WideShapes Go.ChangeAt Go.RowKit
open Go.ChangeMaps (open_string shut_string)
open Pl

def dA : List ByteArray := [⟨#[97, 97, 97, 97]⟩]
def dB : List ByteArray := [⟨#[98, 98, 98, 98]⟩]
theorem sA : ∀ d ∈ dA, d.size ≤ 140737488351232 := fun d hd => by unfold dA at hd; simp at hd; subst hd; decide
theorem sB : ∀ d ∈ dB, d.size ≤ 140737488351232 := fun d hd => by unfold dB at hd; simp at hd; subst hd; decide
set_option maxRecDepth 20000 in
theorem no (n : ByteArray) (a b : Int) (late : Bool) (w : World) (hn : n.size ≤ maxLen) (h : isName n.data.toList = false) :
    Calls Try.prog 4 #[.string n, .int .i64 a, .int .i64 b, .bool late] w fun e w' => e = .returned (.bool true) ∧ Below w.heap.size w w' := by
  go_enter Try.func4, Try.ntmps4
  go_wp2_with (first
    | (go_at_call 12; go_must (refine (awake_any _).mono ?_); rintro e w1 ⟨rfl, b1⟩)
    | (go_at_call 24; go_must (refine (refMay_as _ false _ hn h).mono ?_); rintro e w2 ⟨rfl, b2⟩))
  go_ret
  exact ⟨rfl, next b1 b2⟩

-- One way.
set_option maxRecDepth 20000 in
set_option maxHeartbeats 1000000 in
theorem late (n : ByteArray) (a b UA UB A B : Int) (w : World) (h : isName n.data.toList = true) (hUA : IntKind.u64.wrap a = UA) (hA : UA.tmod 3 = A) (A0 : 0 ≤ A) (A2 : A ≤ 2) (hUB : IntKind.u64.wrap b = UB) (hB : UB.tmod 3 = B) (B0 : 0 ≤ B) (B2 : B ≤ 2) :
    Calls Try.prog 4 #[.string n, .int .i64 a, .int .i64 b, .bool true] w fun e w' => e = .returned (.bool true) ∧ Below w.heap.size w w' := by
  have hn := max_name h
  have hm1 : mayE ⟨n, 1, 5, dA, 1 + A, 100⟩ 50 = true := may_yes h (by simp) (by simp) (by simp [dA]) (by simp only; omega) (by simp only; omega) (by simp) (by decide) (by decide)
  have hm2 : mayE ⟨n, 1, 5, dB, 1 + B, 200⟩ 100 = true := may_yes h (by simp) (by simp) (by simp [dB]) (by simp only; omega) (by simp only; omega) (by simp) (by decide) (by decide)
  have hk1 : sameK (fdB n) 1 ⟨fdB n, 1, 5, dA, 1 + A, 100⟩ = true := sameK_iff.2 ⟨rfl, rfl⟩
  have HE1 : Hid (errP ⟨n, 1, 5, dA, 1 + A, 100⟩ 50 = 0) := err_yes hm1
  have HE2 : Hid (errP ⟨n, 1, 5, dB, 1 + B, 200⟩ 100 = 0) := err_yes hm2
  have HP1 : Hid (putP 4 [] ⟨n, 1, 5, dA, 1 + A, 100⟩ 50 = [⟨fdB n, 1, 5, dA, 1 + A, 100⟩]) := put_none hm1 (by decide)
  have HP2 : Hid (putP 4 [⟨fdB n, 1, 5, dA, 1 + A, 100⟩] ⟨n, 1, 5, dB, 1 + B, 200⟩ 100 = [⟨fdB n, 1, 5, dB, 1 + B, 200⟩]) := put_over hm2 hk1 (fun ⟨h, _⟩ => absurd h (by simp)) (by decide)
  have HG : Hid (getP [⟨fdB n, 1, 5, dB, 1 + B, 200⟩] n 1 100 = some ⟨fdB n, 1, 5, dB, 1 + B, 200⟩) := get_one (sameK_iff.2 ⟨rfl, rfl⟩) (by simp)
  have HT : Hid (wrap64 (200 - 100) = 100) := by unfold Hid wrap64; decide
  clear hm1 hm2 hk1
  have t1 : True := trivial
  have t2 : True := trivial
  go_enter Try.func4, Try.ntmps4
  go_wp2_with (first
    | (go_at_call 11; refine (num_any _ _).mono ?_; rintro e w' ⟨rfl, hw⟩; obtain rfl := hw.symm)
    | (go_at_call 12; go_must (refine (awake_any _).mono ?_); rintro e w1 ⟨rfl, b1⟩)
    | (go_at_call 24; go_must (refine (refMay_as _ true _ hn h).mono ?_); rintro e w2 ⟨rfl, b2⟩)
    | (go_at_call 9; go_must (refine (lw_new (next b1 b2) 4 (by decide) (by decide)).mono ?_); rintro e w3 ⟨gs, rfl, lw3⟩)
    | (go_at_call 25; have _t := t1; go_must (refine (set_any _ _ _ _).mono ?_); rintro e w4 ⟨g4, rfl, k4, hg4, b4⟩; have hp1 := lw_put (lw3.below b4) n 1 5 (1 + A) 100 50 (.slice (some ⟨g4, 0, none⟩) 1 1) dA hn (row_d k4) (by decide) sA 0 HE1.out _ HP1.out; clear t1 b4 k4 lw3)
    | (go_at_call 14; have _t := t2; go_must (refine hp1.mono ?_); rintro e w5 ⟨rfl, mb5, L5, lw5, T5, ft5⟩; clear hp1 T5 ft5 t2)
    | (go_at_call 25; go_must (refine (set_any _ _ _ _).mono ?_); rintro e w6 ⟨g6, rfl, k6, hg6, b6⟩; have hp2 := lw_put (lw5.below b6) n 1 5 (1 + B) 200 100 (.slice (some ⟨g6, 0, none⟩) 1 1) dB hn (row_d k6) (by decide) sB 0 HE2.out _ HP2.out; clear b6 k6 lw5)
    | (go_at_call 14; go_must (refine hp2.mono ?_); rintro e w7 ⟨rfl, mb7, L7, lw7, T7, ft7⟩; have hg := lw7.get_some n 1 100 hn (by decide) _ HG.out; simp only [HT.out] at hg; clear hp2 T7 ft7)
    | (go_at_call 18; go_must (refine hg.mono ?_); rintro e w8 ⟨g8, rfl, o8, hg8, b8⟩; have lw8 := lw7.below (lay b8 (.cells #[.string (fdB n), .int .i64 1, .int .i64 100, .slice (some ⟨g8, 0, none⟩) 1 1] 34)); have O8 := o8.alloc (.cells #[.string (fdB n), .int .i64 1, .int .i64 100, .slice (some ⟨g8, 0, none⟩) 1 1] 34); have k9 : Blk ((w8.alloc (.cells #[.string (fdB n), .int .i64 1, .int .i64 100, .slice (some ⟨g8, 0, none⟩) 1 1] 34)).alloc (.cells #[.string ⟨#[98, 98, 98, 98]⟩] 9)) (w8.heap.size + 1) #[.string ⟨#[98, 98, 98, 98]⟩] 9 := (by have := Blk.new (w8.alloc (.cells #[.string (fdB n), .int .i64 1, .int .i64 100, .slice (some ⟨g8, 0, none⟩) 1 1] 34)) #[.string ⟨#[98, 98, 98, 98]⟩] 9; simpa using this); clear hg o8 b8)
    | (go_at_call 26; go_must (refine (sameT_any (.slice (some ⟨g8, 0, none⟩) 1 1) (.slice (some ⟨w8.heap.size + 1, 0, none⟩) 1 1) dB dB _ (Row.of_own (O8.alloc _)) (row_d k9) (by decide) (by decide) true (by decide)).mono ?_); rintro e w9 ⟨rfl, b9⟩; have lw9 := lw8.below (next ((Below.refl _ _).alloc (Nat.le_refl _) (.cells #[.string ⟨#[98, 98, 98, 98]⟩] 9)) b9))
    | (go_at_call 22; go_must (refine (lw9.all 1 rfl).mono ?_); rintro e w10 ⟨y10, c10, M10, rfl, _, _, _, lw10, _⟩))
  all_goals go_ret
  all_goals exact ⟨rfl, lw10.bel⟩

-- One way.
set_option maxRecDepth 20000 in
set_option maxHeartbeats 1000000 in
theorem less (n : ByteArray) (a b UA UB A B : Int) (w : World) (h : isName n.data.toList = true) (hUA : IntKind.u64.wrap a = UA) (hA : UA.tmod 3 = A) (A0 : 0 ≤ A) (A2 : A ≤ 2) (hUB : IntKind.u64.wrap b = UB) (hB : UB.tmod 3 = B) (B0 : 0 ≤ B) (B2 : B ≤ 2) (hlt : 1 + B < 1 + A) :
    Calls Try.prog 4 #[.string n, .int .i64 a, .int .i64 b, .bool false] w fun e w' => e = .returned (.bool true) ∧ Below w.heap.size w w' := by
  have hn := max_name h
  have hm1 : mayE ⟨n, 1, 5, dA, 1 + A, 100⟩ 50 = true := may_yes h (by simp) (by simp) (by simp [dA]) (by simp only; omega) (by simp only; omega) (by simp) (by decide) (by decide)
  have hm2 : mayE ⟨n, 1, 5, dB, 1 + B, 200⟩ 60 = true := may_yes h (by simp) (by simp) (by simp [dB]) (by simp only; omega) (by simp only; omega) (by simp) (by decide) (by decide)
  have hk1 : sameK (fdB n) 1 ⟨fdB n, 1, 5, dA, 1 + A, 100⟩ = true := sameK_iff.2 ⟨rfl, rfl⟩
  have HE1 : Hid (errP ⟨n, 1, 5, dA, 1 + A, 100⟩ 50 = 0) := err_yes hm1
  have HE2 : Hid (errP ⟨n, 1, 5, dB, 1 + B, 200⟩ 60 = 0) := err_yes hm2
  have HP1 : Hid (putP 4 [] ⟨n, 1, 5, dA, 1 + A, 100⟩ 50 = [⟨fdB n, 1, 5, dA, 1 + A, 100⟩]) := put_none hm1 (by decide)
  have HP2 : Hid (putP 4 [⟨fdB n, 1, 5, dA, 1 + A, 100⟩] ⟨n, 1, 5, dB, 1 + B, 200⟩ 60 = [⟨fdB n, 1, 5, dA, 1 + A, 100⟩]) := put_stay hm2 hk1 (by simp) hlt
  have HG : Hid (getP [⟨fdB n, 1, 5, dA, 1 + A, 100⟩] n 1 60 = some ⟨fdB n, 1, 5, dA, 1 + A, 100⟩) := get_one (sameK_iff.2 ⟨rfl, rfl⟩) (by simp)
  have HT : Hid (wrap64 (100 - 60) = 40) := by unfold Hid wrap64; decide
  clear hm1 hm2 hk1
  have t1 : True := trivial
  have t2 : True := trivial
  go_enter Try.func4, Try.ntmps4
  go_wp2_with (first
    | (go_at_call 11; refine (num_any _ _).mono ?_; rintro e w' ⟨rfl, hw⟩; obtain rfl := hw.symm)
    | (go_at_call 12; go_must (refine (awake_any _).mono ?_); rintro e w1 ⟨rfl, b1⟩)
    | (go_at_call 24; go_must (refine (refMay_as _ true _ hn h).mono ?_); rintro e w2 ⟨rfl, b2⟩)
    | (go_at_call 9; go_must (refine (lw_new (next b1 b2) 4 (by decide) (by decide)).mono ?_); rintro e w3 ⟨gs, rfl, lw3⟩)
    | (go_at_call 25; have _t := t1; go_must (refine (set_any _ _ _ _).mono ?_); rintro e w4 ⟨g4, rfl, k4, hg4, b4⟩; have hp1 := lw_put (lw3.below b4) n 1 5 (1 + A) 100 50 (.slice (some ⟨g4, 0, none⟩) 1 1) dA hn (row_d k4) (by decide) sA 0 HE1.out _ HP1.out; clear t1 b4 k4 lw3)
    | (go_at_call 14; have _t := t2; go_must (refine hp1.mono ?_); rintro e w5 ⟨rfl, mb5, L5, lw5, T5, ft5⟩; clear hp1 T5 ft5 t2)
    | (go_at_call 25; go_must (refine (set_any _ _ _ _).mono ?_); rintro e w6 ⟨g6, rfl, k6, hg6, b6⟩; have hp2 := lw_put (lw5.below b6) n 1 5 (1 + B) 200 60 (.slice (some ⟨g6, 0, none⟩) 1 1) dB hn (row_d k6) (by decide) sB 0 HE2.out _ HP2.out; clear b6 k6 lw5)
    | (go_at_call 14; go_must (refine hp2.mono ?_); rintro e w7 ⟨rfl, mb7, L7, lw7, T7, ft7⟩; have hg := lw7.get_some n 1 60 hn (by decide) _ HG.out; simp only [HT.out] at hg; clear hp2 T7 ft7)
    | (go_at_call 18; go_must (refine hg.mono ?_); rintro e w8 ⟨g8, rfl, o8, hg8, b8⟩; have lw8 := lw7.below (lay b8 (.cells #[.string (fdB n), .int .i64 1, .int .i64 40, .slice (some ⟨g8, 0, none⟩) 1 1] 34)); have O8 := o8.alloc (.cells #[.string (fdB n), .int .i64 1, .int .i64 40, .slice (some ⟨g8, 0, none⟩) 1 1] 34); have k9 : Blk ((w8.alloc (.cells #[.string (fdB n), .int .i64 1, .int .i64 40, .slice (some ⟨g8, 0, none⟩) 1 1] 34)).alloc (.cells #[.string ⟨#[97, 97, 97, 97]⟩] 9)) (w8.heap.size + 1) #[.string ⟨#[97, 97, 97, 97]⟩] 9 := (by have := Blk.new (w8.alloc (.cells #[.string (fdB n), .int .i64 1, .int .i64 40, .slice (some ⟨g8, 0, none⟩) 1 1] 34)) #[.string ⟨#[97, 97, 97, 97]⟩] 9; simpa using this); clear hg o8 b8)
    | (go_at_call 26; go_must (refine (sameT_any (.slice (some ⟨g8, 0, none⟩) 1 1) (.slice (some ⟨w8.heap.size + 1, 0, none⟩) 1 1) dA dA _ (Row.of_own (O8.alloc _)) (row_d k9) (by decide) (by decide) true (by decide)).mono ?_); rintro e w9 ⟨rfl, b9⟩; have lw9 := lw8.below (next ((Below.refl _ _).alloc (Nat.le_refl _) (.cells #[.string ⟨#[97, 97, 97, 97]⟩] 9)) b9))
    | (go_at_call 22; go_must (refine (lw9.all 1 rfl).mono ?_); rintro e w10 ⟨y10, c10, M10, rfl, _, _, _, lw10, _⟩))
  all_goals go_ret
  all_goals exact ⟨rfl, lw10.bel⟩

-- One way.
set_option maxRecDepth 20000 in
set_option maxHeartbeats 1000000 in
theorem more (n : ByteArray) (a b UA UB A B : Int) (w : World) (h : isName n.data.toList = true) (hUA : IntKind.u64.wrap a = UA) (hA : UA.tmod 3 = A) (A0 : 0 ≤ A) (A2 : A ≤ 2) (hUB : IntKind.u64.wrap b = UB) (hB : UB.tmod 3 = B) (B0 : 0 ≤ B) (B2 : B ≤ 2) (hge : ¬ 1 + B < 1 + A) :
    Calls Try.prog 4 #[.string n, .int .i64 a, .int .i64 b, .bool false] w fun e w' => e = .returned (.bool true) ∧ Below w.heap.size w w' := by
  have hn := max_name h
  have hm1 : mayE ⟨n, 1, 5, dA, 1 + A, 100⟩ 50 = true := may_yes h (by simp) (by simp) (by simp [dA]) (by simp only; omega) (by simp only; omega) (by simp) (by decide) (by decide)
  have hm2 : mayE ⟨n, 1, 5, dB, 1 + B, 200⟩ 60 = true := may_yes h (by simp) (by simp) (by simp [dB]) (by simp only; omega) (by simp only; omega) (by simp) (by decide) (by decide)
  have hk1 : sameK (fdB n) 1 ⟨fdB n, 1, 5, dA, 1 + A, 100⟩ = true := sameK_iff.2 ⟨rfl, rfl⟩
  have HE1 : Hid (errP ⟨n, 1, 5, dA, 1 + A, 100⟩ 50 = 0) := err_yes hm1
  have HE2 : Hid (errP ⟨n, 1, 5, dB, 1 + B, 200⟩ 60 = 0) := err_yes hm2
  have HP1 : Hid (putP 4 [] ⟨n, 1, 5, dA, 1 + A, 100⟩ 50 = [⟨fdB n, 1, 5, dA, 1 + A, 100⟩]) := put_none hm1 (by decide)
  have HP2 : Hid (putP 4 [⟨fdB n, 1, 5, dA, 1 + A, 100⟩] ⟨n, 1, 5, dB, 1 + B, 200⟩ 60 = [⟨fdB n, 1, 5, dB, 1 + B, 200⟩]) := put_over hm2 hk1 (fun ⟨_, h⟩ => hge h) (by decide)
  have HG : Hid (getP [⟨fdB n, 1, 5, dB, 1 + B, 200⟩] n 1 60 = some ⟨fdB n, 1, 5, dB, 1 + B, 200⟩) := get_one (sameK_iff.2 ⟨rfl, rfl⟩) (by simp)
  have HT : Hid (wrap64 (200 - 60) = 140) := by unfold Hid wrap64; decide
  clear hm1 hm2 hk1
  have hge2 : decide (1 + B < 1 + A) = false := by simpa using hge
  have t1 : True := trivial
  have t2 : True := trivial
  go_enter Try.func4, Try.ntmps4
  go_wp2_with (first
    | (go_at_call 11; refine (num_any _ _).mono ?_; rintro e w' ⟨rfl, hw⟩; obtain rfl := hw.symm)
    | (go_at_call 12; go_must (refine (awake_any _).mono ?_); rintro e w1 ⟨rfl, b1⟩)
    | (go_at_call 24; go_must (refine (refMay_as _ true _ hn h).mono ?_); rintro e w2 ⟨rfl, b2⟩)
    | (go_at_call 9; go_must (refine (lw_new (next b1 b2) 4 (by decide) (by decide)).mono ?_); rintro e w3 ⟨gs, rfl, lw3⟩)
    | (go_at_call 25; have _t := t1; go_must (refine (set_any _ _ _ _).mono ?_); rintro e w4 ⟨g4, rfl, k4, hg4, b4⟩; have hp1 := lw_put (lw3.below b4) n 1 5 (1 + A) 100 50 (.slice (some ⟨g4, 0, none⟩) 1 1) dA hn (row_d k4) (by decide) sA 0 HE1.out _ HP1.out; clear t1 b4 k4 lw3)
    | (go_at_call 14; have _t := t2; go_must (refine hp1.mono ?_); rintro e w5 ⟨rfl, mb5, L5, lw5, T5, ft5⟩; clear hp1 T5 ft5 t2)
    | (go_at_call 25; go_must (refine (set_any _ _ _ _).mono ?_); rintro e w6 ⟨g6, rfl, k6, hg6, b6⟩; have hp2 := lw_put (lw5.below b6) n 1 5 (1 + B) 200 60 (.slice (some ⟨g6, 0, none⟩) 1 1) dB hn (row_d k6) (by decide) sB 0 HE2.out _ HP2.out; clear b6 k6 lw5)
    | (go_at_call 14; go_must (refine hp2.mono ?_); rintro e w7 ⟨rfl, mb7, L7, lw7, T7, ft7⟩; have hg := lw7.get_some n 1 60 hn (by decide) _ HG.out; simp only [HT.out] at hg; clear hp2 T7 ft7)
    | (go_at_call 18; go_must (refine hg.mono ?_); rintro e w8 ⟨g8, rfl, o8, hg8, b8⟩; have lw8 := lw7.below (lay b8 (.cells #[.string (fdB n), .int .i64 1, .int .i64 140, .slice (some ⟨g8, 0, none⟩) 1 1] 34)); have O8 := o8.alloc (.cells #[.string (fdB n), .int .i64 1, .int .i64 140, .slice (some ⟨g8, 0, none⟩) 1 1] 34); have k9 : Blk ((w8.alloc (.cells #[.string (fdB n), .int .i64 1, .int .i64 140, .slice (some ⟨g8, 0, none⟩) 1 1] 34)).alloc (.cells #[.string ⟨#[98, 98, 98, 98]⟩] 9)) (w8.heap.size + 1) #[.string ⟨#[98, 98, 98, 98]⟩] 9 := (by have := Blk.new (w8.alloc (.cells #[.string (fdB n), .int .i64 1, .int .i64 140, .slice (some ⟨g8, 0, none⟩) 1 1] 34)) #[.string ⟨#[98, 98, 98, 98]⟩] 9; simpa using this); clear hg o8 b8)
    | (go_at_call 26; go_must (refine (sameT_any (.slice (some ⟨g8, 0, none⟩) 1 1) (.slice (some ⟨w8.heap.size + 1, 0, none⟩) 1 1) dB dB _ (Row.of_own (O8.alloc _)) (row_d k9) (by decide) (by decide) true (by decide)).mono ?_); rintro e w9 ⟨rfl, b9⟩; have lw9 := lw8.below (next ((Below.refl _ _).alloc (Nat.le_refl _) (.cells #[.string ⟨#[98, 98, 98, 98]⟩] 9)) b9))
    | (go_at_call 22; go_must (refine (lw9.all 1 rfl).mono ?_); rintro e w10 ⟨y10, c10, M10, rfl, _, _, _, lw10, _⟩))
  all_goals go_ret
  all_goals exact ⟨rfl, lw10.bel⟩

theorem tm (a : Int) : 0 ≤ (IntKind.u64.wrap a).tmod 3 ∧ (IntKind.u64.wrap a).tmod 3 ≤ 2 := by
  have hU : 0 ≤ IntKind.u64.wrap a := by
    have : IntKind.u64.wrap a = a % 18446744073709551616 := by simp [IntKind.wrap, IntKind.bits, IntKind.signed]
    rw [this]; omega
  rw [Int.tmod_eq_emod_of_nonneg (b := 3) hU]
  omega
theorem walk (n : ByteArray) (a b : Int) (late : Bool) (hn : n.size ≤ maxLen) (_ : (Lit.int .i64 a).wf = true) (_ : (Lit.int .i64 b).wf = true) (w : World) :
    Calls Try.prog 4 #[.string n, .int .i64 a, .int .i64 b, .bool late] w fun e w' => e = .returned (.bool true) ∧ Below w.heap.size w w' := by
  cases h : isName n.data.toList with
  | false => exact no n a b late w hn h
  | true =>
    cases late with
    | true => exact Go.Proofs.Ytcmhjlflgedcdaa.storeRanks.late n a b _ _ _ _ w h rfl rfl (tm a).1 (tm a).2 rfl rfl (tm b).1 (tm b).2
    | false =>
      by_cases hl : 1 + (IntKind.u64.wrap b).tmod 3 < 1 + (IntKind.u64.wrap a).tmod 3
      · exact less n a b _ _ _ _ w h rfl rfl (tm a).1 (tm a).2 rfl rfl (tm b).1 (tm b).2 hl
      · exact more n a b _ _ _ _ w h rfl rfl (tm a).1 (tm a).2 rfl rfl (tm b).1 (tm b).2 hl

theorem own : ownKnob Try.prog.godebug = none := by kernel_rfl

set_option maxRecDepth 100000 in
theorem lifted (os : Os) (started : os.Started) (H : Type) (enc : TypeId × Value → H) :
    ReturnsInHanded {} Try.checked os 4 .any (Rows.storeRanksSpec.pre6 enc Try.prog Try.f4 Rows.storeRanksRow.domain false) (Rows.storeRanksSpec.post enc Try.prog Try.f4 false true false false) := by
  refine returnsInHanded_of_change (C := Try.checked) own started (by kernel_rfl) Try.func4
    (ChangeSpec.witness6 (enc := enc) (C := Try.checked) false ⟨#[], #[.string ByteArray.empty, .int .i64 0, .int .i64 0, .bool false], []⟩ 8 (by kernel_rfl) (by kernel_rfl) (by kernel_rfl) (by kernel_rfl)) ?_
  intro W base args ds gs before hval0 hW _ _
  have hval : ∀ (j : Nat) t v, Try.f4.params[j]? = some t → args[j]? = some v → Value.okWide Try.prog W .any base t v := hval0
  have hW' := hW
  obtain ⟨p, q, hA0, hV, rfl, hfz, hnd⟩ := hW
  have hA : DataW.TrodAll enc Try.prog W 0 (fun _ => true) true Try.f4.params.toList args.toList ds p := hA0
  rw [Try.params4] at hA hval
  obtain ⟨v0, vs0, d0, ds0, p0, q0, hargs, rfl, rfl, h0, r0⟩ := trodAll_cons hA
  obtain ⟨v1, vs1, d1, ds1, p1, q1, rfl, rfl, rfl, h1, r1⟩ := trodAll_cons r0
  obtain ⟨v2, vs2, d2, ds2, p2, q2, rfl, rfl, rfl, h2, r2⟩ := trodAll_cons r1
  obtain ⟨v3, vs3, d3, ds3, p3, q3, rfl, rfl, rfl, h3, r3⟩ := trodAll_cons r2
  obtain ⟨rfl, rfl, rfl⟩ := trodAll_nil r3
  obtain rfl : args = #[v0, v1, v2, v3] := by cases args; simp_all
  obtain ⟨rfl, rfl⟩ := trodVars_none hV
  obtain ⟨a0, rfl, rfl, rfl, w0⟩ := open_string Try.underlying9 (hval 0 9 v0 rfl rfl) h0
  obtain ⟨a1, rfl, rfl, rfl, w1⟩ := open_int Try.underlying3 (hval 1 3 v1 rfl rfl) h1
  obtain ⟨a2, rfl, rfl, rfl, w2⟩ := open_int Try.underlying3 (hval 2 3 v2 rfl rfl) h2
  obtain ⟨a3, rfl, rfl, rfl⟩ := open_bool Try.underlying4 (hval 3 4 v3 rfl rfl) h3
  clear hA0 hval0
  simp only [List.append_nil] at hW'
  refine (walk a0 a1 a2 a3 w0 w1 w2 W ).mono fun e W' ⟨he, bel⟩ => ?_
  subst he
  exact ⟨_, rfl, _, _, _, [], [], [], hW', trodAll_mk1 (shut_bool Try.underlying4 _), (trodAll_cons_mk (shut_string Try.underlying9 w0) (trodAll_cons_mk (shut_int Try.underlying3 w1) (trodAll_cons_mk (shut_int Try.underlying3 w2) (trodAll_cons_mk (shut_bool Try.underlying4 _) trodAll_mk0)))), rfl, bel.frame _, fun h => by cases h⟩

/-- The statement. -/
theorem proved : Rows.StoreRanksSaid :=
  OpenClaim.holds_of_wide 4 Try.f4 rfl rfl rfl rfl rfl rfl rfl ⟨rfl, rfl, rfl, rfl, rfl⟩ rfl rfl rfl rfl rfl (by kernel_rfl) Try.func4 (by kernel_rfl)
    (of_decide_eq_true (by kernel_rfl)) (by unfold Func.isWrapper; first | (rw [if_pos (by decide +kernel)]; kernel_rfl) | (rw [if_neg (by decide +kernel)]; exact ⟨rfl, rfl⟩))
    (fun os started H enc _ => lifted os started H enc)
#print axioms proved


end Go.Proofs.Ytcmhjlflgedcdaa.storeRanks
