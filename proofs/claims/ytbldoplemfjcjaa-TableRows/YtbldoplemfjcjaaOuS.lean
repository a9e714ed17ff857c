/- TableForms' seven ways: what is not waited for. -/
import Derived.Test.YtbldoplemfjcjaaOuR
import Derived.Test.YtbldoplemfjcjaaOctC
namespace Go.Proofs.Ytbldoplemfjcjaa
open Go.RowKit
open Pl
namespace Ou

theorem wrong_if {x : Ak} (h : x.i < 0 ∨ 65535 < x.i ∨ x.a < 0 ∨ 4294967295 < x.a ∨ isName x.n.data.toList = false ∨ x.t < 1 ∨ 65535 < x.t) : wrongA x = true := by
  cases hw : wrongA x with
  | true => rfl
  | false =>
    have := wrong_iff.1 hw
    have h1 := this.i0; have h2 := this.i1; have h3 := this.a0; have h4 := this.a1; have h5 := this.nm; have h6 := this.t0; have h7 := this.t1
    rcases h with h | h | h | h | h | h | h
    · omega
    · omega
    · omega
    · omega
    · rw [h5] at h; cases h
    · omega
    · omega
/-- The first q that are asked. -/
def fmD (q : Nat) : List Ak := (List.range q).map fun p : Nat => awA (p : Int) (p : Int) 7 9
theorem fmD_len (q : Nat) : (fmD q).length = q := by simp [fmD]
theorem fmD_next (q : Nat) : fmD (q + 1) = fmD q ++ [awA (q : Int) (q : Int) 7 9] := by simp [fmD, List.range_succ]
theorem aw_ok {j i u : Int} (h1 : 0 ≤ i) (h2 : i ≤ 65535) : wrongA (awA j i 7 u) = false := wrong_iff.2 ⟨h1, h2, (by show (0 : Int) ≤ 7; decide), (by show (7 : Int) ≤ 4294967295; decide), rfl, (by show (1 : Int) ≤ 1; decide), (by show (1 : Int) ≤ 65535; decide)⟩
theorem add_ok {most : Nat} {D : List Ak} {j i u : Int} (h1 : 0 ≤ i) (h2 : i ≤ 65535) (h3 : D.length < most) : addE most D (awA j i 7 u) = 0 ∧ addD most D (awA j i 7 u) = D ++ [awA j i 7 u] := by
  have hw : wrongA (awA j i 7 u) = false := aw_ok h1 h2
  have hn : ¬ D.length = most := by omega
  simp [addE, addD, hw, hn]
theorem add_bad {most : Nat} {D : List Ak} {x : Ak} (h : wrongA x = true) : addE most D x = 1900 ∧ addD most D x = D := by
  unfold addE addD
  rw [if_pos h, if_pos h]
  exact ⟨rfl, rfl⟩
theorem add_more {most : Nat} {D : List Ak} {x : Ak} (h : wrongA x = false) (hf : D.length = most) : addE most D x = 1901 ∧ addD most D x = D := by
  simp [addE, addD, h, hf]

set_option maxRecDepth 20000 in
set_option maxHeartbeats 4000000 in
theorem tf0 (which x U e : Int) (N : Nat) (w : World) (hU : IntKind.u64.wrap which = U) (hm : U.tmod 7 = 0) (m63 : bits .and .i64 x 63 = e) (e0 : 0 ≤ e) (e1 : e < 64) (m7 : bits .and .i64 x 7 = (N : Int)) (hN : N ≤ 7) :
    Calls Try.prog 5 #[.int .i64 which, .int .i64 x] w fun e w' => e = .returned (.bool true) ∧ Below w.heap.size w w' := by
  have HNO : Hid (∀ D, addE (N + 1) D ⟨1, (-(1 + e)), 7, ⟨#[0]⟩, ⟨#[1, 97, 0]⟩, ⟨#[1, 97, 0]⟩, 1, 9⟩ = 1900 ∧ addD (N + 1) D ⟨1, (-(1 + e)), 7, ⟨#[0]⟩, ⟨#[1, 97, 0]⟩, ⟨#[1, 97, 0]⟩, 1, 9⟩ = D) := fun D => add_bad (wrong_if (.inl (by show -(1 + e) < 0; omega)))
  have HFAR : Hid (Far ⟨1, (-(1 + e)), 7, ⟨#[0]⟩, ⟨#[1, 97, 0]⟩, ⟨#[1, 97, 0]⟩, 1, 9⟩) := ⟨by show (1 : Nat) ≤ _; omega, by show (3 : Nat) ≤ _; omega, by show (3 : Nat) ≤ _; omega⟩
  have t1 : True := trivial
  have t2 : True := trivial
  have t3 : True := trivial
  have t4 : True := trivial
  go_enter Try.func5, Try.ntmps5
  go_wp2_with (first
    | (go_at_call 11; go_must (refine (awake_any _).mono ?_); rintro e w1 ⟨rfl, b1⟩)
    | (go_at_call 8; have _t := t1; go_must (refine ((by have := lw_new b1 (N + 1) (by omega) (by omega); rw [show ((N + 1 : Nat) : Int) = 1 + (N : Int) from by omega] at this; exact this) : Calls Try.prog 8 #[.int .i64 (1 + (N : Int))] w1 fun e w' => ∃ gs, e = .returned (.tuple #[.pointer (some ⟨gs, 0, none⟩), .int .i64 0]) ∧ LW w w' gs (N + 1) 0 [] ∧ Below w1.heap.size w1 w').mono ?_); rintro e w2 ⟨gs, rfl, s2, _⟩; clear t1)
    | (go_at_call 22; have _t := t2; go_must (refine (asked_any 1 5 7 9 _).mono ?_); rintro e w3 ⟨rfl, b3⟩; have s3 := (s2.below b3).below (lay (Below.refl _ _) (.cells #[.int .i64 1, .int .i64 (-(1 + e)), .int .i64 7, .string ⟨#[0]⟩, .string ⟨#[1, 97, 0]⟩, .string ⟨#[1, 97, 0]⟩, .int .i64 1, .int .i64 9] 35)); have k3 := Blk.new w3 #[.int .i64 1, .int .i64 (-(1 + e)), .int .i64 7, .string ⟨#[0]⟩, .string ⟨#[1, 97, 0]⟩, .string ⟨#[1, 97, 0]⟩, .int .i64 1, .int .i64 9] 35; have ha1 := s3.add (by decide) 1 (-(1 + e)) 7 ⟨#[0]⟩ ⟨#[1, 97, 0]⟩ ⟨#[1, 97, 0]⟩ 1 9 HFAR.out 1900 _ (HNO.out []).1 (HNO.out []).2; clear t2 s2 b3)
    | (go_at_call 12; have _t := t3; go_must (refine ha1.mono ?_); rintro e w4 ⟨rfl, s4, p4⟩; have k4 := p4.blk _ _ _ (by decide) (by decide) k3; clear t3 ha1 k3 s3 p4))
  have HS0 : Hid (LW w w4 gs (N + 1) (0 + 1 + 0) (fmD 0) ∧ Blk w4 w3.heap.size #[.int .i64 1, .int .i64 (-(1 + e)), .int .i64 7, .string ⟨#[0]⟩, .string ⟨#[1, 97, 0]⟩, .string ⟨#[1, 97, 0]⟩, .int .i64 1, .int .i64 9] 35) := ⟨s4, k4⟩
  clear s4 k4
  go_loopw [10] (fun i wr => ∃ q : Nat, q ≤ N + 1 ∧ i = .int .i64 (q : Int) ∧ Hid (LW w wr gs (N + 1) (0 + 1 + q) (fmD q) ∧ Blk wr w3.heap.size #[.int .i64 1, .int .i64 (-(1 + e)), .int .i64 7, .string ⟨#[0]⟩, .string ⟨#[1, 97, 0]⟩, .string ⟨#[1, 97, 0]⟩, .int .i64 1, .int .i64 9] 35)) (fun i _ => N + 1 - (intOf i).toNat)
  case atStart => exact ⟨0, Nat.zero_le _, rfl, HS0⟩
  case round =>
    obtain ⟨q, hq, rfl, HS⟩ := hrel
    clear HS0
    by_cases hqN : q ≤ N
    · have hqN' : (q : Int) ≤ (N : Int) := by omega
      have HA : Hid (addE (N + 1) (fmD q) (awA (q : Int) (q : Int) 7 9) = 0 ∧ addD (N + 1) (fmD q) (awA (q : Int) (q : Int) 7 9) = fmD (q + 1)) := by
        have := add_ok (most := N + 1) (D := fmD q) (j := (q : Int)) (i := (q : Int)) (u := 9) (by omega) (by omega) (by rw [fmD_len]; omega)
        rw [← fmD_next] at this
        exact this
      go_wp2_with (first
        | (go_at_call 10; refine (num_any _ _).mono ?_; rintro e w' ⟨rfl, hw⟩; obtain rfl := hw.symm)
        | (go_at_call 22; go_must (refine (asked_any (q : Int) (q : Int) 7 9 _).mono ?_); rintro e w5 ⟨rfl, b5⟩; have s5 := HS.out.1.below b5; have k5 := HS.out.2.below b5; have ha2 := s5.add (by omega) (q : Int) (q : Int) 7 ⟨#[0]⟩ ⟨#[1, 97, 0]⟩ ⟨#[1, 97, 0]⟩ 1 9 (awA_far _ _ _ _) 0 _ HA.out.1 HA.out.2)
        | (go_at_call 12; go_must (refine ha2.mono ?_); rintro e w6 ⟨rfl, s6, p6⟩; have k6 := p6.blk _ _ _ (by decide) (by decide) k5))
      have HS6 : Hid (LW w w6 gs (N + 1) (0 + 1 + (q + 1)) (fmD (q + 1)) ∧ Blk w6 w3.heap.size #[.int .i64 1, .int .i64 (-(1 + e)), .int .i64 7, .string ⟨#[0]⟩, .string ⟨#[1, 97, 0]⟩, .string ⟨#[1, 97, 0]⟩, .int .i64 1, .int .i64 9] 35) := ⟨s6, k6⟩
      clear s6 k6 p6 s5 k5 b5 ha2 HS
      go_roundw
      case rel => exact ⟨q + 1, by omega, by go_num, HS6⟩
      case measure => simp [intOf]; omega
    · have hqN' : decide ((q : Int) ≤ (N : Int)) = false := by simp; omega
      have HE : Hid (LW w wr gs (N + 1) (0 + 1 + (N + 1)) (fmD (N + 1)) ∧ Blk wr w3.heap.size #[.int .i64 1, .int .i64 (-(1 + e)), .int .i64 7, .string ⟨#[0]⟩, .string ⟨#[1, 97, 0]⟩, .string ⟨#[1, 97, 0]⟩, .int .i64 1, .int .i64 9] 35) := by rw [show N + 1 = q from by omega]; rw [show N + 1 = q from by omega] at HS; exact HS
      have HM : Hid (addE (N + 1) (fmD (N + 1)) (awA 1 5 7 9) = 1901 ∧ addD (N + 1) (fmD (N + 1)) (awA 1 5 7 9) = fmD (N + 1)) := add_more (aw_ok (by decide) (by decide)) (fmD_len _)
      have HL : Hid ((fmD (N + 1)).length = 1 + N) := by unfold Hid; rw [fmD_len]; omega
      clear HS
      have t5 : True := trivial
      have t6 : True := trivial
      have t7 : True := trivial
      go_wp2_with (first
        | (go_at_call 10; refine (num_any _ _).mono ?_; rintro e w' ⟨rfl, hw⟩; obtain rfl := hw.symm)
        | (go_at_call 22; go_must (refine (asked_any 1 5 7 9 _).mono ?_); rintro e w5 ⟨rfl, b5⟩; have s5 := HE.out.1.below b5; have k5 := HE.out.2.below b5; have ha2 := s5.add (by omega) 1 5 7 ⟨#[0]⟩ ⟨#[1, 97, 0]⟩ ⟨#[1, 97, 0]⟩ 1 9 (awA_far _ _ _ _) 1901 _ HM.out.1 HM.out.2)
        | (go_at_call 12; have _t := t5; go_must (refine ha2.mono ?_); rintro e w6 ⟨rfl, s6, p6⟩; have k6 := p6.blk _ _ _ (by decide) (by decide) k5; have ha3 := s6.add (by omega) 1 (-(1 + e)) 7 ⟨#[0]⟩ ⟨#[1, 97, 0]⟩ ⟨#[1, 97, 0]⟩ 1 9 HFAR.out 1900 _ (HNO.out _).1 (HNO.out _).2; clear t5)
        | (refine wpList_loadS _ rfl (.tmp 8) 35 rfl w3.heap.size _ 35 rfl k6 ⟨_, Try.underlying35⟩ (by kernel_rfl) ?_)
        | (go_at_call 12; go_must (refine ha3.mono ?_); rintro e w7 ⟨rfl, s7, _⟩; have hal := s7.all (1 + N) HL.out)
        | (go_at_call 8; have _t := t6; go_must (refine (new_no (1 - (1 + e)) _ (by omega)).mono ?_); rintro e w' ⟨rfl, hw⟩; obtain rfl := hw.symm; clear t6)
        | (go_at_call 8; go_must (refine (new_no (16 + (1 + e)) _ (by omega)).mono ?_); rintro e w' ⟨rfl, hw⟩; obtain rfl := hw.symm)
        | (go_at_call 20; go_must (refine hal.mono ?_); rintro e w8 ⟨y8, c8, rfl, _, s8, _⟩))
      go_ret
      exact ⟨rfl, s8.bel⟩

set_option maxRecDepth 20000 in
set_option maxHeartbeats 4000000 in
theorem tf1 (which x U e : Int) (N : Nat) (w : World) (hU : IntKind.u64.wrap which = U) (hm : U.tmod 7 = 1) (m63 : bits .and .i64 x 63 = e) (e0 : 0 ≤ e) (e1 : e < 64) (m7 : bits .and .i64 x 7 = (N : Int)) (hN : N ≤ 7) :
    Calls Try.prog 5 #[.int .i64 which, .int .i64 x] w fun e w' => e = .returned (.bool true) ∧ Below w.heap.size w w' := by
  have HNO : Hid (∀ D, addE (N + 1) D ⟨1, (65535 + (1 + e)), 7, ⟨#[0]⟩, ⟨#[1, 97, 0]⟩, ⟨#[1, 97, 0]⟩, 1, 9⟩ = 1900 ∧ addD (N + 1) D ⟨1, (65535 + (1 + e)), 7, ⟨#[0]⟩, ⟨#[1, 97, 0]⟩, ⟨#[1, 97, 0]⟩, 1, 9⟩ = D) := fun D => add_bad (wrong_if (.inr (.inl (by show 65535 < 65535 + (1 + e); omega))))
  have HFAR : Hid (Far ⟨1, (65535 + (1 + e)), 7, ⟨#[0]⟩, ⟨#[1, 97, 0]⟩, ⟨#[1, 97, 0]⟩, 1, 9⟩) := ⟨by show (1 : Nat) ≤ _; omega, by show (3 : Nat) ≤ _; omega, by show (3 : Nat) ≤ _; omega⟩
  have t1 : True := trivial
  have t2 : True := trivial
  have t3 : True := trivial
  have t4 : True := trivial
  go_enter Try.func5, Try.ntmps5
  go_wp2_with (first
    | (go_at_call 11; go_must (refine (awake_any _).mono ?_); rintro e w1 ⟨rfl, b1⟩)
    | (go_at_call 8; have _t := t1; go_must (refine ((by have := lw_new b1 (N + 1) (by omega) (by omega); rw [show ((N + 1 : Nat) : Int) = 1 + (N : Int) from by omega] at this; exact this) : Calls Try.prog 8 #[.int .i64 (1 + (N : Int))] w1 fun e w' => ∃ gs, e = .returned (.tuple #[.pointer (some ⟨gs, 0, none⟩), .int .i64 0]) ∧ LW w w' gs (N + 1) 0 [] ∧ Below w1.heap.size w1 w').mono ?_); rintro e w2 ⟨gs, rfl, s2, _⟩; clear t1)
    | (go_at_call 22; have _t := t2; go_must (refine (asked_any 1 5 7 9 _).mono ?_); rintro e w3 ⟨rfl, b3⟩; have s3 := (s2.below b3).below (lay (Below.refl _ _) (.cells #[.int .i64 1, .int .i64 (65535 + (1 + e)), .int .i64 7, .string ⟨#[0]⟩, .string ⟨#[1, 97, 0]⟩, .string ⟨#[1, 97, 0]⟩, .int .i64 1, .int .i64 9] 35)); have k3 := Blk.new w3 #[.int .i64 1, .int .i64 (65535 + (1 + e)), .int .i64 7, .string ⟨#[0]⟩, .string ⟨#[1, 97, 0]⟩, .string ⟨#[1, 97, 0]⟩, .int .i64 1, .int .i64 9] 35; have ha1 := s3.add (by decide) 1 (65535 + (1 + e)) 7 ⟨#[0]⟩ ⟨#[1, 97, 0]⟩ ⟨#[1, 97, 0]⟩ 1 9 HFAR.out 1900 _ (HNO.out []).1 (HNO.out []).2; clear t2 s2 b3)
    | (go_at_call 12; have _t := t3; go_must (refine ha1.mono ?_); rintro e w4 ⟨rfl, s4, p4⟩; have k4 := p4.blk _ _ _ (by decide) (by decide) k3; clear t3 ha1 k3 s3 p4))
  have HS0 : Hid (LW w w4 gs (N + 1) (0 + 1 + 0) (fmD 0) ∧ Blk w4 w3.heap.size #[.int .i64 1, .int .i64 (65535 + (1 + e)), .int .i64 7, .string ⟨#[0]⟩, .string ⟨#[1, 97, 0]⟩, .string ⟨#[1, 97, 0]⟩, .int .i64 1, .int .i64 9] 35) := ⟨s4, k4⟩
  clear s4 k4
  go_loopw [10] (fun i wr => ∃ q : Nat, q ≤ N + 1 ∧ i = .int .i64 (q : Int) ∧ Hid (LW w wr gs (N + 1) (0 + 1 + q) (fmD q) ∧ Blk wr w3.heap.size #[.int .i64 1, .int .i64 (65535 + (1 + e)), .int .i64 7, .string ⟨#[0]⟩, .string ⟨#[1, 97, 0]⟩, .string ⟨#[1, 97, 0]⟩, .int .i64 1, .int .i64 9] 35)) (fun i _ => N + 1 - (intOf i).toNat)
  case atStart => exact ⟨0, Nat.zero_le _, rfl, HS0⟩
  case round =>
    obtain ⟨q, hq, rfl, HS⟩ := hrel
    clear HS0
    by_cases hqN : q ≤ N
    · have hqN' : (q : Int) ≤ (N : Int) := by omega
      have HA : Hid (addE (N + 1) (fmD q) (awA (q : Int) (q : Int) 7 9) = 0 ∧ addD (N + 1) (fmD q) (awA (q : Int) (q : Int) 7 9) = fmD (q + 1)) := by
        have := add_ok (most := N + 1) (D := fmD q) (j := (q : Int)) (i := (q : Int)) (u := 9) (by omega) (by omega) (by rw [fmD_len]; omega)
        rw [← fmD_next] at this
        exact this
      go_wp2_with (first
        | (go_at_call 10; refine (num_any _ _).mono ?_; rintro e w' ⟨rfl, hw⟩; obtain rfl := hw.symm)
        | (go_at_call 22; go_must (refine (asked_any (q : Int) (q : Int) 7 9 _).mono ?_); rintro e w5 ⟨rfl, b5⟩; have s5 := HS.out.1.below b5; have k5 := HS.out.2.below b5; have ha2 := s5.add (by omega) (q : Int) (q : Int) 7 ⟨#[0]⟩ ⟨#[1, 97, 0]⟩ ⟨#[1, 97, 0]⟩ 1 9 (awA_far _ _ _ _) 0 _ HA.out.1 HA.out.2)
        | (go_at_call 12; go_must (refine ha2.mono ?_); rintro e w6 ⟨rfl, s6, p6⟩; have k6 := p6.blk _ _ _ (by decide) (by decide) k5))
      have HS6 : Hid (LW w w6 gs (N + 1) (0 + 1 + (q + 1)) (fmD (q + 1)) ∧ Blk w6 w3.heap.size #[.int .i64 1, .int .i64 (65535 + (1 + e)), .int .i64 7, .string ⟨#[0]⟩, .string ⟨#[1, 97, 0]⟩, .string ⟨#[1, 97, 0]⟩, .int .i64 1, .int .i64 9] 35) := ⟨s6, k6⟩
      clear s6 k6 p6 s5 k5 b5 ha2 HS
      go_roundw
      case rel => exact ⟨q + 1, by omega, by go_num, HS6⟩
      case measure => simp [intOf]; omega
    · have hqN' : decide ((q : Int) ≤ (N : Int)) = false := by simp; omega
      have HE : Hid (LW w wr gs (N + 1) (0 + 1 + (N + 1)) (fmD (N + 1)) ∧ Blk wr w3.heap.size #[.int .i64 1, .int .i64 (65535 + (1 + e)), .int .i64 7, .string ⟨#[0]⟩, .string ⟨#[1, 97, 0]⟩, .string ⟨#[1, 97, 0]⟩, .int .i64 1, .int .i64 9] 35) := by rw [show N + 1 = q from by omega]; rw [show N + 1 = q from by omega] at HS; exact HS
      have HM : Hid (addE (N + 1) (fmD (N + 1)) (awA 1 5 7 9) = 1901 ∧ addD (N + 1) (fmD (N + 1)) (awA 1 5 7 9) = fmD (N + 1)) := add_more (aw_ok (by decide) (by decide)) (fmD_len _)
      have HL : Hid ((fmD (N + 1)).length = 1 + N) := by unfold Hid; rw [fmD_len]; omega
      clear HS
      have t5 : True := trivial
      have t6 : True := trivial
      have t7 : True := trivial
      go_wp2_with (first
        | (go_at_call 10; refine (num_any _ _).mono ?_; rintro e w' ⟨rfl, hw⟩; obtain rfl := hw.symm)
        | (go_at_call 22; go_must (refine (asked_any 1 5 7 9 _).mono ?_); rintro e w5 ⟨rfl, b5⟩; have s5 := HE.out.1.below b5; have k5 := HE.out.2.below b5; have ha2 := s5.add (by omega) 1 5 7 ⟨#[0]⟩ ⟨#[1, 97, 0]⟩ ⟨#[1, 97, 0]⟩ 1 9 (awA_far _ _ _ _) 1901 _ HM.out.1 HM.out.2)
        | (go_at_call 12; have _t := t5; go_must (refine ha2.mono ?_); rintro e w6 ⟨rfl, s6, p6⟩; have k6 := p6.blk _ _ _ (by decide) (by decide) k5; have ha3 := s6.add (by omega) 1 (65535 + (1 + e)) 7 ⟨#[0]⟩ ⟨#[1, 97, 0]⟩ ⟨#[1, 97, 0]⟩ 1 9 HFAR.out 1900 _ (HNO.out _).1 (HNO.out _).2; clear t5)
        | (refine wpList_loadS _ rfl (.tmp 8) 35 rfl w3.heap.size _ 35 rfl k6 ⟨_, Try.underlying35⟩ (by kernel_rfl) ?_)
        | (go_at_call 12; go_must (refine ha3.mono ?_); rintro e w7 ⟨rfl, s7, _⟩; have hal := s7.all (1 + N) HL.out)
        | (go_at_call 8; have _t := t6; go_must (refine (new_no (1 - (1 + e)) _ (by omega)).mono ?_); rintro e w' ⟨rfl, hw⟩; obtain rfl := hw.symm; clear t6)
        | (go_at_call 8; go_must (refine (new_no (16 + (1 + e)) _ (by omega)).mono ?_); rintro e w' ⟨rfl, hw⟩; obtain rfl := hw.symm)
        | (go_at_call 20; go_must (refine hal.mono ?_); rintro e w8 ⟨y8, c8, rfl, _, s8, _⟩))
      go_ret
      exact ⟨rfl, s8.bel⟩

set_option maxRecDepth 20000 in
set_option maxHeartbeats 4000000 in
theorem tf2 (which x U e : Int) (N : Nat) (w : World) (hU : IntKind.u64.wrap which = U) (hm : U.tmod 7 = 2) (m63 : bits .and .i64 x 63 = e) (e0 : 0 ≤ e) (e1 : e < 64) (m7 : bits .and .i64 x 7 = (N : Int)) (hN : N ≤ 7) :
    Calls Try.prog 5 #[.int .i64 which, .int .i64 x] w fun e w' => e = .returned (.bool true) ∧ Below w.heap.size w w' := by
  have HNO : Hid (∀ D, addE (N + 1) D ⟨1, 5, (-(1 + e)), ⟨#[0]⟩, ⟨#[1, 97, 0]⟩, ⟨#[1, 97, 0]⟩, 1, 9⟩ = 1900 ∧ addD (N + 1) D ⟨1, 5, (-(1 + e)), ⟨#[0]⟩, ⟨#[1, 97, 0]⟩, ⟨#[1, 97, 0]⟩, 1, 9⟩ = D) := fun D => add_bad (wrong_if (.inr (.inr (.inl (by show -(1 + e) < 0; omega)))))
  have HFAR : Hid (Far ⟨1, 5, (-(1 + e)), ⟨#[0]⟩, ⟨#[1, 97, 0]⟩, ⟨#[1, 97, 0]⟩, 1, 9⟩) := ⟨by show (1 : Nat) ≤ _; omega, by show (3 : Nat) ≤ _; omega, by show (3 : Nat) ≤ _; omega⟩
  have t1 : True := trivial
  have t2 : True := trivial
  have t3 : True := trivial
  have t4 : True := trivial
  go_enter Try.func5, Try.ntmps5
  go_wp2_with (first
    | (go_at_call 11; go_must (refine (awake_any _).mono ?_); rintro e w1 ⟨rfl, b1⟩)
    | (go_at_call 8; have _t := t1; go_must (refine ((by have := lw_new b1 (N + 1) (by omega) (by omega); rw [show ((N + 1 : Nat) : Int) = 1 + (N : Int) from by omega] at this; exact this) : Calls Try.prog 8 #[.int .i64 (1 + (N : Int))] w1 fun e w' => ∃ gs, e = .returned (.tuple #[.pointer (some ⟨gs, 0, none⟩), .int .i64 0]) ∧ LW w w' gs (N + 1) 0 [] ∧ Below w1.heap.size w1 w').mono ?_); rintro e w2 ⟨gs, rfl, s2, _⟩; clear t1)
    | (go_at_call 22; have _t := t2; go_must (refine (asked_any 1 5 7 9 _).mono ?_); rintro e w3 ⟨rfl, b3⟩; have s3 := (s2.below b3).below (lay (Below.refl _ _) (.cells #[.int .i64 1, .int .i64 5, .int .i64 (-(1 + e)), .string ⟨#[0]⟩, .string ⟨#[1, 97, 0]⟩, .string ⟨#[1, 97, 0]⟩, .int .i64 1, .int .i64 9] 35)); have k3 := Blk.new w3 #[.int .i64 1, .int .i64 5, .int .i64 (-(1 + e)), .string ⟨#[0]⟩, .string ⟨#[1, 97, 0]⟩, .string ⟨#[1, 97, 0]⟩, .int .i64 1, .int .i64 9] 35; have ha1 := s3.add (by decide) 1 5 (-(1 + e)) ⟨#[0]⟩ ⟨#[1, 97, 0]⟩ ⟨#[1, 97, 0]⟩ 1 9 HFAR.out 1900 _ (HNO.out []).1 (HNO.out []).2; clear t2 s2 b3)
    | (go_at_call 12; have _t := t3; go_must (refine ha1.mono ?_); rintro e w4 ⟨rfl, s4, p4⟩; have k4 := p4.blk _ _ _ (by decide) (by decide) k3; clear t3 ha1 k3 s3 p4))
  have HS0 : Hid (LW w w4 gs (N + 1) (0 + 1 + 0) (fmD 0) ∧ Blk w4 w3.heap.size #[.int .i64 1, .int .i64 5, .int .i64 (-(1 + e)), .string ⟨#[0]⟩, .string ⟨#[1, 97, 0]⟩, .string ⟨#[1, 97, 0]⟩, .int .i64 1, .int .i64 9] 35) := ⟨s4, k4⟩
  clear s4 k4
  go_loopw [10] (fun i wr => ∃ q : Nat, q ≤ N + 1 ∧ i = .int .i64 (q : Int) ∧ Hid (LW w wr gs (N + 1) (0 + 1 + q) (fmD q) ∧ Blk wr w3.heap.size #[.int .i64 1, .int .i64 5, .int .i64 (-(1 + e)), .string ⟨#[0]⟩, .string ⟨#[1, 97, 0]⟩, .string ⟨#[1, 97, 0]⟩, .int .i64 1, .int .i64 9] 35)) (fun i _ => N + 1 - (intOf i).toNat)
  case atStart => exact ⟨0, Nat.zero_le _, rfl, HS0⟩
  case round =>
    obtain ⟨q, hq, rfl, HS⟩ := hrel
    clear HS0
    by_cases hqN : q ≤ N
    · have hqN' : (q : Int) ≤ (N : Int) := by omega
      have HA : Hid (addE (N + 1) (fmD q) (awA (q : Int) (q : Int) 7 9) = 0 ∧ addD (N + 1) (fmD q) (awA (q : Int) (q : Int) 7 9) = fmD (q + 1)) := by
        have := add_ok (most := N + 1) (D := fmD q) (j := (q : Int)) (i := (q : Int)) (u := 9) (by omega) (by omega) (by rw [fmD_len]; omega)
        rw [← fmD_next] at this
        exact this
      go_wp2_with (first
        | (go_at_call 10; refine (num_any _ _).mono ?_; rintro e w' ⟨rfl, hw⟩; obtain rfl := hw.symm)
        | (go_at_call 22; go_must (refine (asked_any (q : Int) (q : Int) 7 9 _).mono ?_); rintro e w5 ⟨rfl, b5⟩; have s5 := HS.out.1.below b5; have k5 := HS.out.2.below b5; have ha2 := s5.add (by omega) (q : Int) (q : Int) 7 ⟨#[0]⟩ ⟨#[1, 97, 0]⟩ ⟨#[1, 97, 0]⟩ 1 9 (awA_far _ _ _ _) 0 _ HA.out.1 HA.out.2)
        | (go_at_call 12; go_must (refine ha2.mono ?_); rintro e w6 ⟨rfl, s6, p6⟩; have k6 := p6.blk _ _ _ (by decide) (by decide) k5))
      have HS6 : Hid (LW w w6 gs (N + 1) (0 + 1 + (q + 1)) (fmD (q + 1)) ∧ Blk w6 w3.heap.size #[.int .i64 1, .int .i64 5, .int .i64 (-(1 + e)), .string ⟨#[0]⟩, .string ⟨#[1, 97, 0]⟩, .string ⟨#[1, 97, 0]⟩, .int .i64 1, .int .i64 9] 35) := ⟨s6, k6⟩
      clear s6 k6 p6 s5 k5 b5 ha2 HS
      go_roundw
      case rel => exact ⟨q + 1, by omega, by go_num, HS6⟩
      case measure => simp [intOf]; omega
    · have hqN' : decide ((q : Int) ≤ (N : Int)) = false := by simp; omega
      have HE : Hid (LW w wr gs (N + 1) (0 + 1 + (N + 1)) (fmD (N + 1)) ∧ Blk wr w3.heap.size #[.int .i64 1, .int .i64 5, .int .i64 (-(1 + e)), .string ⟨#[0]⟩, .string ⟨#[1, 97, 0]⟩, .string ⟨#[1, 97, 0]⟩, .int .i64 1, .int .i64 9] 35) := by rw [show N + 1 = q from by omega]; rw [show N + 1 = q from by omega] at HS; exact HS
      have HM : Hid (addE (N + 1) (fmD (N + 1)) (awA 1 5 7 9) = 1901 ∧ addD (N + 1) (fmD (N + 1)) (awA 1 5 7 9) = fmD (N + 1)) := add_more (aw_ok (by decide) (by decide)) (fmD_len _)
      have HL : Hid ((fmD (N + 1)).length = 1 + N) := by unfold Hid; rw [fmD_len]; omega
      clear HS
      have t5 : True := trivial
      have t6 : True := trivial
      have t7 : True := trivial
      go_wp2_with (first
        | (go_at_call 10; refine (num_any _ _).mono ?_; rintro e w' ⟨rfl, hw⟩; obtain rfl := hw.symm)
        | (go_at_call 22; go_must (refine (asked_any 1 5 7 9 _).mono ?_); rintro e w5 ⟨rfl, b5⟩; have s5 := HE.out.1.below b5; have k5 := HE.out.2.below b5; have ha2 := s5.add (by omega) 1 5 7 ⟨#[0]⟩ ⟨#[1, 97, 0]⟩ ⟨#[1, 97, 0]⟩ 1 9 (awA_far _ _ _ _) 1901 _ HM.out.1 HM.out.2)
        | (go_at_call 12; have _t := t5; go_must (refine ha2.mono ?_); rintro e w6 ⟨rfl, s6, p6⟩; have k6 := p6.blk _ _ _ (by decide) (by decide) k5; have ha3 := s6.add (by omega) 1 5 (-(1 + e)) ⟨#[0]⟩ ⟨#[1, 97, 0]⟩ ⟨#[1, 97, 0]⟩ 1 9 HFAR.out 1900 _ (HNO.out _).1 (HNO.out _).2; clear t5)
        | (refine wpList_loadS _ rfl (.tmp 8) 35 rfl w3.heap.size _ 35 rfl k6 ⟨_, Try.underlying35⟩ (by kernel_rfl) ?_)
        | (go_at_call 12; go_must (refine ha3.mono ?_); rintro e w7 ⟨rfl, s7, _⟩; have hal := s7.all (1 + N) HL.out)
        | (go_at_call 8; have _t := t6; go_must (refine (new_no (1 - (1 + e)) _ (by omega)).mono ?_); rintro e w' ⟨rfl, hw⟩; obtain rfl := hw.symm; clear t6)
        | (go_at_call 8; go_must (refine (new_no (16 + (1 + e)) _ (by omega)).mono ?_); rintro e w' ⟨rfl, hw⟩; obtain rfl := hw.symm)
        | (go_at_call 20; go_must (refine hal.mono ?_); rintro e w8 ⟨y8, c8, rfl, _, s8, _⟩))
      go_ret
      exact ⟨rfl, s8.bel⟩

set_option maxRecDepth 20000 in
set_option maxHeartbeats 4000000 in
theorem tf3 (which x U e : Int) (N : Nat) (w : World) (hU : IntKind.u64.wrap which = U) (hm : U.tmod 7 = 3) (m63 : bits .and .i64 x 63 = e) (e0 : 0 ≤ e) (e1 : e < 64) (m7 : bits .and .i64 x 7 = (N : Int)) (hN : N ≤ 7) :
    Calls Try.prog 5 #[.int .i64 which, .int .i64 x] w fun e w' => e = .returned (.bool true) ∧ Below w.heap.size w w' := by
  have HNO : Hid (∀ D, addE (N + 1) D ⟨1, 5, (4294967295 + (1 + e)), ⟨#[0]⟩, ⟨#[1, 97, 0]⟩, ⟨#[1, 97, 0]⟩, 1, 9⟩ = 1900 ∧ addD (N + 1) D ⟨1, 5, (4294967295 + (1 + e)), ⟨#[0]⟩, ⟨#[1, 97, 0]⟩, ⟨#[1, 97, 0]⟩, 1, 9⟩ = D) := fun D => add_bad (wrong_if (.inr (.inr (.inr (.inl (by show 4294967295 < 4294967295 + (1 + e); omega))))))
  have HFAR : Hid (Far ⟨1, 5, (4294967295 + (1 + e)), ⟨#[0]⟩, ⟨#[1, 97, 0]⟩, ⟨#[1, 97, 0]⟩, 1, 9⟩) := ⟨by show (1 : Nat) ≤ _; omega, by show (3 : Nat) ≤ _; omega, by show (3 : Nat) ≤ _; omega⟩
  have t1 : True := trivial
  have t2 : True := trivial
  have t3 : True := trivial
  have t4 : True := trivial
  go_enter Try.func5, Try.ntmps5
  go_wp2_with (first
    | (go_at_call 11; go_must (refine (awake_any _).mono ?_); rintro e w1 ⟨rfl, b1⟩)
    | (go_at_call 8; have _t := t1; go_must (refine ((by have := lw_new b1 (N + 1) (by omega) (by omega); rw [show ((N + 1 : Nat) : Int) = 1 + (N : Int) from by omega] at this; exact this) : Calls Try.prog 8 #[.int .i64 (1 + (N : Int))] w1 fun e w' => ∃ gs, e = .returned (.tuple #[.pointer (some ⟨gs, 0, none⟩), .int .i64 0]) ∧ LW w w' gs (N + 1) 0 [] ∧ Below w1.heap.size w1 w').mono ?_); rintro e w2 ⟨gs, rfl, s2, _⟩; clear t1)
    | (go_at_call 22; have _t := t2; go_must (refine (asked_any 1 5 7 9 _).mono ?_); rintro e w3 ⟨rfl, b3⟩; have s3 := (s2.below b3).below (lay (Below.refl _ _) (.cells #[.int .i64 1, .int .i64 5, .int .i64 (4294967295 + (1 + e)), .string ⟨#[0]⟩, .string ⟨#[1, 97, 0]⟩, .string ⟨#[1, 97, 0]⟩, .int .i64 1, .int .i64 9] 35)); have k3 := Blk.new w3 #[.int .i64 1, .int .i64 5, .int .i64 (4294967295 + (1 + e)), .string ⟨#[0]⟩, .string ⟨#[1, 97, 0]⟩, .string ⟨#[1, 97, 0]⟩, .int .i64 1, .int .i64 9] 35; have ha1 := s3.add (by decide) 1 5 (4294967295 + (1 + e)) ⟨#[0]⟩ ⟨#[1, 97, 0]⟩ ⟨#[1, 97, 0]⟩ 1 9 HFAR.out 1900 _ (HNO.out []).1 (HNO.out []).2; clear t2 s2 b3)
    | (go_at_call 12; have _t := t3; go_must (refine ha1.mono ?_); rintro e w4 ⟨rfl, s4, p4⟩; have k4 := p4.blk _ _ _ (by decide) (by decide) k3; clear t3 ha1 k3 s3 p4))
  have HS0 : Hid (LW w w4 gs (N + 1) (0 + 1 + 0) (fmD 0) ∧ Blk w4 w3.heap.size #[.int .i64 1, .int .i64 5, .int .i64 (4294967295 + (1 + e)), .string ⟨#[0]⟩, .string ⟨#[1, 97, 0]⟩, .string ⟨#[1, 97, 0]⟩, .int .i64 1, .int .i64 9] 35) := ⟨s4, k4⟩
  clear s4 k4
  go_loopw [10] (fun i wr => ∃ q : Nat, q ≤ N + 1 ∧ i = .int .i64 (q : Int) ∧ Hid (LW w wr gs (N + 1) (0 + 1 + q) (fmD q) ∧ Blk wr w3.heap.size #[.int .i64 1, .int .i64 5, .int .i64 (4294967295 + (1 + e)), .string ⟨#[0]⟩, .string ⟨#[1, 97, 0]⟩, .string ⟨#[1, 97, 0]⟩, .int .i64 1, .int .i64 9] 35)) (fun i _ => N + 1 - (intOf i).toNat)
  case atStart => exact ⟨0, Nat.zero_le _, rfl, HS0⟩
  case round =>
    obtain ⟨q, hq, rfl, HS⟩ := hrel
    clear HS0
    by_cases hqN : q ≤ N
    · have hqN' : (q : Int) ≤ (N : Int) := by omega
      have HA : Hid (addE (N + 1) (fmD q) (awA (q : Int) (q : Int) 7 9) = 0 ∧ addD (N + 1) (fmD q) (awA (q : Int) (q : Int) 7 9) = fmD (q + 1)) := by
        have := add_ok (most := N + 1) (D := fmD q) (j := (q : Int)) (i := (q : Int)) (u := 9) (by omega) (by omega) (by rw [fmD_len]; omega)
        rw [← fmD_next] at this
        exact this
      go_wp2_with (first
        | (go_at_call 10; refine (num_any _ _).mono ?_; rintro e w' ⟨rfl, hw⟩; obtain rfl := hw.symm)
        | (go_at_call 22; go_must (refine (asked_any (q : Int) (q : Int) 7 9 _).mono ?_); rintro e w5 ⟨rfl, b5⟩; have s5 := HS.out.1.below b5; have k5 := HS.out.2.below b5; have ha2 := s5.add (by omega) (q : Int) (q : Int) 7 ⟨#[0]⟩ ⟨#[1, 97, 0]⟩ ⟨#[1, 97, 0]⟩ 1 9 (awA_far _ _ _ _) 0 _ HA.out.1 HA.out.2)
        | (go_at_call 12; go_must (refine ha2.mono ?_); rintro e w6 ⟨rfl, s6, p6⟩; have k6 := p6.blk _ _ _ (by decide) (by decide) k5))
      have HS6 : Hid (LW w w6 gs (N + 1) (0 + 1 + (q + 1)) (fmD (q + 1)) ∧ Blk w6 w3.heap.size #[.int .i64 1, .int .i64 5, .int .i64 (4294967295 + (1 + e)), .string ⟨#[0]⟩, .string ⟨#[1, 97, 0]⟩, .string ⟨#[1, 97, 0]⟩, .int .i64 1, .int .i64 9] 35) := ⟨s6, k6⟩
      clear s6 k6 p6 s5 k5 b5 ha2 HS
      go_roundw
      case rel => exact ⟨q + 1, by omega, by go_num, HS6⟩
      case measure => simp [intOf]; omega
    · have hqN' : decide ((q : Int) ≤ (N : Int)) = false := by simp; omega
      have HE : Hid (LW w wr gs (N + 1) (0 + 1 + (N + 1)) (fmD (N + 1)) ∧ Blk wr w3.heap.size #[.int .i64 1, .int .i64 5, .int .i64 (4294967295 + (1 + e)), .string ⟨#[0]⟩, .string ⟨#[1, 97, 0]⟩, .string ⟨#[1, 97, 0]⟩, .int .i64 1, .int .i64 9] 35) := by rw [show N + 1 = q from by omega]; rw [show N + 1 = q from by omega] at HS; exact HS
      have HM : Hid (addE (N + 1) (fmD (N + 1)) (awA 1 5 7 9) = 1901 ∧ addD (N + 1) (fmD (N + 1)) (awA 1 5 7 9) = fmD (N + 1)) := add_more (aw_ok (by decide) (by decide)) (fmD_len _)
      have HL : Hid ((fmD (N + 1)).length = 1 + N) := by unfold Hid; rw [fmD_len]; omega
      clear HS
      have t5 : True := trivial
      have t6 : True := trivial
      have t7 : True := trivial
      go_wp2_with (first
        | (go_at_call 10; refine (num_any _ _).mono ?_; rintro e w' ⟨rfl, hw⟩; obtain rfl := hw.symm)
        | (go_at_call 22; go_must (refine (asked_any 1 5 7 9 _).mono ?_); rintro e w5 ⟨rfl, b5⟩; have s5 := HE.out.1.below b5; have k5 := HE.out.2.below b5; have ha2 := s5.add (by omega) 1 5 7 ⟨#[0]⟩ ⟨#[1, 97, 0]⟩ ⟨#[1, 97, 0]⟩ 1 9 (awA_far _ _ _ _) 1901 _ HM.out.1 HM.out.2)
        | (go_at_call 12; have _t := t5; go_must (refine ha2.mono ?_); rintro e w6 ⟨rfl, s6, p6⟩; have k6 := p6.blk _ _ _ (by decide) (by decide) k5; have ha3 := s6.add (by omega) 1 5 (4294967295 + (1 + e)) ⟨#[0]⟩ ⟨#[1, 97, 0]⟩ ⟨#[1, 97, 0]⟩ 1 9 HFAR.out 1900 _ (HNO.out _).1 (HNO.out _).2; clear t5)
        | (refine wpList_loadS _ rfl (.tmp 8) 35 rfl w3.heap.size _ 35 rfl k6 ⟨_, Try.underlying35⟩ (by kernel_rfl) ?_)
        | (go_at_call 12; go_must (refine ha3.mono ?_); rintro e w7 ⟨rfl, s7, _⟩; have hal := s7.all (1 + N) HL.out)
        | (go_at_call 8; have _t := t6; go_must (refine (new_no (1 - (1 + e)) _ (by omega)).mono ?_); rintro e w' ⟨rfl, hw⟩; obtain rfl := hw.symm; clear t6)
        | (go_at_call 8; go_must (refine (new_no (16 + (1 + e)) _ (by omega)).mono ?_); rintro e w' ⟨rfl, hw⟩; obtain rfl := hw.symm)
        | (go_at_call 20; go_must (refine hal.mono ?_); rintro e w8 ⟨y8, c8, rfl, _, s8, _⟩))
      go_ret
      exact ⟨rfl, s8.bel⟩

set_option maxRecDepth 20000 in
set_option maxHeartbeats 4000000 in
theorem tf4 (which x U e : Int) (N : Nat) (w : World) (hU : IntKind.u64.wrap which = U) (hm : U.tmod 7 = 4) (m63 : bits .and .i64 x 63 = e) (e0 : 0 ≤ e) (e1 : e < 64) (m7 : bits .and .i64 x 7 = (N : Int)) (hN : N ≤ 7) :
    Calls Try.prog 5 #[.int .i64 which, .int .i64 x] w fun e w' => e = .returned (.bool true) ∧ Below w.heap.size w w' := by
  have HNO : Hid (∀ D, addE (N + 1) D ⟨1, 5, 7, ⟨#[0]⟩, ⟨#[1, 97, 0]⟩, ⟨#[97]⟩, 1, 9⟩ = 1900 ∧ addD (N + 1) D ⟨1, 5, 7, ⟨#[0]⟩, ⟨#[1, 97, 0]⟩, ⟨#[97]⟩, 1, 9⟩ = D) := fun D => add_bad (wrong_if (.inr (.inr (.inr (.inr (.inl rfl))))))
  have HFAR : Hid (Far ⟨1, 5, 7, ⟨#[0]⟩, ⟨#[1, 97, 0]⟩, ⟨#[97]⟩, 1, 9⟩) := ⟨by show (1 : Nat) ≤ _; omega, by show (3 : Nat) ≤ _; omega, by show (1 : Nat) ≤ _; omega⟩
  have t1 : True := trivial
  have t2 : True := trivial
  have t3 : True := trivial
  have t4 : True := trivial
  go_enter Try.func5, Try.ntmps5
  go_wp2_with (first
    | (go_at_call 11; go_must (refine (awake_any _).mono ?_); rintro e w1 ⟨rfl, b1⟩)
    | (go_at_call 8; have _t := t1; go_must (refine ((by have := lw_new b1 (N + 1) (by omega) (by omega); rw [show ((N + 1 : Nat) : Int) = 1 + (N : Int) from by omega] at this; exact this) : Calls Try.prog 8 #[.int .i64 (1 + (N : Int))] w1 fun e w' => ∃ gs, e = .returned (.tuple #[.pointer (some ⟨gs, 0, none⟩), .int .i64 0]) ∧ LW w w' gs (N + 1) 0 [] ∧ Below w1.heap.size w1 w').mono ?_); rintro e w2 ⟨gs, rfl, s2, _⟩; clear t1)
    | (go_at_call 22; have _t := t2; go_must (refine (asked_any 1 5 7 9 _).mono ?_); rintro e w3 ⟨rfl, b3⟩; have s3 := (s2.below b3).below (lay (Below.refl _ _) (.cells #[.int .i64 1, .int .i64 5, .int .i64 7, .string ⟨#[0]⟩, .string ⟨#[1, 97, 0]⟩, .string ⟨#[97]⟩, .int .i64 1, .int .i64 9] 35)); have k3 := Blk.new w3 #[.int .i64 1, .int .i64 5, .int .i64 7, .string ⟨#[0]⟩, .string ⟨#[1, 97, 0]⟩, .string ⟨#[97]⟩, .int .i64 1, .int .i64 9] 35; have ha1 := s3.add (by decide) 1 5 7 ⟨#[0]⟩ ⟨#[1, 97, 0]⟩ ⟨#[97]⟩ 1 9 HFAR.out 1900 _ (HNO.out []).1 (HNO.out []).2; clear t2 s2 b3)
    | (go_at_call 12; have _t := t3; go_must (refine ha1.mono ?_); rintro e w4 ⟨rfl, s4, p4⟩; have k4 := p4.blk _ _ _ (by decide) (by decide) k3; clear t3 ha1 k3 s3 p4))
  have HS0 : Hid (LW w w4 gs (N + 1) (0 + 1 + 0) (fmD 0) ∧ Blk w4 w3.heap.size #[.int .i64 1, .int .i64 5, .int .i64 7, .string ⟨#[0]⟩, .string ⟨#[1, 97, 0]⟩, .string ⟨#[97]⟩, .int .i64 1, .int .i64 9] 35) := ⟨s4, k4⟩
  clear s4 k4
  go_loopw [10] (fun i wr => ∃ q : Nat, q ≤ N + 1 ∧ i = .int .i64 (q : Int) ∧ Hid (LW w wr gs (N + 1) (0 + 1 + q) (fmD q) ∧ Blk wr w3.heap.size #[.int .i64 1, .int .i64 5, .int .i64 7, .string ⟨#[0]⟩, .string ⟨#[1, 97, 0]⟩, .string ⟨#[97]⟩, .int .i64 1, .int .i64 9] 35)) (fun i _ => N + 1 - (intOf i).toNat)
  case atStart => exact ⟨0, Nat.zero_le _, rfl, HS0⟩
  case round =>
    obtain ⟨q, hq, rfl, HS⟩ := hrel
    clear HS0
    by_cases hqN : q ≤ N
    · have hqN' : (q : Int) ≤ (N : Int) := by omega
      have HA : Hid (addE (N + 1) (fmD q) (awA (q : Int) (q : Int) 7 9) = 0 ∧ addD (N + 1) (fmD q) (awA (q : Int) (q : Int) 7 9) = fmD (q + 1)) := by
        have := add_ok (most := N + 1) (D := fmD q) (j := (q : Int)) (i := (q : Int)) (u := 9) (by omega) (by omega) (by rw [fmD_len]; omega)
        rw [← fmD_next] at this
        exact this
      go_wp2_with (first
        | (go_at_call 10; refine (num_any _ _).mono ?_; rintro e w' ⟨rfl, hw⟩; obtain rfl := hw.symm)
        | (go_at_call 22; go_must (refine (asked_any (q : Int) (q : Int) 7 9 _).mono ?_); rintro e w5 ⟨rfl, b5⟩; have s5 := HS.out.1.below b5; have k5 := HS.out.2.below b5; have ha2 := s5.add (by omega) (q : Int) (q : Int) 7 ⟨#[0]⟩ ⟨#[1, 97, 0]⟩ ⟨#[1, 97, 0]⟩ 1 9 (awA_far _ _ _ _) 0 _ HA.out.1 HA.out.2)
        | (go_at_call 12; go_must (refine ha2.mono ?_); rintro e w6 ⟨rfl, s6, p6⟩; have k6 := p6.blk _ _ _ (by decide) (by decide) k5))
      have HS6 : Hid (LW w w6 gs (N + 1) (0 + 1 + (q + 1)) (fmD (q + 1)) ∧ Blk w6 w3.heap.size #[.int .i64 1, .int .i64 5, .int .i64 7, .string ⟨#[0]⟩, .string ⟨#[1, 97, 0]⟩, .string ⟨#[97]⟩, .int .i64 1, .int .i64 9] 35) := ⟨s6, k6⟩
      clear s6 k6 p6 s5 k5 b5 ha2 HS
      go_roundw
      case rel => exact ⟨q + 1, by omega, by go_num, HS6⟩
      case measure => simp [intOf]; omega
    · have hqN' : decide ((q : Int) ≤ (N : Int)) = false := by simp; omega
      have HE : Hid (LW w wr gs (N + 1) (0 + 1 + (N + 1)) (fmD (N + 1)) ∧ Blk wr w3.heap.size #[.int .i64 1, .int .i64 5, .int .i64 7, .string ⟨#[0]⟩, .string ⟨#[1, 97, 0]⟩, .string ⟨#[97]⟩, .int .i64 1, .int .i64 9] 35) := by rw [show N + 1 = q from by omega]; rw [show N + 1 = q from by omega] at HS; exact HS
      have HM : Hid (addE (N + 1) (fmD (N + 1)) (awA 1 5 7 9) = 1901 ∧ addD (N + 1) (fmD (N + 1)) (awA 1 5 7 9) = fmD (N + 1)) := add_more (aw_ok (by decide) (by decide)) (fmD_len _)
      have HL : Hid ((fmD (N + 1)).length = 1 + N) := by unfold Hid; rw [fmD_len]; omega
      clear HS
      have t5 : True := trivial
      have t6 : True := trivial
      have t7 : True := trivial
      go_wp2_with (first
        | (go_at_call 10; refine (num_any _ _).mono ?_; rintro e w' ⟨rfl, hw⟩; obtain rfl := hw.symm)
        | (go_at_call 22; go_must (refine (asked_any 1 5 7 9 _).mono ?_); rintro e w5 ⟨rfl, b5⟩; have s5 := HE.out.1.below b5; have k5 := HE.out.2.below b5; have ha2 := s5.add (by omega) 1 5 7 ⟨#[0]⟩ ⟨#[1, 97, 0]⟩ ⟨#[1, 97, 0]⟩ 1 9 (awA_far _ _ _ _) 1901 _ HM.out.1 HM.out.2)
        | (go_at_call 12; have _t := t5; go_must (refine ha2.mono ?_); rintro e w6 ⟨rfl, s6, p6⟩; have k6 := p6.blk _ _ _ (by decide) (by decide) k5; have ha3 := s6.add (by omega) 1 5 7 ⟨#[0]⟩ ⟨#[1, 97, 0]⟩ ⟨#[97]⟩ 1 9 HFAR.out 1900 _ (HNO.out _).1 (HNO.out _).2; clear t5)
        | (refine wpList_loadS _ rfl (.tmp 8) 35 rfl w3.heap.size _ 35 rfl k6 ⟨_, Try.underlying35⟩ (by kernel_rfl) ?_)
        | (go_at_call 12; go_must (refine ha3.mono ?_); rintro e w7 ⟨rfl, s7, _⟩; have hal := s7.all (1 + N) HL.out)
        | (go_at_call 8; have _t := t6; go_must (refine (new_no (1 - (1 + e)) _ (by omega)).mono ?_); rintro e w' ⟨rfl, hw⟩; obtain rfl := hw.symm; clear t6)
        | (go_at_call 8; go_must (refine (new_no (16 + (1 + e)) _ (by omega)).mono ?_); rintro e w' ⟨rfl, hw⟩; obtain rfl := hw.symm)
        | (go_at_call 20; go_must (refine hal.mono ?_); rintro e w8 ⟨y8, c8, rfl, _, s8, _⟩))
      go_ret
      exact ⟨rfl, s8.bel⟩

set_option maxRecDepth 20000 in
set_option maxHeartbeats 4000000 in
theorem tf5 (which x U e : Int) (N : Nat) (w : World) (hU : IntKind.u64.wrap which = U) (hm : U.tmod 7 = 5) (m63 : bits .and .i64 x 63 = e) (e0 : 0 ≤ e) (e1 : e < 64) (m7 : bits .and .i64 x 7 = (N : Int)) (hN : N ≤ 7) :
    Calls Try.prog 5 #[.int .i64 which, .int .i64 x] w fun e w' => e = .returned (.bool true) ∧ Below w.heap.size w w' := by
  have HNO : Hid (∀ D, addE (N + 1) D ⟨1, 5, 7, ⟨#[0]⟩, ⟨#[1, 97, 0]⟩, ⟨#[1, 97, 0]⟩, (1 - (1 + e)), 9⟩ = 1900 ∧ addD (N + 1) D ⟨1, 5, 7, ⟨#[0]⟩, ⟨#[1, 97, 0]⟩, ⟨#[1, 97, 0]⟩, (1 - (1 + e)), 9⟩ = D) := fun D => add_bad (wrong_if (.inr (.inr (.inr (.inr (.inr (.inl (by show 1 - (1 + e) < 1; omega))))))))
  have HFAR : Hid (Far ⟨1, 5, 7, ⟨#[0]⟩, ⟨#[1, 97, 0]⟩, ⟨#[1, 97, 0]⟩, (1 - (1 + e)), 9⟩) := ⟨by show (1 : Nat) ≤ _; omega, by show (3 : Nat) ≤ _; omega, by show (3 : Nat) ≤ _; omega⟩
  have t1 : True := trivial
  have t2 : True := trivial
  have t3 : True := trivial
  have t4 : True := trivial
  go_enter Try.func5, Try.ntmps5
  go_wp2_with (first
    | (go_at_call 11; go_must (refine (awake_any _).mono ?_); rintro e w1 ⟨rfl, b1⟩)
    | (go_at_call 8; have _t := t1; go_must (refine ((by have := lw_new b1 (N + 1) (by omega) (by omega); rw [show ((N + 1 : Nat) : Int) = 1 + (N : Int) from by omega] at this; exact this) : Calls Try.prog 8 #[.int .i64 (1 + (N : Int))] w1 fun e w' => ∃ gs, e = .returned (.tuple #[.pointer (some ⟨gs, 0, none⟩), .int .i64 0]) ∧ LW w w' gs (N + 1) 0 [] ∧ Below w1.heap.size w1 w').mono ?_); rintro e w2 ⟨gs, rfl, s2, _⟩; clear t1)
    | (go_at_call 22; have _t := t2; go_must (refine (asked_any 1 5 7 9 _).mono ?_); rintro e w3 ⟨rfl, b3⟩; have s3 := (s2.below b3).below (lay (Below.refl _ _) (.cells #[.int .i64 1, .int .i64 5, .int .i64 7, .string ⟨#[0]⟩, .string ⟨#[1, 97, 0]⟩, .string ⟨#[1, 97, 0]⟩, .int .i64 (1 - (1 + e)), .int .i64 9] 35)); have k3 := Blk.new w3 #[.int .i64 1, .int .i64 5, .int .i64 7, .string ⟨#[0]⟩, .string ⟨#[1, 97, 0]⟩, .string ⟨#[1, 97, 0]⟩, .int .i64 (1 - (1 + e)), .int .i64 9] 35; have ha1 := s3.add (by decide) 1 5 7 ⟨#[0]⟩ ⟨#[1, 97, 0]⟩ ⟨#[1, 97, 0]⟩ (1 - (1 + e)) 9 HFAR.out 1900 _ (HNO.out []).1 (HNO.out []).2; clear t2 s2 b3)
    | (go_at_call 12; have _t := t3; go_must (refine ha1.mono ?_); rintro e w4 ⟨rfl, s4, p4⟩; have k4 := p4.blk _ _ _ (by decide) (by decide) k3; clear t3 ha1 k3 s3 p4))
  have HS0 : Hid (LW w w4 gs (N + 1) (0 + 1 + 0) (fmD 0) ∧ Blk w4 w3.heap.size #[.int .i64 1, .int .i64 5, .int .i64 7, .string ⟨#[0]⟩, .string ⟨#[1, 97, 0]⟩, .string ⟨#[1, 97, 0]⟩, .int .i64 (1 - (1 + e)), .int .i64 9] 35) := ⟨s4, k4⟩
  clear s4 k4
  go_loopw [10] (fun i wr => ∃ q : Nat, q ≤ N + 1 ∧ i = .int .i64 (q : Int) ∧ Hid (LW w wr gs (N + 1) (0 + 1 + q) (fmD q) ∧ Blk wr w3.heap.size #[.int .i64 1, .int .i64 5, .int .i64 7, .string ⟨#[0]⟩, .string ⟨#[1, 97, 0]⟩, .string ⟨#[1, 97, 0]⟩, .int .i64 (1 - (1 + e)), .int .i64 9] 35)) (fun i _ => N + 1 - (intOf i).toNat)
  case atStart => exact ⟨0, Nat.zero_le _, rfl, HS0⟩
  case round =>
    obtain ⟨q, hq, rfl, HS⟩ := hrel
    clear HS0
    by_cases hqN : q ≤ N
    · have hqN' : (q : Int) ≤ (N : Int) := by omega
      have HA : Hid (addE (N + 1) (fmD q) (awA (q : Int) (q : Int) 7 9) = 0 ∧ addD (N + 1) (fmD q) (awA (q : Int) (q : Int) 7 9) = fmD (q + 1)) := by
        have := add_ok (most := N + 1) (D := fmD q) (j := (q : Int)) (i := (q : Int)) (u := 9) (by omega) (by omega) (by rw [fmD_len]; omega)
        rw [← fmD_next] at this
        exact this
      go_wp2_with (first
        | (go_at_call 10; refine (num_any _ _).mono ?_; rintro e w' ⟨rfl, hw⟩; obtain rfl := hw.symm)
        | (go_at_call 22; go_must (refine (asked_any (q : Int) (q : Int) 7 9 _).mono ?_); rintro e w5 ⟨rfl, b5⟩; have s5 := HS.out.1.below b5; have k5 := HS.out.2.below b5; have ha2 := s5.add (by omega) (q : Int) (q : Int) 7 ⟨#[0]⟩ ⟨#[1, 97, 0]⟩ ⟨#[1, 97, 0]⟩ 1 9 (awA_far _ _ _ _) 0 _ HA.out.1 HA.out.2)
        | (go_at_call 12; go_must (refine ha2.mono ?_); rintro e w6 ⟨rfl, s6, p6⟩; have k6 := p6.blk _ _ _ (by decide) (by decide) k5))
      have HS6 : Hid (LW w w6 gs (N + 1) (0 + 1 + (q + 1)) (fmD (q + 1)) ∧ Blk w6 w3.heap.size #[.int .i64 1, .int .i64 5, .int .i64 7, .string ⟨#[0]⟩, .string ⟨#[1, 97, 0]⟩, .string ⟨#[1, 97, 0]⟩, .int .i64 (1 - (1 + e)), .int .i64 9] 35) := ⟨s6, k6⟩
      clear s6 k6 p6 s5 k5 b5 ha2 HS
      go_roundw
      case rel => exact ⟨q + 1, by omega, by go_num, HS6⟩
      case measure => simp [intOf]; omega
    · have hqN' : decide ((q : Int) ≤ (N : Int)) = false := by simp; omega
      have HE : Hid (LW w wr gs (N + 1) (0 + 1 + (N + 1)) (fmD (N + 1)) ∧ Blk wr w3.heap.size #[.int .i64 1, .int .i64 5, .int .i64 7, .string ⟨#[0]⟩, .string ⟨#[1, 97, 0]⟩, .string ⟨#[1, 97, 0]⟩, .int .i64 (1 - (1 + e)), .int .i64 9] 35) := by rw [show N + 1 = q from by omega]; rw [show N + 1 = q from by omega] at HS; exact HS
      have HM : Hid (addE (N + 1) (fmD (N + 1)) (awA 1 5 7 9) = 1901 ∧ addD (N + 1) (fmD (N + 1)) (awA 1 5 7 9) = fmD (N + 1)) := add_more (aw_ok (by decide) (by decide)) (fmD_len _)
      have HL : Hid ((fmD (N + 1)).length = 1 + N) := by unfold Hid; rw [fmD_len]; omega
      clear HS
      have t5 : True := trivial
      have t6 : True := trivial
      have t7 : True := trivial
      go_wp2_with (first
        | (go_at_call 10; refine (num_any _ _).mono ?_; rintro e w' ⟨rfl, hw⟩; obtain rfl := hw.symm)
        | (go_at_call 22; go_must (refine (asked_any 1 5 7 9 _).mono ?_); rintro e w5 ⟨rfl, b5⟩; have s5 := HE.out.1.below b5; have k5 := HE.out.2.below b5; have ha2 := s5.add (by omega) 1 5 7 ⟨#[0]⟩ ⟨#[1, 97, 0]⟩ ⟨#[1, 97, 0]⟩ 1 9 (awA_far _ _ _ _) 1901 _ HM.out.1 HM.out.2)
        | (go_at_call 12; have _t := t5; go_must (refine ha2.mono ?_); rintro e w6 ⟨rfl, s6, p6⟩; have k6 := p6.blk _ _ _ (by decide) (by decide) k5; have ha3 := s6.add (by omega) 1 5 7 ⟨#[0]⟩ ⟨#[1, 97, 0]⟩ ⟨#[1, 97, 0]⟩ (1 - (1 + e)) 9 HFAR.out 1900 _ (HNO.out _).1 (HNO.out _).2; clear t5)
        | (refine wpList_loadS _ rfl (.tmp 8) 35 rfl w3.heap.size _ 35 rfl k6 ⟨_, Try.underlying35⟩ (by kernel_rfl) ?_)
        | (go_at_call 12; go_must (refine ha3.mono ?_); rintro e w7 ⟨rfl, s7, _⟩; have hal := s7.all (1 + N) HL.out)
        | (go_at_call 8; have _t := t6; go_must (refine (new_no (1 - (1 + e)) _ (by omega)).mono ?_); rintro e w' ⟨rfl, hw⟩; obtain rfl := hw.symm; clear t6)
        | (go_at_call 8; go_must (refine (new_no (16 + (1 + e)) _ (by omega)).mono ?_); rintro e w' ⟨rfl, hw⟩; obtain rfl := hw.symm)
        | (go_at_call 20; go_must (refine hal.mono ?_); rintro e w8 ⟨y8, c8, rfl, _, s8, _⟩))
      go_ret
      exact ⟨rfl, s8.bel⟩

set_option maxRecDepth 20000 in
set_option maxHeartbeats 4000000 in
theorem tf6 (which x U e : Int) (N : Nat) (w : World) (hU : IntKind.u64.wrap which = U) (hm : U.tmod 7 = 6) (m63 : bits .and .i64 x 63 = e) (e0 : 0 ≤ e) (e1 : e < 64) (m7 : bits .and .i64 x 7 = (N : Int)) (hN : N ≤ 7) :
    Calls Try.prog 5 #[.int .i64 which, .int .i64 x] w fun e w' => e = .returned (.bool true) ∧ Below w.heap.size w w' := by
  have HNO : Hid (∀ D, addE (N + 1) D ⟨1, 5, 7, ⟨#[0]⟩, ⟨#[1, 97, 0]⟩, ⟨#[1, 97, 0]⟩, (65535 + (1 + e)), 9⟩ = 1900 ∧ addD (N + 1) D ⟨1, 5, 7, ⟨#[0]⟩, ⟨#[1, 97, 0]⟩, ⟨#[1, 97, 0]⟩, (65535 + (1 + e)), 9⟩ = D) := fun D => add_bad (wrong_if (.inr (.inr (.inr (.inr (.inr (.inr (by show 65535 < 65535 + (1 + e); omega))))))))
  have HFAR : Hid (Far ⟨1, 5, 7, ⟨#[0]⟩, ⟨#[1, 97, 0]⟩, ⟨#[1, 97, 0]⟩, (65535 + (1 + e)), 9⟩) := ⟨by show (1 : Nat) ≤ _; omega, by show (3 : Nat) ≤ _; omega, by show (3 : Nat) ≤ _; omega⟩
  have t1 : True := trivial
  have t2 : True := trivial
  have t3 : True := trivial
  have t4 : True := trivial
  go_enter Try.func5, Try.ntmps5
  go_wp2_with (first
    | (go_at_call 11; go_must (refine (awake_any _).mono ?_); rintro e w1 ⟨rfl, b1⟩)
    | (go_at_call 8; have _t := t1; go_must (refine ((by have := lw_new b1 (N + 1) (by omega) (by omega); rw [show ((N + 1 : Nat) : Int) = 1 + (N : Int) from by omega] at this; exact this) : Calls Try.prog 8 #[.int .i64 (1 + (N : Int))] w1 fun e w' => ∃ gs, e = .returned (.tuple #[.pointer (some ⟨gs, 0, none⟩), .int .i64 0]) ∧ LW w w' gs (N + 1) 0 [] ∧ Below w1.heap.size w1 w').mono ?_); rintro e w2 ⟨gs, rfl, s2, _⟩; clear t1)
    | (go_at_call 22; have _t := t2; go_must (refine (asked_any 1 5 7 9 _).mono ?_); rintro e w3 ⟨rfl, b3⟩; have s3 := (s2.below b3).below (lay (Below.refl _ _) (.cells #[.int .i64 1, .int .i64 5, .int .i64 7, .string ⟨#[0]⟩, .string ⟨#[1, 97, 0]⟩, .string ⟨#[1, 97, 0]⟩, .int .i64 (65535 + (1 + e)), .int .i64 9] 35)); have k3 := Blk.new w3 #[.int .i64 1, .int .i64 5, .int .i64 7, .string ⟨#[0]⟩, .string ⟨#[1, 97, 0]⟩, .string ⟨#[1, 97, 0]⟩, .int .i64 (65535 + (1 + e)), .int .i64 9] 35; have ha1 := s3.add (by decide) 1 5 7 ⟨#[0]⟩ ⟨#[1, 97, 0]⟩ ⟨#[1, 97, 0]⟩ (65535 + (1 + e)) 9 HFAR.out 1900 _ (HNO.out []).1 (HNO.out []).2; clear t2 s2 b3)
    | (go_at_call 12; have _t := t3; go_must (refine ha1.mono ?_); rintro e w4 ⟨rfl, s4, p4⟩; have k4 := p4.blk _ _ _ (by decide) (by decide) k3; clear t3 ha1 k3 s3 p4))
  have HS0 : Hid (LW w w4 gs (N + 1) (0 + 1 + 0) (fmD 0) ∧ Blk w4 w3.heap.size #[.int .i64 1, .int .i64 5, .int .i64 7, .string ⟨#[0]⟩, .string ⟨#[1, 97, 0]⟩, .string ⟨#[1, 97, 0]⟩, .int .i64 (65535 + (1 + e)), .int .i64 9] 35) := ⟨s4, k4⟩
  clear s4 k4
  go_loopw [10] (fun i wr => ∃ q : Nat, q ≤ N + 1 ∧ i = .int .i64 (q : Int) ∧ Hid (LW w wr gs (N + 1) (0 + 1 + q) (fmD q) ∧ Blk wr w3.heap.size #[.int .i64 1, .int .i64 5, .int .i64 7, .string ⟨#[0]⟩, .string ⟨#[1, 97, 0]⟩, .string ⟨#[1, 97, 0]⟩, .int .i64 (65535 + (1 + e)), .int .i64 9] 35)) (fun i _ => N + 1 - (intOf i).toNat)
  case atStart => exact ⟨0, Nat.zero_le _, rfl, HS0⟩
  case round =>
    obtain ⟨q, hq, rfl, HS⟩ := hrel
    clear HS0
    by_cases hqN : q ≤ N
    · have hqN' : (q : Int) ≤ (N : Int) := by omega
      have HA : Hid (addE (N + 1) (fmD q) (awA (q : Int) (q : Int) 7 9) = 0 ∧ addD (N + 1) (fmD q) (awA (q : Int) (q : Int) 7 9) = fmD (q + 1)) := by
        have := add_ok (most := N + 1) (D := fmD q) (j := (q : Int)) (i := (q : Int)) (u := 9) (by omega) (by omega) (by rw [fmD_len]; omega)
        rw [← fmD_next] at this
        exact this
      go_wp2_with (first
        | (go_at_call 10; refine (num_any _ _).mono ?_; rintro e w' ⟨rfl, hw⟩; obtain rfl := hw.symm)
        | (go_at_call 22; go_must (refine (asked_any (q : Int) (q : Int) 7 9 _).mono ?_); rintro e w5 ⟨rfl, b5⟩; have s5 := HS.out.1.below b5; have k5 := HS.out.2.below b5; have ha2 := s5.add (by omega) (q : Int) (q : Int) 7 ⟨#[0]⟩ ⟨#[1, 97, 0]⟩ ⟨#[1, 97, 0]⟩ 1 9 (awA_far _ _ _ _) 0 _ HA.out.1 HA.out.2)
        | (go_at_call 12; go_must (refine ha2.mono ?_); rintro e w6 ⟨rfl, s6, p6⟩; have k6 := p6.blk _ _ _ (by decide) (by decide) k5))
      have HS6 : Hid (LW w w6 gs (N + 1) (0 + 1 + (q + 1)) (fmD (q + 1)) ∧ Blk w6 w3.heap.size #[.int .i64 1, .int .i64 5, .int .i64 7, .string ⟨#[0]⟩, .string ⟨#[1, 97, 0]⟩, .string ⟨#[1, 97, 0]⟩, .int .i64 (65535 + (1 + e)), .int .i64 9] 35) := ⟨s6, k6⟩
      clear s6 k6 p6 s5 k5 b5 ha2 HS
      go_roundw
      case rel => exact ⟨q + 1, by omega, by go_num, HS6⟩
      case measure => simp [intOf]; omega
    · have hqN' : decide ((q : Int) ≤ (N : Int)) = false := by simp; omega
      have HE : Hid (LW w wr gs (N + 1) (0 + 1 + (N + 1)) (fmD (N + 1)) ∧ Blk wr w3.heap.size #[.int .i64 1, .int .i64 5, .int .i64 7, .string ⟨#[0]⟩, .string ⟨#[1, 97, 0]⟩, .string ⟨#[1, 97, 0]⟩, .int .i64 (65535 + (1 + e)), .int .i64 9] 35) := by rw [show N + 1 = q from by omega]; rw [show N + 1 = q from by omega] at HS; exact HS
      have HM : Hid (addE (N + 1) (fmD (N + 1)) (awA 1 5 7 9) = 1901 ∧ addD (N + 1) (fmD (N + 1)) (awA 1 5 7 9) = fmD (N + 1)) := add_more (aw_ok (by decide) (by decide)) (fmD_len _)
      have HL : Hid ((fmD (N + 1)).length = 1 + N) := by unfold Hid; rw [fmD_len]; omega
      clear HS
      have t5 : True := trivial
      have t6 : True := trivial
      have t7 : True := trivial
      go_wp2_with (first
        | (go_at_call 10; refine (num_any _ _).mono ?_; rintro e w' ⟨rfl, hw⟩; obtain rfl := hw.symm)
        | (go_at_call 22; go_must (refine (asked_any 1 5 7 9 _).mono ?_); rintro e w5 ⟨rfl, b5⟩; have s5 := HE.out.1.below b5; have k5 := HE.out.2.below b5; have ha2 := s5.add (by omega) 1 5 7 ⟨#[0]⟩ ⟨#[1, 97, 0]⟩ ⟨#[1, 97, 0]⟩ 1 9 (awA_far _ _ _ _) 1901 _ HM.out.1 HM.out.2)
        | (go_at_call 12; have _t := t5; go_must (refine ha2.mono ?_); rintro e w6 ⟨rfl, s6, p6⟩; have k6 := p6.blk _ _ _ (by decide) (by decide) k5; have ha3 := s6.add (by omega) 1 5 7 ⟨#[0]⟩ ⟨#[1, 97, 0]⟩ ⟨#[1, 97, 0]⟩ (65535 + (1 + e)) 9 HFAR.out 1900 _ (HNO.out _).1 (HNO.out _).2; clear t5)
        | (refine wpList_loadS _ rfl (.tmp 8) 35 rfl w3.heap.size _ 35 rfl k6 ⟨_, Try.underlying35⟩ (by kernel_rfl) ?_)
        | (go_at_call 12; go_must (refine ha3.mono ?_); rintro e w7 ⟨rfl, s7, _⟩; have hal := s7.all (1 + N) HL.out)
        | (go_at_call 8; have _t := t6; go_must (refine (new_no (1 - (1 + e)) _ (by omega)).mono ?_); rintro e w' ⟨rfl, hw⟩; obtain rfl := hw.symm; clear t6)
        | (go_at_call 8; go_must (refine (new_no (16 + (1 + e)) _ (by omega)).mono ?_); rintro e w' ⟨rfl, hw⟩; obtain rfl := hw.symm)
        | (go_at_call 20; go_must (refine hal.mono ?_); rintro e w8 ⟨y8, c8, rfl, _, s8, _⟩))
      go_ret
      exact ⟨rfl, s8.bel⟩

end Ou
end Go.Proofs.Ytbldoplemfjcjaa
