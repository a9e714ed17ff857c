/- What the document's DataMay, wide, A, Addr, Mx and Host give. -/
import Derived.Test.YtdaegnmokaibpaaRdJ
namespace Go.Proofs.Ytdaegnmokaibpaa
open Go.RowKit
open Pl

set_option maxRecDepth 20000 in
set_option maxHeartbeats 1000000 in
theorem dataMay_any (t : Int) (s : ByteArray) (w : World) (hs : s.size ≤ maxLen) :
    Calls Try.prog 31 #[.int .i64 t, .string s] w fun e w' => e = .returned (.bool (mayD t s.data.toList)) ∧ Below w.heap.size w w' := by
  have hm := hs
  unfold maxLen at hs
  have hl := data_len s
  have hb : Below w.heap.size w w := Below.refl _ _
  by_cases p1 : 1 ≤ t
  · have q1 : decide (t < 1) = false := by simpa using p1
    by_cases p2 : t ≤ 65535
    · have q2 : decide (65535 < t) = false := by simpa using p2
      by_cases p3 : s.size ≤ 65535
      · have q3 : decide ((65535 : Int) < (s.size : Int)) = false := by simp; omega
        rcases kinds t with rfl | rfl | h | rfl | rfl | rfl | h
        · have HR : Hid (mayD 1 s.data.toList = ((s.size : Int) == 4)) := by unfold Hid; rw [may_1, Bool.eq_iff_iff]; simp; omega
          clear p1 p2 q1 q2
          go_enter Try.func31, Try.ntmps31
          go_wp2
          go_ret
          exact ⟨ret_bool HR.out.symm, hb⟩
        · have HR : Hid (mayD 28 s.data.toList = ((s.size : Int) == 16)) := by unfold Hid; rw [may_28, Bool.eq_iff_iff]; simp; omega
          clear p1 p2 q1 q2
          go_enter Try.func31, Try.ntmps31
          go_wp2
          go_ret
          exact ⟨ret_bool HR.out.symm, hb⟩
        · have HR := may_n h s.data.toList
          rw [HR]
          rcases h with rfl | rfl | rfl
          all_goals
            clear p1 p2 q1 q2
            go_enter Try.func31, Try.ntmps31
            go_wp2_with (go_at_call 29; go_must (refine (refMay_any _ _ hm).mono ?_); rintro e w1 ⟨rfl, b1⟩)
            go_ret
            exact ⟨rfl, b1⟩
        · clear p1 p2 q1 q2
          by_cases h2 : 2 < s.size
          · have hcut := cut_rest s 2 2 rfl (by omega)
            obtain ⟨r, hr⟩ : ∃ r, isName (s.extract 2 s.size).data.toList = r := ⟨_, rfl⟩
            have HR : Hid (mayD 15 s.data.toList = r) := by unfold Hid; rw [← hr, may_15, ext_from]; simp; omega
            have h2' : (2 : Int) < (s.size : Int) := by omega
            go_enter Try.func31, Try.ntmps31
            go_wp2_with (go_at_call 29; go_must (refine (refMay_as _ r _ (by unfold maxLen; simp; omega) hr).mono ?_); rintro e w1 ⟨rfl, b1⟩)
            go_ret
            exact ⟨ret_bool HR.out.symm, b1⟩
          · have HR : Hid (mayD 15 s.data.toList = false) := by unfold Hid; rw [may_15]; simp; omega
            have h2' : decide ((2 : Int) < (s.size : Int)) = false := by simp; omega
            go_enter Try.func31, Try.ntmps31
            go_wp2
            go_ret
            exact ⟨ret_bool HR.out.symm, hb⟩
        · clear p1 p2 q1 q2
          rw [may_6]
          have k0 := fun u => whole_any s 0 u p3 (Nat.zero_le _)
          cases hc : cutL s.data.toList with
          | none =>
            rw [soa_cut hc]
            have e0 : wholeI s.data.toList 0 = -1 := whole_none (by rw [List.drop_zero]; exact hc)
            rw [e0] at k0
            go_enter Try.func31, Try.ntmps31
            go_wp2_with (go_at_call 45; go_must (refine (k0 _).mono ?_); rintro e w1 ⟨rfl, b1⟩)
            go_ret
            exact ⟨rfl, b1⟩
          | some a =>
            have ca := cut_some hc
            rw [hl] at ca
            have e0 : wholeI s.data.toList 0 = (a : Int) := by rw [whole_some (k := 0) (e := a) (by rw [List.drop_zero]; exact hc)]; omega
            rw [e0] at k0
            have k1 := fun u => whole_any s a u p3 ca.2.1
            have ha0 : decide ((a : Int) < 0) = false := by simp
            cases hc2 : cutL (s.data.toList.drop a) with
            | none =>
              rw [soa_cut2 hc hc2]
              rw [whole_none hc2] at k1
              go_enter Try.func31, Try.ntmps31
              go_wp2_with (first
                | (go_at_call_of 45 (#[Value.string s, Value.int IntKind.i64 0]); go_must (refine (k0 _).mono ?_); rintro e w1 ⟨rfl, b1⟩; replace hb := next hb b1; clear b1)
                | (go_at_call 45; go_must (refine (k1 _).mono ?_); rintro e w2 ⟨rfl, b1⟩; replace hb := next hb b1; clear b1))
              go_ret
              exact ⟨rfl, hb⟩
            | some b =>
              have cb := cut_some hc2
              rw [List.length_drop, hl] at cb
              rw [whole_some hc2] at k1
              have HR : Hid ((soaL s.data.toList).isSome = ((s.size : Int) == (a : Int) + (b : Int) + 20)) := by
                unfold Hid
                rw [soa_at hc hc2, hl]
                by_cases e : s.size = a + b + 20
                · rw [if_pos e, Bool.eq_iff_iff]; simp; omega
                · rw [if_neg e, Bool.eq_iff_iff]; simp; omega
              have hab : (0 : Int) ≤ (a : Int) + (b : Int) := by omega
              go_enter Try.func31, Try.ntmps31
              go_wp2_with (first
                | (go_at_call_of 45 (#[Value.string s, Value.int IntKind.i64 0]); go_must (refine (k0 _).mono ?_); rintro e w1 ⟨rfl, b1⟩; replace hb := next hb b1; clear b1)
                | (go_at_call 45; go_must (refine (k1 _).mono ?_); rintro e w2 ⟨rfl, b1⟩; replace hb := next hb b1; clear b1))
              go_ret
              exact ⟨ret_bool HR.out.symm, hb⟩
        · have HR : Hid (mayD 16 s.data.toList = texts s.data.toList) := by unfold Hid; rw [may_16]; simp; omega
          clear p1 p2 q1 q2
          go_enter Try.func31, Try.ntmps31
          go_wp2_with (go_at_call 46; go_must (refine (refTexts_any _ _ p3).mono ?_); rintro e w' ⟨rfl, hw⟩; obtain rfl := hw.symm)
          go_ret
          exact ⟨ret_bool HR.out.symm, hb⟩
        · have HR : Hid (mayD t s.data.toList = true) := by unfold Hid; rw [may_o h]; simp; omega
          obtain ⟨h1, h2, h3, h4, h5, h6, h7, h8⟩ := other_tests h
          clear h
          go_enter Try.func31, Try.ntmps31
          go_wp2
          go_ret
          exact ⟨ret_bool HR.out.symm, hb⟩
      · have q3 : (65535 : Int) < (s.size : Int) := by omega
        have HR : Hid (mayD t s.data.toList = false) := may_long t (by omega)
        go_enter Try.func31, Try.ntmps31
        go_wp2
        go_ret
        exact ⟨ret_bool HR.out.symm, hb⟩
    · have q2 : 65535 < t := by omega
      have HR : Hid (mayD t s.data.toList = false) := may_none (.inr q2) _
      go_enter Try.func31, Try.ntmps31
      go_wp2
      go_ret
      exact ⟨ret_bool HR.out.symm, hb⟩
  · have q1 : t < 1 := by omega
    have HR : Hid (mayD t s.data.toList = false) := may_none (.inl q1) _
    go_enter Try.func31, Try.ntmps31
    go_wp2
    go_ret
    exact ⟨ret_bool HR.out.symm, hb⟩

theorem dataMay_as (t : Int) (s : ByteArray) (r : Bool) (w : World) (hs : s.size ≤ maxLen) (h : mayD t s.data.toList = r) :
    Calls Try.prog 31 #[.int .i64 t, .string s] w fun e w' => e = .returned (.bool r) ∧ Below w.heap.size w w' := by rw [← h]; exact dataMay_any t s w hs

theorem wide_any (x : Int) (w : World) : Calls Try.prog 30 #[.int .i64 x] w fun e w' => e = .returned (.bool (inB 4294967295 x)) ∧ w' = w := by
  by_cases h0 : 0 ≤ x
  · have HR : Hid (inB 4294967295 x = decide (x ≤ 4294967295)) := by unfold Hid inB; rw [Bool.eq_iff_iff]; simp; omega
    go_enter Try.func30, Try.ntmps30
    go_wp2
    go_ret
    exact ⟨ret_bool HR.out.symm, rfl⟩
  · have HR : Hid (inB 4294967295 x = false) := by unfold Hid inB; simp; omega
    have h0' : decide (0 ≤ x) = false := by simpa using h0
    go_enter Try.func30, Try.ntmps30
    go_wp2
    go_ret
    exact ⟨ret_bool HR.out.symm, rfl⟩
theorem wide_as (x : Int) (r : Bool) (w : World) (h : inB 4294967295 x = r) : Calls Try.prog 30 #[.int .i64 x] w fun e w' => e = .returned (.bool r) ∧ w' = w := by rw [← h]; exact wide_any x w

end Go.Proofs.Ytdaegnmokaibpaa
