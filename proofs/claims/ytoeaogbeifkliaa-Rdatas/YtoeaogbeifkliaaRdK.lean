/- What the document's DataMay, wide, A, Addr, Mx and Host give. -/
import Derived.Test.YtoeaogbeifkliaaRdJ
namespace Go.Proofs.Ytoeaogbeifkliaa
open Go.RowKit
open Pl

set_option maxRecDepth 20000 in
set_option maxHeartbeats 1000000 in
theorem dataMay_any (t : Int) (s : ByteArray) (w : World) (hs : s.size ≤ maxLen) :
    Calls Try.prog 18 #[.int .i64 t, .string s] w fun e w' => e = .returned (.bool (mayD t s.data.toList)) ∧ Below w.heap.size w w' := by
  have hm := hs
  unfold maxLen at hs
  have hl := data_len s
  have hb : Below w.heap.size w w := Below.refl _ _
  by_cases p1 : 1 ≤ t
  · have q1 : decide (t < 1) = false := by simpa using p1
    by_cases p2 : t ≤ 65535
    · have q2 : decide (65535 < t) = false := by simpa using p2
      by_cases p3 : s.size ≤ 65535
      · have q3 : decide ((65535 : Int) < (s.size : Int)) = false := by simp; omega
        rcases kinds t with rfl | rfl | h | rfl | rfl | rfl | h
        · have HR : Hid (mayD 1 s.data.toList = ((s.size : Int) == 4)) := by unfold Hid; rw [may_1, Bool.eq_iff_iff]; simp; omega
          clear p1 p2 q1 q2
          go_enter Try.func18, Try.ntmps18
          go_wp2
          go_ret
          exact ⟨ret_bool HR.out.symm, hb⟩
        · have HR : Hid (mayD 28 s.data.toList = ((s.size : Int) == 16)) := by unfold Hid; rw [may_28, Bool.eq_iff_iff]; simp; omega
          clear p1 p2 q1 q2
          go_enter Try.func18, Try.ntmps18
          go_wp2
          go_ret
          exact ⟨ret_bool HR.out.symm, hb⟩
        · have HR := may_n h s.data.toList
          rw [HR]
          rcases h with rfl | rfl | rfl
          all_goals
            clear p1 p2 q1 q2
            go_enter Try.func18, Try.ntmps18
            go_wp2_with (go_at_call 28; go_must (refine (refMay_any _ _ hm).mono ?_); rintro e w1 ⟨rfl, b1⟩)
            go_ret
            exact ⟨rfl, b1⟩
        · clear p1 p2 q1 q2
          by_cases h2 : 2 < s.size
          · have hcut := cut_rest s 2 2 rfl (by omega)
            obtain ⟨r, hr⟩ : ∃ r, isName (s.extract 2 s.size).data.toList = r := ⟨_, rfl⟩
            have HR : Hid (mayD 15 s.data.toList = r) := by unfold Hid; rw [← hr, may_15, ext_from]; simp; omega
            have h2' : (2 : Int) < (s.size : Int) := by omega
            go_enter Try.func18, Try.ntmps18
            go_wp2_with (go_at_call 28; go_must (refine (refMay_as _ r _ (by unfold maxLen; simp; omega) hr).mono ?_); rintro e w1 ⟨rfl, b1⟩)
            go_ret
            exact ⟨ret_bool HR.out.symm, b1⟩
          · have HR : Hid (mayD 15 s.data.toList = false) := by unfold Hid; rw [may_15]; simp; omega
            have h2' : decide ((2 : Int) < (s.size : Int)) = false := by simp; omega
            go_enter Try.func18, Try.ntmps18
            go_wp2
            go_ret
            exact ⟨ret_bool HR.out.symm, hb⟩
        · clear p1 p2 q1 q2
          rw [may_6]
          have k0 := fun u => whole_any s 0 u p3 (Nat.zero_le _)
          cases hc : cutL s.data.toList with
          | none =>
            rw [soa_cut hc]
            have e0 : wholeI s.data.toList 0 = -1 := whole_none (by rw [List.drop_zero]; exact hc)
            rw [e0] at k0
            go_enter Try.func18, Try.ntmps18
            go_wp2_with (go_at_call 40; go_must (refine (k0 _).mono ?_); rintro e w1 ⟨rfl, b1⟩)
            go_ret
            exact ⟨rfl, b1⟩
          | some a =>
            have ca := cut_some hc
            rw [hl] at ca
            have e0 : wholeI s.data.toList 0 = (a : Int) := by rw [whole_some (k := 0) (e := a) (by rw [List.drop_zero]; exact hc)]; omega
            rw [e0] at k0
            have k1 := fun u => whole_any s a u p3 ca.2.1
            have ha0 : decide ((a : Int) < 0) = false := by simp
            cases hc2 : cutL (s.data.toList.drop a) with
            | none =>
              rw [soa_cut2 hc hc2]
              rw [whole_none hc2] at k1
              go_enter Try.func18, Try.ntmps18
              go_wp2_with (first
                | (go_at_call_of 40 (#[Value.string s, Value.int IntKind.i64 0]); go_must (refine (k0 _).mono ?_); rintro e w1 ⟨rfl, b1⟩; replace hb := next hb b1; clear b1)
                | (go_at_call 40; go_must (refine (k1 _).mono ?_); rintro e w2 ⟨rfl, b1⟩; replace hb := next hb b1; clear b1))
              go_ret
              exact ⟨rfl, hb⟩
            | some b =>
              have cb := cut_some hc2
              rw [List.length_drop, hl] at cb
              rw [whole_some hc2] at k1
              have HR : Hid ((soaL s.data.toList).isSome = ((s.size : Int) == (a : Int) + (b : Int) + 20)) := by
                unfold Hid
                rw [soa_at hc hc2, hl]
                by_cases e : s.size = a + b + 20
                · rw [if_pos e, Bool.eq_iff_iff]; simp; omega
                · rw [if_neg e, Bool.eq_iff_iff]; simp; omega
              have hab : (0 : Int) ≤ (a : Int) + (b : Int) := by omega
              go_enter Try.func18, Try.ntmps18
              go_wp2_with (first
                | (go_at_call_of 40 (#[Value.string s, Value.int IntKind.i64 0]); go_must (refine (k0 _).mono ?_); rintro e w1 ⟨rfl, b1⟩; replace hb := next hb b1; clear b1)
                | (go_at_call 40; go_must (refine (k1 _).mono ?_); rintro e w2 ⟨rfl, b1⟩; replace hb := next hb b1; clear b1))
              go_ret
              exact ⟨ret_bool HR.out.symm, hb⟩
        · have HR : Hid (mayD 16 s.data.toList = texts s.data.toList) := by unfold Hid; rw [may_16]; simp; omega
          clear p1 p2 q1 q2
          go_enter Try.func18, Try.ntmps18
          go_wp2_with (go_at_call 41; go_must (refine (refTexts_any _ _ p3).mono ?_); rintro e w' ⟨rfl, hw⟩; obtain rfl := hw.symm)
          go_ret
          exact ⟨ret_bool HR.out.symm, hb⟩
        · have HR : Hid (mayD t s.data.toList = true) := by unfold Hid; rw [may_o h]; simp; omega
          obtain ⟨h1, h2, h3, h4, h5, h6, h7, h8⟩ := other_tests h
          clear h
          go_enter Try.func18, Try.ntmps18
          go_wp2
          go_ret
          exact ⟨ret_bool HR.out.symm, hb⟩
      · have q3 : (65535 : Int) < (s.size : Int) := by omega
        have HR : Hid (mayD t s.data.toList = false) := may_long t (by omega)
        go_enter Try.func18, Try.ntmps18
        go_wp2
        go_ret
        exact ⟨ret_bool HR.out.symm, hb⟩
    · have q2 : 65535 < t := by omega
      have HR : Hid (mayD t s.data.toList = false) := may_none (.inr q2) _
      go_enter Try.func18, Try.ntmps18
      go_wp2
      go_ret
      exact ⟨ret_bool HR.out.symm, hb⟩
  · have q1 : t < 1 := by omega
    have HR : Hid (mayD t s.data.toList = false) := may_none (.inl q1) _
    go_enter Try.func18, Try.ntmps18
    go_wp2
    go_ret
    exact ⟨ret_bool HR.out.symm, hb⟩

theorem dataMay_as (t : Int) (s : ByteArray) (r : Bool) (w : World) (hs : s.size ≤ maxLen) (h : mayD t s.data.toList = r) :
    Calls Try.prog 18 #[.int .i64 t, .string s] w fun e w' => e = .returned (.bool r) ∧ Below w.heap.size w w' := by rw [← h]; exact dataMay_any t s w hs

theorem wide_any (x : Int) (w : World) : Calls Try.prog 31 #[.int .i64 x] w fun e w' => e = .returned (.bool (inB 4294967295 x)) ∧ w' = w := by
  by_cases h0 : 0 ≤ x
  · have HR : Hid (inB 4294967295 x = decide (x ≤ 4294967295)) := by unfold Hid inB; rw [Bool.eq_iff_iff]; simp; omega
    go_enter Try.func31, Try.ntmps31
    go_wp2
    go_ret
    exact ⟨ret_bool HR.out.symm, rfl⟩
  · have HR : Hid (inB 4294967295 x = false) := by unfold Hid inB; simp; omega
    have h0' : decide (0 ≤ x) = false := by simpa using h0
    go_enter Try.func31, Try.ntmps31
    go_wp2
    go_ret
    exact ⟨ret_bool HR.out.symm, rfl⟩
theorem wide_as (x : Int) (r : Bool) (w : World) (h : inB 4294967295 x = r) : Calls Try.prog 31 #[.int .i64 x] w fun e w' => e = .returned (.bool r) ∧ w' = w := by rw [← h]; exact wide_any x w

/-- What A gives. -/
def aD (x : Int) : Option ByteArray := if inB 4294967295 x = true then some (be4 x) else none
theorem a_any (x : Int) (w : World) : Calls Try.prog 8 #[.int .i64 x] w fun e w' => e = .returned (optT (aD x)) ∧ Below w.heap.size w w' := by
  unfold aD
  cases h : inB 4294967295 x with
  | true => exact a_yes x w h
  | false => exact a_no x w h
theorem refA_any (x : Int) (w : World) : Calls Try.prog 9 #[.int .i64 x] w fun e w' => e = .returned (optT (aD x)) ∧ Below w.heap.size w w' := by
  unfold aD
  cases h : inB 4294967295 x with
  | true =>
    go_enter Try.func9, Try.ntmps9
    go_wp2_with (first
      | (go_at_call 31; go_must (refine (wide_as x true _ h).mono ?_); rintro e w' ⟨rfl, hw⟩; obtain rfl := hw.symm)
      | (go_at_call 32; go_must (refine (be_four x _).mono ?_); rintro e w1 ⟨rfl, b1⟩))
    go_ret2
    exact ⟨rfl, b1⟩
  | false =>
    go_enter Try.func9, Try.ntmps9
    go_wp2_with (first
      | (go_at_call 31; go_must (refine (wide_as x false _ h).mono ?_); rintro e w' ⟨rfl, hw⟩; obtain rfl := hw.symm))
    go_ret2
    exact ⟨rfl, Below.refl _ _⟩

/-- What Addr gives. -/
def addrT (s : ByteArray) : Value := if s.size = 4 then .tuple #[.int .i64 (val s 0 4), .int .i64 0] else .tuple #[.int .i64 0, .int .i64 400]
theorem addr_any (s : ByteArray) (w : World) (hs : s.size ≤ maxLen) : Calls Try.prog 10 #[.string s] w fun e w' => e = .returned (addrT s) ∧ Below w.heap.size w w' := by
  unfold addrT
  by_cases h : s.size = 4
  · rw [if_pos h, val_four s 0 (by omega)]
    exact (addr_yes s w h).mono fun _ _ ⟨h1, h2⟩ => ⟨h1, below_drew h2⟩
  · rw [if_neg h]
    exact (addr_no s w hs h).mono fun _ _ ⟨h1, h2⟩ => ⟨h1, below_drew h2⟩
theorem refAddr_any (s : ByteArray) (w : World) (hs : s.size ≤ maxLen) : Calls Try.prog 11 #[.string s] w fun e w' => e = .returned (addrT s) ∧ Below w.heap.size w w' := by
  unfold addrT
  by_cases h : s.size = 4
  · rw [if_pos h]
    have hu := fun u => refNum_yes s 0 4 u hs (by decide) (by omega)
    have h' : ((s.size : Int) != 4) = false := by simp; omega
    clear h
    go_enter Try.func11, Try.ntmps11
    go_wp2_with (first
      | (go_at_call 34; go_must (refine (hu _).mono ?_); rintro e w' ⟨rfl, hw⟩; obtain rfl := hw.symm))
    go_ret2
    exact ⟨rfl, Below.refl _ _⟩
  · rw [if_neg h]
    unfold maxLen at hs
    have h' : ((s.size : Int) != 4) = true := by simp; omega
    clear h
    go_enter Try.func11, Try.ntmps11
    go_wp2
    go_ret2
    exact ⟨rfl, Below.refl _ _⟩

/-- What Mx gives. -/
def mxD (x : Int) (h : ByteArray) : Option ByteArray := if (inB 65535 x && isName h.data.toList) = true then some (be2 x ++ h) else none
theorem mx_any (x : Int) (h : ByteArray) (w : World) (hs : h.size ≤ maxLen) : Calls Try.prog 12 #[.int .i64 x, .string h] w fun e w' => e = .returned (optT (mxD x h)) ∧ Below w.heap.size w w' := by
  unfold mxD
  cases hv : (inB 65535 x && isName h.data.toList) with
  | true =>
    rw [if_pos rfl]
    rw [Bool.and_eq_true] at hv
    exact mx_yes x h w hv.1 hv.2
  | false => exact mx_no x h w hs hv
theorem refMx_any (x : Int) (h : ByteArray) (w : World) (hs : h.size ≤ maxLen) : Calls Try.prog 13 #[.int .i64 x, .string h] w fun e w' => e = .returned (optT (mxD x h)) ∧ Below w.heap.size w w' := by
  have hb : Below w.heap.size w w := Below.refl _ _
  by_cases h0 : 0 ≤ x
  · have h0' : decide (x < 0) = false := by simpa using h0
    by_cases h1 : x ≤ 65535
    · have h1' : decide (65535 < x) = false := by simpa using h1
      have hin : inB 65535 x = true := by unfold inB; rw [decide_eq_true_iff]; omega
      cases hn : isName h.data.toList with
      | true =>
        have HR : Hid (mxD x h = some (be2 x ++ h)) := if_pos (by rw [hin, hn]; rfl)
        have hz := name_size hn
        have hz2 : (be2 x).size + h.size ≤ 1000 := by have : (be2 x).size = 2 := rfl; omega
        clear hin
        go_enter Try.func13, Try.ntmps13
        go_wp2_with (first
          | (go_at_call 28; go_must (refine (refMay_as h true _ hs hn).mono ?_); rintro e w1 ⟨rfl, b1⟩; replace hb := next hb b1; clear b1)
          | (go_at_call 32; go_must (refine (be_two x _).mono ?_); rintro e w2 ⟨rfl, b1⟩; replace hb := next hb b1; clear b1))
        go_ret2
        exact ⟨ret_opt HR.out rfl, hb⟩
      | false =>
        have HR : Hid (mxD x h = none) := if_neg (by rw [hn]; simp)
        clear hin
        go_enter Try.func13, Try.ntmps13
        go_wp2_with (first
          | (go_at_call 28; go_must (refine (refMay_as h false _ hs hn).mono ?_); rintro e w1 ⟨rfl, b1⟩; replace hb := next hb b1; clear b1))
        go_ret2
        exact ⟨ret_opt HR.out rfl, hb⟩
    · have HR : Hid (mxD x h = none) := if_neg (by rw [show inB 65535 x = false from by unfold inB; rw [decide_eq_false_iff_not]; omega]; simp)
      have h1' : 65535 < x := by omega
      go_enter Try.func13, Try.ntmps13
      go_wp2
      go_ret2
      exact ⟨ret_opt HR.out rfl, hb⟩
  · have HR : Hid (mxD x h = none) := if_neg (by rw [show inB 65535 x = false from by unfold inB; rw [decide_eq_false_iff_not]; omega]; simp)
    have h0' : x < 0 := by omega
    go_enter Try.func13, Try.ntmps13
    go_wp2
    go_ret2
    exact ⟨ret_opt HR.out rfl, hb⟩

theorem refHost_any (t : Int) (s : ByteArray) (w : World) (hs : s.size ≤ maxLen) :
    Calls Try.prog 15 #[.int .i64 t, .string s] w fun e w' => e = .returned (optT (hostD t s)) ∧ Below w.heap.size w w' := by
  have hb : Below w.heap.size w w := Below.refl _ _
  by_cases h : t = 2 ∨ t = 5 ∨ t = 12
  · have hm := may_n h s.data.toList
    cases hn : isName s.data.toList with
    | true =>
      have HR : Hid (hostD t s = some s) := by unfold Hid hostD; rw [if_pos h, if_pos hn]
      rw [hn] at hm
      rcases h with rfl | rfl | rfl
      all_goals
        go_enter Try.func15, Try.ntmps15
        go_wp2_with (first
          | (go_at_call 18; go_must (refine (dataMay_as _ s true _ hs hm).mono ?_); rintro e w1 ⟨rfl, b1⟩; replace hb := next hb b1; clear b1))
        go_ret2
        exact ⟨ret_opt HR.out rfl, hb⟩
    | false =>
      have HR : Hid (hostD t s = none) := by unfold Hid hostD; rw [if_pos h, if_neg (by rw [hn]; simp)]
      rw [hn] at hm
      rcases h with rfl | rfl | rfl
      all_goals
        go_enter Try.func15, Try.ntmps15
        go_wp2_with (first
          | (go_at_call 18; go_must (refine (dataMay_as _ s false _ hs hm).mono ?_); rintro e w1 ⟨rfl, b1⟩; replace hb := next hb b1; clear b1))
        go_ret2
        exact ⟨ret_opt HR.out rfl, hb⟩
  · by_cases h2 : t = 15
    · cases hn : mayD 15 s.data.toList with
      | true =>
        have HR : Hid (hostD t s = some (s.extract 2 s.size)) := by unfold Hid hostD; rw [if_neg h, if_pos h2, if_pos hn]
        have hm2 := hn
        rw [may_15, Bool.and_eq_true] at hm2
        have hlt : 2 < s.size := by have := hm2.1; rw [data_len] at this; simpa using this
        have hcut := cut_rest s 2 2 rfl (by omega)
        clear hm2 h
        subst h2
        obtain ⟨t, ht⟩ : ∃ t, t = s.extract 2 s.size := ⟨_, rfl⟩
        rw [← ht] at hcut HR
        clear ht
        go_enter Try.func15, Try.ntmps15
        go_wp2_with (first
          | (go_at_call 18; go_must (refine (dataMay_as _ s true _ hs hn).mono ?_); rintro e w1 ⟨rfl, b1⟩; replace hb := next hb b1; clear b1))
        go_ret2
        exact ⟨ret_opt HR.out rfl, hb⟩
      | false =>
        have HR : Hid (hostD t s = none) := by unfold Hid hostD; rw [if_neg h, if_pos h2, if_neg (by rw [hn]; simp)]
        clear h
        subst h2
        go_enter Try.func15, Try.ntmps15
        go_wp2_with (first
          | (go_at_call 18; go_must (refine (dataMay_as _ s false _ hs hn).mono ?_); rintro e w1 ⟨rfl, b1⟩; replace hb := next hb b1; clear b1))
        go_ret2
        exact ⟨ret_opt HR.out rfl, hb⟩
    · have HR : Hid (hostD t s = none) := by unfold Hid hostD; rw [if_neg h, if_neg h2]
      have h3 : (t == 2) = false := by rw [beq_eq_false_iff_ne]; omega
      have h4 : (t == 5) = false := by rw [beq_eq_false_iff_ne]; omega
      have h5 : (t == 12) = false := by rw [beq_eq_false_iff_ne]; omega
      have h6 : (t == 15) = false := by rw [beq_eq_false_iff_ne]; omega
      clear h h2
      go_enter Try.func15, Try.ntmps15
      go_wp2
      go_ret2
      exact ⟨ret_opt HR.out rfl, hb⟩

end Go.Proofs.Ytoeaogbeifkliaa
