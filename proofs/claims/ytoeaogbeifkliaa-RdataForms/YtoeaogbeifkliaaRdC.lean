/- What A, Addr, Mx and Host of package rdata give, for every argument. -/
import Derived.Test.YtoeaogbeifkliaaRdB
namespace Go.Proofs.Ytoeaogbeifkliaa
open Go.RowKit
open Pl

/-- Is a number from 0 to top? -/
def inB (top x : Int) : Bool := decide (0 ≤ x ∧ x ≤ top)
theorem in_one (top x : Int) : allIn top [x] = inB top x := by simp [allIn, inB]

theorem within_one (top x : Int) (w : World) (g : Nat) (hg : w.cell? ⟨g, 0, none⟩ = some (.int .i64 x)) :
    Calls Try.prog 29 #[.int .i64 top, .slice (some ⟨g, 0, none⟩) 1 1] w fun e w' => e = .returned (.bool (inB top x)) ∧ w' = w := by
  rw [← in_one]
  refine within_any top ⟨g, 0, none⟩ 1 1 [x] w rfl (by decide) fun i hi => ?_
  have : i = 0 := by omega
  subst this
  exact hg
theorem new_cell (w : World) (x : Int) (t : TypeId) : (w.alloc (.cells #[.int .i64 x] t)).cell? ⟨w.heap.size, 0, none⟩ = some (.int .i64 x) := by
  rw [World.cell?_alloc_mark]; rfl

theorem a_yes (x : Int) (w : World) (h : inB 4294967295 x = true) :
    Calls Try.prog 8 #[.int .i64 x] w fun e w' => e = .returned (.tuple #[.string (be4 x), .int .i64 0]) ∧ Below w.heap.size w w' := by
  have hc := new_cell w x 3
  have hb : Below w.heap.size w (w.alloc (.cells #[.int .i64 x] 3)) := lay (Below.refl _ _) _
  go_enter Try.func8, Try.ntmps8
  go_wp2_with (first
    | (go_at_call 29; go_must (refine (within_one 4294967295 x _ _ hc).mono ?_); rintro e w' ⟨rfl, hw⟩; obtain rfl := hw.symm; rw [h])
    | (go_at_call 30; go_must (refine (put32_any x _).mono ?_); rintro e w1 ⟨rfl, b1⟩; replace hb := next hb b1; clear b1))
  go_ret2
  exact ⟨rfl, hb⟩
theorem a_no (x : Int) (w : World) (h : inB 4294967295 x = false) :
    Calls Try.prog 8 #[.int .i64 x] w fun e w' => e = .returned (.tuple #[.string ⟨#[]⟩, .int .i64 400]) ∧ Below w.heap.size w w' := by
  have hc := new_cell w x 3
  have hb : Below w.heap.size w (w.alloc (.cells #[.int .i64 x] 3)) := lay (Below.refl _ _) _
  go_enter Try.func8, Try.ntmps8
  go_wp2_with (first
    | (go_at_call 29; go_must (refine (within_one 4294967295 x _ _ hc).mono ?_); rintro e w' ⟨rfl, hw⟩; obtain rfl := hw.symm; rw [h]))
  go_ret2
  exact ⟨rfl, hb⟩

theorem may4_as (t : Int) (s : ByteArray) (r : Bool) (w : World) (hs : s.size ≤ maxLen) (h : mayD t s.data.toList = r) :
    Calls Try.prog 17 #[.int .i64 t, .string s] w fun e w' => e = .returned (.bool r) ∧ ∃ m, w' = w.drewN m := by rw [← h]; exact may4_any t s w hs

theorem addr_yes (s : ByteArray) (w : World) (h : s.size = 4) :
    Calls Try.prog 10 #[.string s] w fun e w' => e = .returned (.tuple #[.int .i64 (four s[0] s[1] s[2] s[3]), .int .i64 0]) ∧ ∃ m, w' = w.drewN m := by
  have hs : s.size ≤ maxLen := by unfold maxLen; omega
  have hm : mayD 1 s.data.toList = true := by rw [may_1, data_len]; simpa using h
  have hu := u32_yes s 0
  go_enter Try.func10, Try.ntmps10
  go_wp2_with (first
    | (go_at_call 17; go_must (refine (may4_as 1 s true _ hs hm).mono ?_); rintro e w1 ⟨rfl, b1⟩)
    | (go_at_call 33; go_must (refine (hu _ hs (by omega)).mono ?_); rintro e w2 ⟨rfl, b2⟩))
  go_ret2
  exact ⟨rfl, drew_next b1 b2⟩
theorem addr_no (s : ByteArray) (w : World) (hs : s.size ≤ maxLen) (h : s.size ≠ 4) :
    Calls Try.prog 10 #[.string s] w fun e w' => e = .returned (.tuple #[.int .i64 0, .int .i64 400]) ∧ ∃ m, w' = w.drewN m := by
  have hm : mayD 1 s.data.toList = false := by rw [may_1, data_len]; simpa using h
  clear h
  go_enter Try.func10, Try.ntmps10
  go_wp2_with (first
    | (go_at_call 17; go_must (refine (may4_as 1 s false _ hs hm).mono ?_); rintro e w1 ⟨rfl, b1⟩))
  go_ret2
  exact ⟨rfl, b1⟩

theorem mx_yes (x : Int) (h : ByteArray) (w : World) (hx : inB 65535 x = true) (hn : isName h.data.toList = true) :
    Calls Try.prog 12 #[.int .i64 x, .string h] w fun e w' => e = .returned (.tuple #[.string (be2 x ++ h), .int .i64 0]) ∧ Below w.heap.size w w' := by
  have hz := name_size hn
  have hs : h.size ≤ maxLen := by unfold maxLen; omega
  have hz2 : (be2 x).size + h.size ≤ 1000 := by have : (be2 x).size = 2 := rfl; omega
  have hc := new_cell w x 3
  have hb : Below w.heap.size w (w.alloc (.cells #[.int .i64 x] 3)) := lay (Below.refl _ _) _
  go_enter Try.func12, Try.ntmps12
  go_wp2_with (first
    | (go_at_call 29; go_must (refine (within_one 65535 x _ _ hc).mono ?_); rintro e w' ⟨rfl, hw⟩; obtain rfl := hw.symm; rw [hx])
    | (go_at_call 35; go_must (refine (may_as h true _ hs hn).mono ?_); rintro e w' ⟨rfl, hw⟩; obtain rfl := hw.symm)
    | (go_at_call 36; go_must (refine (put16_any x _).mono ?_); rintro e w1 ⟨rfl, b1⟩; replace hb := next hb b1; clear b1))
  go_ret2
  exact ⟨rfl, hb⟩
theorem mx_no (x : Int) (h : ByteArray) (w : World) (hs : h.size ≤ maxLen) (hx : (inB 65535 x && isName h.data.toList) = false) :
    Calls Try.prog 12 #[.int .i64 x, .string h] w fun e w' => e = .returned (.tuple #[.string ⟨#[]⟩, .int .i64 400]) ∧ Below w.heap.size w w' := by
  have hc := new_cell w x 3
  have hb : Below w.heap.size w (w.alloc (.cells #[.int .i64 x] 3)) := lay (Below.refl _ _) _
  cases h1 : inB 65535 x with
  | false =>
    clear hx
    go_enter Try.func12, Try.ntmps12
    go_wp2_with (first
      | (go_at_call 29; go_must (refine (within_one 65535 x _ _ hc).mono ?_); rintro e w' ⟨rfl, hw⟩; obtain rfl := hw.symm; rw [h1]))
    go_ret2
    exact ⟨rfl, hb⟩
  | true =>
    have h2 : isName h.data.toList = false := by rw [h1] at hx; simpa using hx
    clear hx
    go_enter Try.func12, Try.ntmps12
    go_wp2_with (first
      | (go_at_call 29; go_must (refine (within_one 65535 x _ _ hc).mono ?_); rintro e w' ⟨rfl, hw⟩; obtain rfl := hw.symm; rw [h1])
      | (go_at_call 35; go_must (refine (may_as h false _ hs h2).mono ?_); rintro e w' ⟨rfl, hw⟩; obtain rfl := hw.symm))
    go_ret2
    exact ⟨rfl, hb⟩

/-- The name that data tells. -/
def hostD (t : Int) (s : ByteArray) : Option ByteArray :=
  if t = 2 ∨ t = 5 ∨ t = 12 then (if isName s.data.toList = true then some s else none)
  else if t = 15 then (if mayD 15 s.data.toList = true then some (s.extract 2 s.size) else none)
  else none
/-- A string or none, as two results. -/
def optT : Option ByteArray → Value
  | none => .tuple #[.string ⟨#[]⟩, .int .i64 400]
  | some b => .tuple #[.string b, .int .i64 0]
theorem ret_opt {o : Option ByteArray} {p : Option ByteArray} {v : Value} (h : p = o) (hv : v = optT o) : Ending.returned v = .returned (optT p) := by rw [h, hv]
theorem ext_all (s : ByteArray) : s.extract 0 s.size = s := by
  apply ByteArray.ext; simp

theorem host_any (t : Int) (s : ByteArray) (w : World) (hs : s.size ≤ maxLen) :
    Calls Try.prog 14 #[.int .i64 t, .string s] w fun e w' => e = .returned (optT (hostD t s)) ∧ Below w.heap.size w w' := by
  have hb : Below w.heap.size w w := Below.refl _ _
  by_cases h : t = 2 ∨ t = 5 ∨ t = 12
  · have hm := may_n h s.data.toList
    cases hn : isName s.data.toList with
    | true =>
      have HR : Hid (hostD t s = some s) := by unfold Hid hostD; rw [if_pos h, if_pos hn]
      have hz := name_size hn
      have hcut := cut_rest s 0 0 rfl (by omega)
      rw [ext_all] at hcut
      rw [hn] at hm
      rcases h with rfl | rfl | rfl
      all_goals
        go_enter Try.func14, Try.ntmps14
        go_wp2_with (first
          | (go_at_call 17; go_must (refine (may4_as _ s true _ hs hm).mono ?_); rintro e w1 ⟨rfl, b1⟩; replace hb := next hb (below_drew b1); clear b1)
          | (go_at_call 37; go_must (refine (clone_any s _ (by omega)).mono ?_); rintro e w2 ⟨rfl, b2⟩; replace hb := next hb b2; clear b2))
        go_ret2
        exact ⟨ret_opt HR.out rfl, hb⟩
    | false =>
      have HR : Hid (hostD t s = none) := by unfold Hid hostD; rw [if_pos h, if_neg (by rw [hn]; simp)]
      rw [hn] at hm
      rcases h with rfl | rfl | rfl
      all_goals
        go_enter Try.func14, Try.ntmps14
        go_wp2_with (first
          | (go_at_call 17; go_must (refine (may4_as _ s false _ hs hm).mono ?_); rintro e w1 ⟨rfl, b1⟩; replace hb := next hb (below_drew b1); clear b1))
        go_ret2
        exact ⟨ret_opt HR.out rfl, hb⟩
  · by_cases h2 : t = 15
    · cases hn : mayD 15 s.data.toList with
      | true =>
        have HR : Hid (hostD t s = some (s.extract 2 s.size)) := by unfold Hid hostD; rw [if_neg h, if_pos h2, if_pos hn]
        have hm2 := hn
        rw [may_15, Bool.and_eq_true, ← ext_from] at hm2
        have hz := name_size hm2.2
        have hlt : 2 < s.size := by have := hm2.1; rw [data_len] at this; simpa using this
        have hcut := cut_rest s 2 2 rfl (by omega)
        clear hm2 h
        subst h2
        obtain ⟨t, ht⟩ : ∃ t, t = s.extract 2 s.size := ⟨_, rfl⟩
        rw [← ht] at hz hcut HR
        clear ht
        go_enter Try.func14, Try.ntmps14
        go_wp2_with (first
          | (go_at_call 17; go_must (refine (may4_as _ s true _ hs hn).mono ?_); rintro e w1 ⟨rfl, b1⟩; replace hb := next hb (below_drew b1); clear b1)
          | (go_at_call 37; go_must (refine (clone_any t _ (by omega)).mono ?_); rintro e w2 ⟨rfl, b2⟩; replace hb := next hb b2; clear b2))
        go_ret2
        exact ⟨ret_opt HR.out rfl, hb⟩
      | false =>
        have HR : Hid (hostD t s = none) := by unfold Hid hostD; rw [if_neg h, if_pos h2, if_neg (by rw [hn]; simp)]
        clear h
        subst h2
        go_enter Try.func14, Try.ntmps14
        go_wp2_with (first
          | (go_at_call 17; go_must (refine (may4_as _ s false _ hs hn).mono ?_); rintro e w1 ⟨rfl, b1⟩; replace hb := next hb (below_drew b1); clear b1))
        go_ret2
        exact ⟨ret_opt HR.out rfl, hb⟩
    · have HR : Hid (hostD t s = none) := by unfold Hid hostD; rw [if_neg h, if_neg h2]
      have h3 : (t == 2) = false := by rw [beq_eq_false_iff_ne]; omega
      have h4 : (t == 5) = false := by rw [beq_eq_false_iff_ne]; omega
      have h5 : (t == 12) = false := by rw [beq_eq_false_iff_ne]; omega
      have h6 : (t == 15) = false := by rw [beq_eq_false_iff_ne]; omega
      clear h h2
      go_enter Try.func14, Try.ntmps14
      go_wp2
      go_ret2
      exact ⟨ret_opt HR.out rfl, hb⟩

end Go.Proofs.Ytoeaogbeifkliaa
