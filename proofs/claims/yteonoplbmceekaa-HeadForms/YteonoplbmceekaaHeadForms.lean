/- HeadForms holds: for every two numbers, a header of which a number does not fit is refused, and Get refuses fewer than twelve bytes alone. -/
import Derived.Test.YteonoplbmceekaaHdG
import Derived.ProofKit
import Derived.OpenShut
import Derived.ShutString
namespace Go.Proofs.Yteonoplbmceekaa.headForms
open Go.ChangeShapes Go.WideShapes Go.ChangeAt Go.RowKit
open Go.ChangeMaps (open_string shut_string)

/-- What Get gives, as letters. -/
theorem get_form (s : ByteArray) : ∃ (id : Int) (qr : Bool) (op : Int) (aa tc rd ra : Bool) (z rc a b c d F : Int), getT s = .tuple #[.agg #[.int .i64 id, .bool qr, .int .i64 op, .bool aa, .bool tc, .bool rd, .bool ra, .int .i64 z, .int .i64 rc], .agg #[.int .i64 a, .int .i64 b, .int .i64 c, .int .i64 d], .int .i64 F] ∧ (F == 0) = decide (12 ≤ (s.size : Int)) := by
  unfold getT
  split
  · rename_i h
    refine ⟨_, _, _, _, _, _, _, _, _, _, _, _, _, 0, rfl, ?_⟩
    have : (12 : Int) ≤ (s.size : Int) := by omega
    simp [this]
  · rename_i h
    refine ⟨_, _, _, _, _, _, _, _, _, _, _, _, _, 600, rfl, ?_⟩
    have : ¬ (12 : Int) ≤ (s.size : Int) := by omega
    simp [this]

theorem fit_no {p x : Int} (h : x < 0 ∨ p ≤ x) : fitI p x = false := by
  unfold fitI; simp; omega
theorem sum_no {k e : Int} (e0 : 0 ≤ e) : k + 1 ≤ k + (1 + e) := by omega
theorem neg_no {e : Int} (e0 : 0 ≤ e) : -(1 + e) < 0 := by omega

/-- What Put gives for a header that may not be written. -/
theorem no_put {id op z rc a b c d : Int} (h : mayH id op z rc a b c d = false) (w : World) :
    Calls Try.prog 7 #[.agg #[.int .i64 id, .bool false, .int .i64 op, .bool false, .bool false, .bool false, .bool false, .int .i64 z, .int .i64 rc], .agg #[.int .i64 a, .int .i64 b, .int .i64 c, .int .i64 d]] w fun e w' => e = .returned (.tuple #[.string ⟨#[]⟩, .int .i64 600]) ∧ Below w.heap.size w w' := put_no id false op false false false false z rc a b c d w h
theorem get_at {s : ByteArray} {v : Value} (h : getT s = v) (hs : s.size ≤ maxLen) (w : World) : Calls Try.prog 9 #[.string s] w fun e w' => e = .returned v ∧ Below w.heap.size w w' := h ▸ get_any s w hs
theorem zeros_own {w : World} {base n : Nat} {v : Value} (h : w.ownsRow base 5 1 v n (madeCells (Value.int .u8 0).cells (n * 1)).toList) : w.ownsRow base 5 1 v n ((List.replicate n (0 : UInt8)).map bv) := by
  rw [Nat.mul_one, show (Value.int .u8 0).cells = #[.int .u8 0] from rfl, made_zero] at h
  simpa using h

set_option maxRecDepth 20000 in
set_option maxHeartbeats 8000000 in
theorem c0 (which x U e : Int) (N : Nat) (w : World) (hU : IntKind.u64.wrap which = U) (hm : U.tmod 8 = 0) (m63 : bits .and .i64 x 63 = e) (e0 : 0 ≤ e) (e1 : e < 64) (m15 : bits .and .i64 x 15 = (N : Int)) (hN : N < 16) :
    Calls Try.prog 6 #[.int .i64 which, .int .i64 x] w fun e w' => e = .returned (.bool true) ∧ Below w.heap.size w w' := by
  have hb : Below w.heap.size w w := Below.refl _ _
  obtain ⟨j0, hi, hz0, hz1, hz2⟩ := info_parts info5
  have zsz : (⟨(List.replicate N (0 : UInt8)).toArray⟩ : ByteArray).size = N := by show (List.replicate N (0 : UInt8)).toArray.size = N; simp
  obtain ⟨i1, i2, i3, i4, i5, i6, i7, i8, i9, n1, n2, n3, n4, F, hF, hF0⟩ := get_form ⟨(List.replicate N (0 : UInt8)).toArray⟩
  have hg := get_at hF (by rw [zsz]; unfold maxLen; omega)
  rw [zsz] at hF0
  obtain ⟨B, hB⟩ : ∃ B, decide (12 ≤ (N : Int)) = B := ⟨_, rfl⟩
  rw [hB] at hF0
  have hp := no_put (id := (65535 + (1 + e))) (op := 0) (z := 0) (rc := 0) (a := 0) (b := 0) (c := 0) (d := 0) (by unfold mayH; rw [fit_no (p := 65536) (.inr (sum_no e0))]; simp)
  clear hF
  go_enter Try.func6, Try.ntmps6
  go_wp2_with (first
    | (go_at_call 12; go_must (refine (awake_any _).mono ?_); rintro e w0 ⟨rfl, b0⟩; replace hb := next hb b0; clear b0)
    | (go_at_call 7; go_must (refine (hp _).mono ?_); rintro e w1 ⟨rfl, b1⟩; replace hb := next (lay (lay hb _) _) b1; clear b1)
    | (at_make; refine wpList_make_full _ rfl _ _ 39 rfl 0 5 j0 (.int .u8 0) 1 Try.underlying39 hi hz0 hz1 .i64 .i64 _ _ N rfl rfl rfl rfl (by rw [hz2]; omega) (by unfold maxLen; omega) (Nat.zero_le _) ?_; intro w2 own2 grow2; replace hb := next hb (below_of grow2); have R2 := zeros_own own2; clear own2 grow2)
    | (refine wpList_string _ rfl (.tmp 72) rfl 0 N _ (List.replicate N 0) rfl R2 ?_; clear R2)
    | (go_at_call 9; go_must (refine (hg _).mono ?_); rintro e w3 ⟨rfl, b3⟩; replace hb := next hb b3; clear b3)
    | (go_at_call 11; refine (num_any _ _).mono ?_; rintro e w' ⟨rfl, hw⟩; obtain rfl := hw.symm))
  go_ret
  exact ⟨ret_bool (by cases B <;> rfl), lay (lay hb _) _⟩

set_option maxRecDepth 20000 in
set_option maxHeartbeats 8000000 in
theorem c1 (which x U e : Int) (N : Nat) (w : World) (hU : IntKind.u64.wrap which = U) (hm : U.tmod 8 = 1) (m63 : bits .and .i64 x 63 = e) (e0 : 0 ≤ e) (e1 : e < 64) (m15 : bits .and .i64 x 15 = (N : Int)) (hN : N < 16) :
    Calls Try.prog 6 #[.int .i64 which, .int .i64 x] w fun e w' => e = .returned (.bool true) ∧ Below w.heap.size w w' := by
  have hb : Below w.heap.size w w := Below.refl _ _
  obtain ⟨j0, hi, hz0, hz1, hz2⟩ := info_parts info5
  have zsz : (⟨(List.replicate N (0 : UInt8)).toArray⟩ : ByteArray).size = N := by show (List.replicate N (0 : UInt8)).toArray.size = N; simp
  obtain ⟨i1, i2, i3, i4, i5, i6, i7, i8, i9, n1, n2, n3, n4, F, hF, hF0⟩ := get_form ⟨(List.replicate N (0 : UInt8)).toArray⟩
  have hg := get_at hF (by rw [zsz]; unfold maxLen; omega)
  rw [zsz] at hF0
  obtain ⟨B, hB⟩ : ∃ B, decide (12 ≤ (N : Int)) = B := ⟨_, rfl⟩
  rw [hB] at hF0
  have hp := no_put (id := (-(1 + e))) (op := 0) (z := 0) (rc := 0) (a := 0) (b := 0) (c := 0) (d := 0) (by unfold mayH; rw [fit_no (p := 65536) (.inl (neg_no e0))]; simp)
  clear hF
  go_enter Try.func6, Try.ntmps6
  go_wp2_with (first
    | (go_at_call 12; go_must (refine (awake_any _).mono ?_); rintro e w0 ⟨rfl, b0⟩; replace hb := next hb b0; clear b0)
    | (go_at_call 7; go_must (refine (hp _).mono ?_); rintro e w1 ⟨rfl, b1⟩; replace hb := next (lay (lay hb _) _) b1; clear b1)
    | (at_make; refine wpList_make_full _ rfl _ _ 39 rfl 0 5 j0 (.int .u8 0) 1 Try.underlying39 hi hz0 hz1 .i64 .i64 _ _ N rfl rfl rfl rfl (by rw [hz2]; omega) (by unfold maxLen; omega) (Nat.zero_le _) ?_; intro w2 own2 grow2; replace hb := next hb (below_of grow2); have R2 := zeros_own own2; clear own2 grow2)
    | (refine wpList_string _ rfl (.tmp 72) rfl 0 N _ (List.replicate N 0) rfl R2 ?_; clear R2)
    | (go_at_call 9; go_must (refine (hg _).mono ?_); rintro e w3 ⟨rfl, b3⟩; replace hb := next hb b3; clear b3)
    | (go_at_call 11; refine (num_any _ _).mono ?_; rintro e w' ⟨rfl, hw⟩; obtain rfl := hw.symm))
  go_ret
  exact ⟨ret_bool (by cases B <;> rfl), lay (lay hb _) _⟩

set_option maxRecDepth 20000 in
set_option maxHeartbeats 8000000 in
theorem c2 (which x U e : Int) (N : Nat) (w : World) (hU : IntKind.u64.wrap which = U) (hm : U.tmod 8 = 2) (m63 : bits .and .i64 x 63 = e) (e0 : 0 ≤ e) (e1 : e < 64) (m15 : bits .and .i64 x 15 = (N : Int)) (hN : N < 16) :
    Calls Try.prog 6 #[.int .i64 which, .int .i64 x] w fun e w' => e = .returned (.bool true) ∧ Below w.heap.size w w' := by
  have hb : Below w.heap.size w w := Below.refl _ _
  obtain ⟨j0, hi, hz0, hz1, hz2⟩ := info_parts info5
  have zsz : (⟨(List.replicate N (0 : UInt8)).toArray⟩ : ByteArray).size = N := by show (List.replicate N (0 : UInt8)).toArray.size = N; simp
  obtain ⟨i1, i2, i3, i4, i5, i6, i7, i8, i9, n1, n2, n3, n4, F, hF, hF0⟩ := get_form ⟨(List.replicate N (0 : UInt8)).toArray⟩
  have hg := get_at hF (by rw [zsz]; unfold maxLen; omega)
  rw [zsz] at hF0
  obtain ⟨B, hB⟩ : ∃ B, decide (12 ≤ (N : Int)) = B := ⟨_, rfl⟩
  rw [hB] at hF0
  have hp := no_put (id := 0) (op := (15 + (1 + e))) (z := 0) (rc := 0) (a := 0) (b := 0) (c := 0) (d := 0) (by unfold mayH; rw [fit_no (p := 16) (x := 15 + (1 + e)) (.inr (sum_no e0))]; simp)
  clear hF
  go_enter Try.func6, Try.ntmps6
  go_wp2_with (first
    | (go_at_call 12; go_must (refine (awake_any _).mono ?_); rintro e w0 ⟨rfl, b0⟩; replace hb := next hb b0; clear b0)
    | (go_at_call 7; go_must (refine (hp _).mono ?_); rintro e w1 ⟨rfl, b1⟩; replace hb := next (lay (lay hb _) _) b1; clear b1)
    | (at_make; refine wpList_make_full _ rfl _ _ 39 rfl 0 5 j0 (.int .u8 0) 1 Try.underlying39 hi hz0 hz1 .i64 .i64 _ _ N rfl rfl rfl rfl (by rw [hz2]; omega) (by unfold maxLen; omega) (Nat.zero_le _) ?_; intro w2 own2 grow2; replace hb := next hb (below_of grow2); have R2 := zeros_own own2; clear own2 grow2)
    | (refine wpList_string _ rfl (.tmp 72) rfl 0 N _ (List.replicate N 0) rfl R2 ?_; clear R2)
    | (go_at_call 9; go_must (refine (hg _).mono ?_); rintro e w3 ⟨rfl, b3⟩; replace hb := next hb b3; clear b3)
    | (go_at_call 11; refine (num_any _ _).mono ?_; rintro e w' ⟨rfl, hw⟩; obtain rfl := hw.symm))
  go_ret
  exact ⟨ret_bool (by cases B <;> rfl), lay (lay hb _) _⟩

set_option maxRecDepth 20000 in
set_option maxHeartbeats 8000000 in
theorem c3 (which x U e : Int) (N : Nat) (w : World) (hU : IntKind.u64.wrap which = U) (hm : U.tmod 8 = 3) (m63 : bits .and .i64 x 63 = e) (e0 : 0 ≤ e) (e1 : e < 64) (m15 : bits .and .i64 x 15 = (N : Int)) (hN : N < 16) :
    Calls Try.prog 6 #[.int .i64 which, .int .i64 x] w fun e w' => e = .returned (.bool true) ∧ Below w.heap.size w w' := by
  have hb : Below w.heap.size w w := Below.refl _ _
  obtain ⟨j0, hi, hz0, hz1, hz2⟩ := info_parts info5
  have zsz : (⟨(List.replicate N (0 : UInt8)).toArray⟩ : ByteArray).size = N := by show (List.replicate N (0 : UInt8)).toArray.size = N; simp
  obtain ⟨i1, i2, i3, i4, i5, i6, i7, i8, i9, n1, n2, n3, n4, F, hF, hF0⟩ := get_form ⟨(List.replicate N (0 : UInt8)).toArray⟩
  have hg := get_at hF (by rw [zsz]; unfold maxLen; omega)
  rw [zsz] at hF0
  obtain ⟨B, hB⟩ : ∃ B, decide (12 ≤ (N : Int)) = B := ⟨_, rfl⟩
  rw [hB] at hF0
  have hp := no_put (id := 0) (op := 0) (z := 0) (rc := (-(1 + e))) (a := 0) (b := 0) (c := 0) (d := 0) (by unfold mayH; rw [fit_no (p := 16) (x := -(1 + e)) (.inl (neg_no e0))]; simp)
  clear hF
  go_enter Try.func6, Try.ntmps6
  go_wp2_with (first
    | (go_at_call 12; go_must (refine (awake_any _).mono ?_); rintro e w0 ⟨rfl, b0⟩; replace hb := next hb b0; clear b0)
    | (go_at_call 7; go_must (refine (hp _).mono ?_); rintro e w1 ⟨rfl, b1⟩; replace hb := next (lay (lay hb _) _) b1; clear b1)
    | (at_make; refine wpList_make_full _ rfl _ _ 39 rfl 0 5 j0 (.int .u8 0) 1 Try.underlying39 hi hz0 hz1 .i64 .i64 _ _ N rfl rfl rfl rfl (by rw [hz2]; omega) (by unfold maxLen; omega) (Nat.zero_le _) ?_; intro w2 own2 grow2; replace hb := next hb (below_of grow2); have R2 := zeros_own own2; clear own2 grow2)
    | (refine wpList_string _ rfl (.tmp 72) rfl 0 N _ (List.replicate N 0) rfl R2 ?_; clear R2)
    | (go_at_call 9; go_must (refine (hg _).mono ?_); rintro e w3 ⟨rfl, b3⟩; replace hb := next hb b3; clear b3)
    | (go_at_call 11; refine (num_any _ _).mono ?_; rintro e w' ⟨rfl, hw⟩; obtain rfl := hw.symm))
  go_ret
  exact ⟨ret_bool (by cases B <;> rfl), lay (lay hb _) _⟩

set_option maxRecDepth 20000 in
set_option maxHeartbeats 8000000 in
theorem c4 (which x U e : Int) (N : Nat) (w : World) (hU : IntKind.u64.wrap which = U) (hm : U.tmod 8 = 4) (m63 : bits .and .i64 x 63 = e) (e0 : 0 ≤ e) (e1 : e < 64) (m15 : bits .and .i64 x 15 = (N : Int)) (hN : N < 16) :
    Calls Try.prog 6 #[.int .i64 which, .int .i64 x] w fun e w' => e = .returned (.bool true) ∧ Below w.heap.size w w' := by
  have hb : Below w.heap.size w w := Below.refl _ _
  obtain ⟨j0, hi, hz0, hz1, hz2⟩ := info_parts info5
  have zsz : (⟨(List.replicate N (0 : UInt8)).toArray⟩ : ByteArray).size = N := by show (List.replicate N (0 : UInt8)).toArray.size = N; simp
  obtain ⟨i1, i2, i3, i4, i5, i6, i7, i8, i9, n1, n2, n3, n4, F, hF, hF0⟩ := get_form ⟨(List.replicate N (0 : UInt8)).toArray⟩
  have hg := get_at hF (by rw [zsz]; unfold maxLen; omega)
  rw [zsz] at hF0
  obtain ⟨B, hB⟩ : ∃ B, decide (12 ≤ (N : Int)) = B := ⟨_, rfl⟩
  rw [hB] at hF0
  have hp := no_put (id := 0) (op := 0) (z := (7 + (1 + e))) (rc := 0) (a := 0) (b := 0) (c := 0) (d := 0) (by unfold mayH; rw [fit_no (p := 8) (x := 7 + (1 + e)) (.inr (sum_no e0))]; simp)
  clear hF
  go_enter Try.func6, Try.ntmps6
  go_wp2_with (first
    | (go_at_call 12; go_must (refine (awake_any _).mono ?_); rintro e w0 ⟨rfl, b0⟩; replace hb := next hb b0; clear b0)
    | (go_at_call 7; go_must (refine (hp _).mono ?_); rintro e w1 ⟨rfl, b1⟩; replace hb := next (lay (lay hb _) _) b1; clear b1)
    | (at_make; refine wpList_make_full _ rfl _ _ 39 rfl 0 5 j0 (.int .u8 0) 1 Try.underlying39 hi hz0 hz1 .i64 .i64 _ _ N rfl rfl rfl rfl (by rw [hz2]; omega) (by unfold maxLen; omega) (Nat.zero_le _) ?_; intro w2 own2 grow2; replace hb := next hb (below_of grow2); have R2 := zeros_own own2; clear own2 grow2)
    | (refine wpList_string _ rfl (.tmp 72) rfl 0 N _ (List.replicate N 0) rfl R2 ?_; clear R2)
    | (go_at_call 9; go_must (refine (hg _).mono ?_); rintro e w3 ⟨rfl, b3⟩; replace hb := next hb b3; clear b3)
    | (go_at_call 11; refine (num_any _ _).mono ?_; rintro e w' ⟨rfl, hw⟩; obtain rfl := hw.symm))
  go_ret
  exact ⟨ret_bool (by cases B <;> rfl), lay (lay hb _) _⟩

set_option maxRecDepth 20000 in
set_option maxHeartbeats 8000000 in
theorem c5 (which x U e : Int) (N : Nat) (w : World) (hU : IntKind.u64.wrap which = U) (hm : U.tmod 8 = 5) (m63 : bits .and .i64 x 63 = e) (e0 : 0 ≤ e) (e1 : e < 64) (m15 : bits .and .i64 x 15 = (N : Int)) (hN : N < 16) :
    Calls Try.prog 6 #[.int .i64 which, .int .i64 x] w fun e w' => e = .returned (.bool true) ∧ Below w.heap.size w w' := by
  have hb : Below w.heap.size w w := Below.refl _ _
  obtain ⟨j0, hi, hz0, hz1, hz2⟩ := info_parts info5
  have zsz : (⟨(List.replicate N (0 : UInt8)).toArray⟩ : ByteArray).size = N := by show (List.replicate N (0 : UInt8)).toArray.size = N; simp
  obtain ⟨i1, i2, i3, i4, i5, i6, i7, i8, i9, n1, n2, n3, n4, F, hF, hF0⟩ := get_form ⟨(List.replicate N (0 : UInt8)).toArray⟩
  have hg := get_at hF (by rw [zsz]; unfold maxLen; omega)
  rw [zsz] at hF0
  obtain ⟨B, hB⟩ : ∃ B, decide (12 ≤ (N : Int)) = B := ⟨_, rfl⟩
  rw [hB] at hF0
  have hp := no_put (id := 0) (op := 0) (z := (-(1 + e))) (rc := 0) (a := 0) (b := 0) (c := 0) (d := 0) (by unfold mayH; rw [fit_no (p := 8) (x := -(1 + e)) (.inl (neg_no e0))]; simp)
  clear hF
  go_enter Try.func6, Try.ntmps6
  go_wp2_with (first
    | (go_at_call 12; go_must (refine (awake_any _).mono ?_); rintro e w0 ⟨rfl, b0⟩; replace hb := next hb b0; clear b0)
    | (go_at_call 7; go_must (refine (hp _).mono ?_); rintro e w1 ⟨rfl, b1⟩; replace hb := next (lay (lay hb _) _) b1; clear b1)
    | (at_make; refine wpList_make_full _ rfl _ _ 39 rfl 0 5 j0 (.int .u8 0) 1 Try.underlying39 hi hz0 hz1 .i64 .i64 _ _ N rfl rfl rfl rfl (by rw [hz2]; omega) (by unfold maxLen; omega) (Nat.zero_le _) ?_; intro w2 own2 grow2; replace hb := next hb (below_of grow2); have R2 := zeros_own own2; clear own2 grow2)
    | (refine wpList_string _ rfl (.tmp 72) rfl 0 N _ (List.replicate N 0) rfl R2 ?_; clear R2)
    | (go_at_call 9; go_must (refine (hg _).mono ?_); rintro e w3 ⟨rfl, b3⟩; replace hb := next hb b3; clear b3)
    | (go_at_call 11; refine (num_any _ _).mono ?_; rintro e w' ⟨rfl, hw⟩; obtain rfl := hw.symm))
  go_ret
  exact ⟨ret_bool (by cases B <;> rfl), lay (lay hb _) _⟩

set_option maxRecDepth 20000 in
set_option maxHeartbeats 8000000 in
theorem c6_0 (which x U e : Int) (N : Nat) (w : World) (hU : IntKind.u64.wrap which = U) (hm : U.tmod 8 = 6) (m63 : bits .and .i64 x 63 = e) (e0 : 0 ≤ e) (e1 : e < 64) (m15 : bits .and .i64 x 15 = (N : Int)) (hN : N < 16) (m3 : bits .and .i64 x 3 = 0) :
    Calls Try.prog 6 #[.int .i64 which, .int .i64 x] w fun e w' => e = .returned (.bool true) ∧ Below w.heap.size w w' := by
  have hb : Below w.heap.size w w := Below.refl _ _
  obtain ⟨j0, hi, hz0, hz1, hz2⟩ := info_parts info5
  have zsz : (⟨(List.replicate N (0 : UInt8)).toArray⟩ : ByteArray).size = N := by show (List.replicate N (0 : UInt8)).toArray.size = N; simp
  obtain ⟨i1, i2, i3, i4, i5, i6, i7, i8, i9, n1, n2, n3, n4, F, hF, hF0⟩ := get_form ⟨(List.replicate N (0 : UInt8)).toArray⟩
  have hg := get_at hF (by rw [zsz]; unfold maxLen; omega)
  rw [zsz] at hF0
  obtain ⟨B, hB⟩ : ∃ B, decide (12 ≤ (N : Int)) = B := ⟨_, rfl⟩
  rw [hB] at hF0
  have hp := no_put (id := 0) (op := 0) (z := 0) (rc := 0) (a := (-(1 + e))) (b := 0) (c := 0) (d := 0) (by unfold mayH; rw [fit_no (p := 65536) (x := -(1 + e)) (.inl (neg_no e0))]; simp)
  clear hF
  go_enter Try.func6, Try.ntmps6
  go_wp2_with (first
    | (go_at_call 12; go_must (refine (awake_any _).mono ?_); rintro e w0 ⟨rfl, b0⟩; replace hb := next hb b0; clear b0)
    | (go_at_call 7; go_must (refine (hp _).mono ?_); rintro e w1 ⟨rfl, b1⟩; replace hb := next (lay (lay hb _) _) b1; clear b1)
    | (at_make; refine wpList_make_full _ rfl _ _ 39 rfl 0 5 j0 (.int .u8 0) 1 Try.underlying39 hi hz0 hz1 .i64 .i64 _ _ N rfl rfl rfl rfl (by rw [hz2]; omega) (by unfold maxLen; omega) (Nat.zero_le _) ?_; intro w2 own2 grow2; replace hb := next hb (below_of grow2); have R2 := zeros_own own2; clear own2 grow2)
    | (refine wpList_string _ rfl (.tmp 72) rfl 0 N _ (List.replicate N 0) rfl R2 ?_; clear R2)
    | (go_at_call 9; go_must (refine (hg _).mono ?_); rintro e w3 ⟨rfl, b3⟩; replace hb := next hb b3; clear b3)
    | (go_at_call 11; refine (num_any _ _).mono ?_; rintro e w' ⟨rfl, hw⟩; obtain rfl := hw.symm))
  go_ret
  exact ⟨ret_bool (by cases B <;> rfl), lay (lay hb _) _⟩

set_option maxRecDepth 20000 in
set_option maxHeartbeats 8000000 in
theorem c7_0 (which x U e : Int) (N : Nat) (w : World) (hU : IntKind.u64.wrap which = U) (hm : U.tmod 8 = 7) (m63 : bits .and .i64 x 63 = e) (e0 : 0 ≤ e) (e1 : e < 64) (m15 : bits .and .i64 x 15 = (N : Int)) (hN : N < 16) (m3 : bits .and .i64 x 3 = 0) :
    Calls Try.prog 6 #[.int .i64 which, .int .i64 x] w fun e w' => e = .returned (.bool true) ∧ Below w.heap.size w w' := by
  have hb : Below w.heap.size w w := Below.refl _ _
  obtain ⟨j0, hi, hz0, hz1, hz2⟩ := info_parts info5
  have zsz : (⟨(List.replicate N (0 : UInt8)).toArray⟩ : ByteArray).size = N := by show (List.replicate N (0 : UInt8)).toArray.size = N; simp
  obtain ⟨i1, i2, i3, i4, i5, i6, i7, i8, i9, n1, n2, n3, n4, F, hF, hF0⟩ := get_form ⟨(List.replicate N (0 : UInt8)).toArray⟩
  have hg := get_at hF (by rw [zsz]; unfold maxLen; omega)
  rw [zsz] at hF0
  obtain ⟨B, hB⟩ : ∃ B, decide (12 ≤ (N : Int)) = B := ⟨_, rfl⟩
  rw [hB] at hF0
  have hp := no_put (id := 0) (op := 0) (z := 0) (rc := 0) (a := (65535 + (1 + e))) (b := 0) (c := 0) (d := 0) (by unfold mayH; rw [fit_no (p := 65536) (x := 65535 + (1 + e)) (.inr (sum_no e0))]; simp)
  clear hF
  go_enter Try.func6, Try.ntmps6
  go_wp2_with (first
    | (go_at_call 12; go_must (refine (awake_any _).mono ?_); rintro e w0 ⟨rfl, b0⟩; replace hb := next hb b0; clear b0)
    | (go_at_call 7; go_must (refine (hp _).mono ?_); rintro e w1 ⟨rfl, b1⟩; replace hb := next (lay (lay hb _) _) b1; clear b1)
    | (at_make; refine wpList_make_full _ rfl _ _ 39 rfl 0 5 j0 (.int .u8 0) 1 Try.underlying39 hi hz0 hz1 .i64 .i64 _ _ N rfl rfl rfl rfl (by rw [hz2]; omega) (by unfold maxLen; omega) (Nat.zero_le _) ?_; intro w2 own2 grow2; replace hb := next hb (below_of grow2); have R2 := zeros_own own2; clear own2 grow2)
    | (refine wpList_string _ rfl (.tmp 72) rfl 0 N _ (List.replicate N 0) rfl R2 ?_; clear R2)
    | (go_at_call 9; go_must (refine (hg _).mono ?_); rintro e w3 ⟨rfl, b3⟩; replace hb := next hb b3; clear b3)
    | (go_at_call 11; refine (num_any _ _).mono ?_; rintro e w' ⟨rfl, hw⟩; obtain rfl := hw.symm))
  go_ret
  exact ⟨ret_bool (by cases B <;> rfl), lay (lay hb _) _⟩

set_option maxRecDepth 20000 in
set_option maxHeartbeats 8000000 in
theorem c6_1 (which x U e : Int) (N : Nat) (w : World) (hU : IntKind.u64.wrap which = U) (hm : U.tmod 8 = 6) (m63 : bits .and .i64 x 63 = e) (e0 : 0 ≤ e) (e1 : e < 64) (m15 : bits .and .i64 x 15 = (N : Int)) (hN : N < 16) (m3 : bits .and .i64 x 3 = 1) :
    Calls Try.prog 6 #[.int .i64 which, .int .i64 x] w fun e w' => e = .returned (.bool true) ∧ Below w.heap.size w w' := by
  have hb : Below w.heap.size w w := Below.refl _ _
  obtain ⟨j0, hi, hz0, hz1, hz2⟩ := info_parts info5
  have zsz : (⟨(List.replicate N (0 : UInt8)).toArray⟩ : ByteArray).size = N := by show (List.replicate N (0 : UInt8)).toArray.size = N; simp
  obtain ⟨i1, i2, i3, i4, i5, i6, i7, i8, i9, n1, n2, n3, n4, F, hF, hF0⟩ := get_form ⟨(List.replicate N (0 : UInt8)).toArray⟩
  have hg := get_at hF (by rw [zsz]; unfold maxLen; omega)
  rw [zsz] at hF0
  obtain ⟨B, hB⟩ : ∃ B, decide (12 ≤ (N : Int)) = B := ⟨_, rfl⟩
  rw [hB] at hF0
  have hp := no_put (id := 0) (op := 0) (z := 0) (rc := 0) (a := 0) (b := (-(1 + e))) (c := 0) (d := 0) (by unfold mayH; rw [fit_no (p := 65536) (x := -(1 + e)) (.inl (neg_no e0))]; simp)
  clear hF
  go_enter Try.func6, Try.ntmps6
  go_wp2_with (first
    | (go_at_call 12; go_must (refine (awake_any _).mono ?_); rintro e w0 ⟨rfl, b0⟩; replace hb := next hb b0; clear b0)
    | (go_at_call 7; go_must (refine (hp _).mono ?_); rintro e w1 ⟨rfl, b1⟩; replace hb := next (lay (lay hb _) _) b1; clear b1)
    | (at_make; refine wpList_make_full _ rfl _ _ 39 rfl 0 5 j0 (.int .u8 0) 1 Try.underlying39 hi hz0 hz1 .i64 .i64 _ _ N rfl rfl rfl rfl (by rw [hz2]; omega) (by unfold maxLen; omega) (Nat.zero_le _) ?_; intro w2 own2 grow2; replace hb := next hb (below_of grow2); have R2 := zeros_own own2; clear own2 grow2)
    | (refine wpList_string _ rfl (.tmp 72) rfl 0 N _ (List.replicate N 0) rfl R2 ?_; clear R2)
    | (go_at_call 9; go_must (refine (hg _).mono ?_); rintro e w3 ⟨rfl, b3⟩; replace hb := next hb b3; clear b3)
    | (go_at_call 11; refine (num_any _ _).mono ?_; rintro e w' ⟨rfl, hw⟩; obtain rfl := hw.symm))
  go_ret
  exact ⟨ret_bool (by cases B <;> rfl), lay (lay hb _) _⟩

set_option maxRecDepth 20000 in
set_option maxHeartbeats 8000000 in
theorem c7_1 (which x U e : Int) (N : Nat) (w : World) (hU : IntKind.u64.wrap which = U) (hm : U.tmod 8 = 7) (m63 : bits .and .i64 x 63 = e) (e0 : 0 ≤ e) (e1 : e < 64) (m15 : bits .and .i64 x 15 = (N : Int)) (hN : N < 16) (m3 : bits .and .i64 x 3 = 1) :
    Calls Try.prog 6 #[.int .i64 which, .int .i64 x] w fun e w' => e = .returned (.bool true) ∧ Below w.heap.size w w' := by
  have hb : Below w.heap.size w w := Below.refl _ _
  obtain ⟨j0, hi, hz0, hz1, hz2⟩ := info_parts info5
  have zsz : (⟨(List.replicate N (0 : UInt8)).toArray⟩ : ByteArray).size = N := by show (List.replicate N (0 : UInt8)).toArray.size = N; simp
  obtain ⟨i1, i2, i3, i4, i5, i6, i7, i8, i9, n1, n2, n3, n4, F, hF, hF0⟩ := get_form ⟨(List.replicate N (0 : UInt8)).toArray⟩
  have hg := get_at hF (by rw [zsz]; unfold maxLen; omega)
  rw [zsz] at hF0
  obtain ⟨B, hB⟩ : ∃ B, decide (12 ≤ (N : Int)) = B := ⟨_, rfl⟩
  rw [hB] at hF0
  have hp := no_put (id := 0) (op := 0) (z := 0) (rc := 0) (a := 0) (b := (65535 + (1 + e))) (c := 0) (d := 0) (by unfold mayH; rw [fit_no (p := 65536) (x := 65535 + (1 + e)) (.inr (sum_no e0))]; simp)
  clear hF
  go_enter Try.func6, Try.ntmps6
  go_wp2_with (first
    | (go_at_call 12; go_must (refine (awake_any _).mono ?_); rintro e w0 ⟨rfl, b0⟩; replace hb := next hb b0; clear b0)
    | (go_at_call 7; go_must (refine (hp _).mono ?_); rintro e w1 ⟨rfl, b1⟩; replace hb := next (lay (lay hb _) _) b1; clear b1)
    | (at_make; refine wpList_make_full _ rfl _ _ 39 rfl 0 5 j0 (.int .u8 0) 1 Try.underlying39 hi hz0 hz1 .i64 .i64 _ _ N rfl rfl rfl rfl (by rw [hz2]; omega) (by unfold maxLen; omega) (Nat.zero_le _) ?_; intro w2 own2 grow2; replace hb := next hb (below_of grow2); have R2 := zeros_own own2; clear own2 grow2)
    | (refine wpList_string _ rfl (.tmp 72) rfl 0 N _ (List.replicate N 0) rfl R2 ?_; clear R2)
    | (go_at_call 9; go_must (refine (hg _).mono ?_); rintro e w3 ⟨rfl, b3⟩; replace hb := next hb b3; clear b3)
    | (go_at_call 11; refine (num_any _ _).mono ?_; rintro e w' ⟨rfl, hw⟩; obtain rfl := hw.symm))
  go_ret
  exact ⟨ret_bool (by cases B <;> rfl), lay (lay hb _) _⟩

set_option maxRecDepth 20000 in
set_option maxHeartbeats 8000000 in
theorem c6_2 (which x U e : Int) (N : Nat) (w : World) (hU : IntKind.u64.wrap which = U) (hm : U.tmod 8 = 6) (m63 : bits .and .i64 x 63 = e) (e0 : 0 ≤ e) (e1 : e < 64) (m15 : bits .and .i64 x 15 = (N : Int)) (hN : N < 16) (m3 : bits .and .i64 x 3 = 2) :
    Calls Try.prog 6 #[.int .i64 which, .int .i64 x] w fun e w' => e = .returned (.bool true) ∧ Below w.heap.size w w' := by
  have hb : Below w.heap.size w w := Below.refl _ _
  obtain ⟨j0, hi, hz0, hz1, hz2⟩ := info_parts info5
  have zsz : (⟨(List.replicate N (0 : UInt8)).toArray⟩ : ByteArray).size = N := by show (List.replicate N (0 : UInt8)).toArray.size = N; simp
  obtain ⟨i1, i2, i3, i4, i5, i6, i7, i8, i9, n1, n2, n3, n4, F, hF, hF0⟩ := get_form ⟨(List.replicate N (0 : UInt8)).toArray⟩
  have hg := get_at hF (by rw [zsz]; unfold maxLen; omega)
  rw [zsz] at hF0
  obtain ⟨B, hB⟩ : ∃ B, decide (12 ≤ (N : Int)) = B := ⟨_, rfl⟩
  rw [hB] at hF0
  have hp := no_put (id := 0) (op := 0) (z := 0) (rc := 0) (a := 0) (b := 0) (c := (-(1 + e))) (d := 0) (by unfold mayH; rw [fit_no (p := 65536) (x := -(1 + e)) (.inl (neg_no e0))]; simp)
  clear hF
  go_enter Try.func6, Try.ntmps6
  go_wp2_with (first
    | (go_at_call 12; go_must (refine (awake_any _).mono ?_); rintro e w0 ⟨rfl, b0⟩; replace hb := next hb b0; clear b0)
    | (go_at_call 7; go_must (refine (hp _).mono ?_); rintro e w1 ⟨rfl, b1⟩; replace hb := next (lay (lay hb _) _) b1; clear b1)
    | (at_make; refine wpList_make_full _ rfl _ _ 39 rfl 0 5 j0 (.int .u8 0) 1 Try.underlying39 hi hz0 hz1 .i64 .i64 _ _ N rfl rfl rfl rfl (by rw [hz2]; omega) (by unfold maxLen; omega) (Nat.zero_le _) ?_; intro w2 own2 grow2; replace hb := next hb (below_of grow2); have R2 := zeros_own own2; clear own2 grow2)
    | (refine wpList_string _ rfl (.tmp 72) rfl 0 N _ (List.replicate N 0) rfl R2 ?_; clear R2)
    | (go_at_call 9; go_must (refine (hg _).mono ?_); rintro e w3 ⟨rfl, b3⟩; replace hb := next hb b3; clear b3)
    | (go_at_call 11; refine (num_any _ _).mono ?_; rintro e w' ⟨rfl, hw⟩; obtain rfl := hw.symm))
  go_ret
  exact ⟨ret_bool (by cases B <;> rfl), lay (lay hb _) _⟩

set_option maxRecDepth 20000 in
set_option maxHeartbeats 8000000 in
theorem c7_2 (which x U e : Int) (N : Nat) (w : World) (hU : IntKind.u64.wrap which = U) (hm : U.tmod 8 = 7) (m63 : bits .and .i64 x 63 = e) (e0 : 0 ≤ e) (e1 : e < 64) (m15 : bits .and .i64 x 15 = (N : Int)) (hN : N < 16) (m3 : bits .and .i64 x 3 = 2) :
    Calls Try.prog 6 #[.int .i64 which, .int .i64 x] w fun e w' => e = .returned (.bool true) ∧ Below w.heap.size w w' := by
  have hb : Below w.heap.size w w := Below.refl _ _
  obtain ⟨j0, hi, hz0, hz1, hz2⟩ := info_parts info5
  have zsz : (⟨(List.replicate N (0 : UInt8)).toArray⟩ : ByteArray).size = N := by show (List.replicate N (0 : UInt8)).toArray.size = N; simp
  obtain ⟨i1, i2, i3, i4, i5, i6, i7, i8, i9, n1, n2, n3, n4, F, hF, hF0⟩ := get_form ⟨(List.replicate N (0 : UInt8)).toArray⟩
  have hg := get_at hF (by rw [zsz]; unfold maxLen; omega)
  rw [zsz] at hF0
  obtain ⟨B, hB⟩ : ∃ B, decide (12 ≤ (N : Int)) = B := ⟨_, rfl⟩
  rw [hB] at hF0
  have hp := no_put (id := 0) (op := 0) (z := 0) (rc := 0) (a := 0) (b := 0) (c := (65535 + (1 + e))) (d := 0) (by unfold mayH; rw [fit_no (p := 65536) (x := 65535 + (1 + e)) (.inr (sum_no e0))]; simp)
  clear hF
  go_enter Try.func6, Try.ntmps6
  go_wp2_with (first
    | (go_at_call 12; go_must (refine (awake_any _).mono ?_); rintro e w0 ⟨rfl, b0⟩; replace hb := next hb b0; clear b0)
    | (go_at_call 7; go_must (refine (hp _).mono ?_); rintro e w1 ⟨rfl, b1⟩; replace hb := next (lay (lay hb _) _) b1; clear b1)
    | (at_make; refine wpList_make_full _ rfl _ _ 39 rfl 0 5 j0 (.int .u8 0) 1 Try.underlying39 hi hz0 hz1 .i64 .i64 _ _ N rfl rfl rfl rfl (by rw [hz2]; omega) (by unfold maxLen; omega) (Nat.zero_le _) ?_; intro w2 own2 grow2; replace hb := next hb (below_of grow2); have R2 := zeros_own own2; clear own2 grow2)
    | (refine wpList_string _ rfl (.tmp 72) rfl 0 N _ (List.replicate N 0) rfl R2 ?_; clear R2)
    | (go_at_call 9; go_must (refine (hg _).mono ?_); rintro e w3 ⟨rfl, b3⟩; replace hb := next hb b3; clear b3)
    | (go_at_call 11; refine (num_any _ _).mono ?_; rintro e w' ⟨rfl, hw⟩; obtain rfl := hw.symm))
  go_ret
  exact ⟨ret_bool (by cases B <;> rfl), lay (lay hb _) _⟩

set_option maxRecDepth 20000 in
set_option maxHeartbeats 8000000 in
theorem c6_3 (which x U e : Int) (N : Nat) (w : World) (hU : IntKind.u64.wrap which = U) (hm : U.tmod 8 = 6) (m63 : bits .and .i64 x 63 = e) (e0 : 0 ≤ e) (e1 : e < 64) (m15 : bits .and .i64 x 15 = (N : Int)) (hN : N < 16) (m3 : bits .and .i64 x 3 = 3) :
    Calls Try.prog 6 #[.int .i64 which, .int .i64 x] w fun e w' => e = .returned (.bool true) ∧ Below w.heap.size w w' := by
  have hb : Below w.heap.size w w := Below.refl _ _
  obtain ⟨j0, hi, hz0, hz1, hz2⟩ := info_parts info5
  have zsz : (⟨(List.replicate N (0 : UInt8)).toArray⟩ : ByteArray).size = N := by show (List.replicate N (0 : UInt8)).toArray.size = N; simp
  obtain ⟨i1, i2, i3, i4, i5, i6, i7, i8, i9, n1, n2, n3, n4, F, hF, hF0⟩ := get_form ⟨(List.replicate N (0 : UInt8)).toArray⟩
  have hg := get_at hF (by rw [zsz]; unfold maxLen; omega)
  rw [zsz] at hF0
  obtain ⟨B, hB⟩ : ∃ B, decide (12 ≤ (N : Int)) = B := ⟨_, rfl⟩
  rw [hB] at hF0
  have hp := no_put (id := 0) (op := 0) (z := 0) (rc := 0) (a := 0) (b := 0) (c := 0) (d := (-(1 + e))) (by unfold mayH; rw [fit_no (p := 65536) (x := -(1 + e)) (.inl (neg_no e0))]; simp)
  clear hF
  go_enter Try.func6, Try.ntmps6
  go_wp2_with (first
    | (go_at_call 12; go_must (refine (awake_any _).mono ?_); rintro e w0 ⟨rfl, b0⟩; replace hb := next hb b0; clear b0)
    | (go_at_call 7; go_must (refine (hp _).mono ?_); rintro e w1 ⟨rfl, b1⟩; replace hb := next (lay (lay hb _) _) b1; clear b1)
    | (at_make; refine wpList_make_full _ rfl _ _ 39 rfl 0 5 j0 (.int .u8 0) 1 Try.underlying39 hi hz0 hz1 .i64 .i64 _ _ N rfl rfl rfl rfl (by rw [hz2]; omega) (by unfold maxLen; omega) (Nat.zero_le _) ?_; intro w2 own2 grow2; replace hb := next hb (below_of grow2); have R2 := zeros_own own2; clear own2 grow2)
    | (refine wpList_string _ rfl (.tmp 72) rfl 0 N _ (List.replicate N 0) rfl R2 ?_; clear R2)
    | (go_at_call 9; go_must (refine (hg _).mono ?_); rintro e w3 ⟨rfl, b3⟩; replace hb := next hb b3; clear b3)
    | (go_at_call 11; refine (num_any _ _).mono ?_; rintro e w' ⟨rfl, hw⟩; obtain rfl := hw.symm))
  go_ret
  exact ⟨ret_bool (by cases B <;> rfl), lay (lay hb _) _⟩

set_option maxRecDepth 20000 in
set_option maxHeartbeats 8000000 in
theorem c7_3 (which x U e : Int) (N : Nat) (w : World) (hU : IntKind.u64.wrap which = U) (hm : U.tmod 8 = 7) (m63 : bits .and .i64 x 63 = e) (e0 : 0 ≤ e) (e1 : e < 64) (m15 : bits .and .i64 x 15 = (N : Int)) (hN : N < 16) (m3 : bits .and .i64 x 3 = 3) :
    Calls Try.prog 6 #[.int .i64 which, .int .i64 x] w fun e w' => e = .returned (.bool true) ∧ Below w.heap.size w w' := by
  have hb : Below w.heap.size w w := Below.refl _ _
  obtain ⟨j0, hi, hz0, hz1, hz2⟩ := info_parts info5
  have zsz : (⟨(List.replicate N (0 : UInt8)).toArray⟩ : ByteArray).size = N := by show (List.replicate N (0 : UInt8)).toArray.size = N; simp
  obtain ⟨i1, i2, i3, i4, i5, i6, i7, i8, i9, n1, n2, n3, n4, F, hF, hF0⟩ := get_form ⟨(List.replicate N (0 : UInt8)).toArray⟩
  have hg := get_at hF (by rw [zsz]; unfold maxLen; omega)
  rw [zsz] at hF0
  obtain ⟨B, hB⟩ : ∃ B, decide (12 ≤ (N : Int)) = B := ⟨_, rfl⟩
  rw [hB] at hF0
  have hp := no_put (id := 0) (op := 0) (z := 0) (rc := 0) (a := 0) (b := 0) (c := 0) (d := (65535 + (1 + e))) (by unfold mayH; rw [fit_no (p := 65536) (x := 65535 + (1 + e)) (.inr (sum_no e0))]; simp)
  clear hF
  go_enter Try.func6, Try.ntmps6
  go_wp2_with (first
    | (go_at_call 12; go_must (refine (awake_any _).mono ?_); rintro e w0 ⟨rfl, b0⟩; replace hb := next hb b0; clear b0)
    | (go_at_call 7; go_must (refine (hp _).mono ?_); rintro e w1 ⟨rfl, b1⟩; replace hb := next (lay (lay hb _) _) b1; clear b1)
    | (at_make; refine wpList_make_full _ rfl _ _ 39 rfl 0 5 j0 (.int .u8 0) 1 Try.underlying39 hi hz0 hz1 .i64 .i64 _ _ N rfl rfl rfl rfl (by rw [hz2]; omega) (by unfold maxLen; omega) (Nat.zero_le _) ?_; intro w2 own2 grow2; replace hb := next hb (below_of grow2); have R2 := zeros_own own2; clear own2 grow2)
    | (refine wpList_string _ rfl (.tmp 72) rfl 0 N _ (List.replicate N 0) rfl R2 ?_; clear R2)
    | (go_at_call 9; go_must (refine (hg _).mono ?_); rintro e w3 ⟨rfl, b3⟩; replace hb := next hb b3; clear b3)
    | (go_at_call 11; refine (num_any _ _).mono ?_; rintro e w' ⟨rfl, hw⟩; obtain rfl := hw.symm))
  go_ret
  exact ⟨ret_bool (by cases B <;> rfl), lay (lay hb _) _⟩

theorem walk (which x : Int) (_ : (Lit.int .i64 which).wf = true) (_ : (Lit.int .i64 x).wf = true) (w : World) :
    Calls Try.prog 6 #[.int .i64 which, .int .i64 x] w fun e w' => e = .returned (.bool true) ∧ Below w.heap.size w w' := by
  have hU : 0 ≤ IntKind.u64.wrap which := by
    have : IntKind.u64.wrap which = which % 18446744073709551616 := by simp [IntKind.wrap, IntKind.bits, IntKind.signed]
    rw [this]; omega
  have hm := Int.tmod_eq_emod_of_nonneg (b := 8) hU
  obtain ⟨m, hm2⟩ : ∃ m, IntKind.u64.wrap which % 8 = m := ⟨_, rfl⟩
  have hm3 : m = 0 ∨ m = 1 ∨ m = 2 ∨ m = 3 ∨ m = 4 ∨ m = 5 ∨ m = 6 ∨ m = 7 := by omega
  rw [hm2] at hm
  clear hm2
  have k63 := mask x 6 (by decide)
  have k15 := mask x 4 (by decide)
  have k3 : bits .and .i64 x 3 = x % 4 := mask x 2 (by decide)
  obtain ⟨N, hN⟩ : ∃ N : Nat, x % ((2 ^ 4 : Nat) : Int) = (N : Int) := ⟨(x % 16).toNat, by omega⟩
  rw [hN] at k15
  have h3 : x % 4 = 0 ∨ x % 4 = 1 ∨ x % 4 = 2 ∨ x % 4 = 3 := by omega
  rcases hm3 with rfl | rfl | rfl | rfl | rfl | rfl | rfl | rfl
  · exact c0 which x _ _ N w rfl hm k63 (by omega) (by omega) k15 (by omega)
  · exact c1 which x _ _ N w rfl hm k63 (by omega) (by omega) k15 (by omega)
  · exact c2 which x _ _ N w rfl hm k63 (by omega) (by omega) k15 (by omega)
  · exact c3 which x _ _ N w rfl hm k63 (by omega) (by omega) k15 (by omega)
  · exact c4 which x _ _ N w rfl hm k63 (by omega) (by omega) k15 (by omega)
  · exact c5 which x _ _ N w rfl hm k63 (by omega) (by omega) k15 (by omega)
  · rcases h3 with h | h | h | h
    · exact c6_0 which x _ _ N w rfl hm k63 (by omega) (by omega) k15 (by omega) (k3.trans h)
    · exact c6_1 which x _ _ N w rfl hm k63 (by omega) (by omega) k15 (by omega) (k3.trans h)
    · exact c6_2 which x _ _ N w rfl hm k63 (by omega) (by omega) k15 (by omega) (k3.trans h)
    · exact c6_3 which x _ _ N w rfl hm k63 (by omega) (by omega) k15 (by omega) (k3.trans h)
  · rcases h3 with h | h | h | h
    · exact c7_0 which x _ _ N w rfl hm k63 (by omega) (by omega) k15 (by omega) (k3.trans h)
    · exact c7_1 which x _ _ N w rfl hm k63 (by omega) (by omega) k15 (by omega) (k3.trans h)
    · exact c7_2 which x _ _ N w rfl hm k63 (by omega) (by omega) k15 (by omega) (k3.trans h)
    · exact c7_3 which x _ _ N w rfl hm k63 (by omega) (by omega) k15 (by omega) (k3.trans h)

theorem own : ownKnob Try.prog.godebug = none := by kernel_rfl

set_option maxRecDepth 100000 in
theorem lifted (os : Os) (started : os.Started) (H : Type) (enc : TypeId × Value → H) :
    ReturnsInHanded {} Try.checked os 6 .any (Rows.headFormsSpec.pre6 enc Try.prog Try.f6 Rows.headFormsRow.domain false) (Rows.headFormsSpec.post enc Try.prog Try.f6 false true false false) := by
  refine returnsInHanded_of_change (C := Try.checked) own started (by kernel_rfl) Try.func6
    (ChangeSpec.witness6 (enc := enc) (C := Try.checked) false ⟨#[], #[.int .i64 0, .int .i64 0], []⟩ 8 (by kernel_rfl) (by kernel_rfl) (by kernel_rfl) (by kernel_rfl)) ?_
  intro W base args ds gs before hval0 hW _ _
  have hval : ∀ (j : Nat) t v, Try.f6.params[j]? = some t → args[j]? = some v → Value.okWide Try.prog W .any base t v := hval0
  have hW' := hW
  obtain ⟨p, q, hA0, hV, rfl, hfz, hnd⟩ := hW
  have hA : DataW.TrodAll enc Try.prog W 0 (fun _ => true) true Try.f6.params.toList args.toList ds p := hA0
  rw [Try.params6] at hA hval
  obtain ⟨v0, vs0, d0, ds0, p0, q0, hargs, rfl, rfl, h0, r0⟩ := trodAll_cons hA
  obtain ⟨v1, vs1, d1, ds1, p1, q1, rfl, rfl, rfl, h1, r1⟩ := trodAll_cons r0
  obtain ⟨rfl, rfl, rfl⟩ := trodAll_nil r1
  obtain rfl : args = #[v0, v1] := by cases args; simp_all
  obtain ⟨rfl, rfl⟩ := trodVars_none hV
  obtain ⟨a0, rfl, rfl, rfl, w0⟩ := open_int Try.underlying3 (hval 0 3 v0 rfl rfl) h0
  obtain ⟨a1, rfl, rfl, rfl, w1⟩ := open_int Try.underlying3 (hval 1 3 v1 rfl rfl) h1
  clear hA0 hval0
  simp only [List.append_nil] at hW'
  refine (walk a0 a1 w0 w1 W ).mono fun e W' ⟨he, bel⟩ => ?_
  subst he
  exact ⟨_, rfl, _, _, _, [], [], [], hW', trodAll_mk1 (shut_bool Try.underlying4 _), (trodAll_cons_mk (shut_int Try.underlying3 w0) (trodAll_cons_mk (shut_int Try.underlying3 w1) trodAll_mk0)), rfl, bel.frame _, fun h => by cases h⟩

/-- The statement. -/
theorem proved : Rows.HeadFormsSaid :=
  OpenClaim.holds_of_wide 6 Try.f6 rfl rfl rfl rfl rfl rfl rfl ⟨rfl, rfl, rfl, rfl, rfl⟩ rfl rfl rfl rfl rfl (by kernel_rfl) Try.func6 (by kernel_rfl)
    (of_decide_eq_true (by kernel_rfl)) (by unfold Func.isWrapper; first | (rw [if_pos (by decide +kernel)]; kernel_rfl) | (rw [if_neg (by decide +kernel)]; exact ⟨rfl, rfl⟩))
    (fun os started H enc _ => lifted os started H enc)
#print axioms proved

end Go.Proofs.Yteonoplbmceekaa.headForms
