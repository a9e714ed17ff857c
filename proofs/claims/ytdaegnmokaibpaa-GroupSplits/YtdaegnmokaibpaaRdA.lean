/- What within, mayTexts, cutName, soaNames and May of package rdata give, for every argument. -/
import Derived.Test.YtdaegnmokaibpaaOctE
import Derived.Test.YtdaegnmokaibpaaPlainR
namespace Go.Proofs.Ytdaegnmokaibpaa
open Go.RowKit
open Pl

theorem ext_list (s : ByteArray) (i j : Nat) : (s.extract i j).data.toList = (s.data.toList.drop i).take (j - i) := by simp [List.extract_eq_take_drop]
theorem ext_to (s : ByteArray) (i : Nat) : (s.extract 0 i).data.toList = s.data.toList.take i := by rw [ext_list]; simp
theorem ext_from (s : ByteArray) (i : Nat) : (s.extract i s.size).data.toList = s.data.toList.drop i := by
  rw [ext_list, List.take_of_length_le (by rw [List.length_drop, data_len]; exact Nat.le_refl _)]
theorem cut_to (s : ByteArray) (k : Nat) (c : Int) (hc : c = (k : Int)) (h : k ≤ s.size) (u : World) : (Instr.slice 9 (.string s) none (some (.int .i64 c)) none).run Try.prog u = .ok (.string (s.extract 0 k)) u := by
  subst hc
  have := run_slice_string_h (P := Try.prog) (w := u) (t := 9) (s := s) Try.underlying9 .i64 (k : Int) (by omega) (by omega)
  rw [this]; rfl
theorem cut_rest (s : ByteArray) (k : Nat) (c : Int) (hc : c = (k : Int)) (h : k ≤ s.size) (u : World) : (Instr.slice 9 (.string s) (some (.int .i64 c)) none none).run Try.prog u = .ok (.string (s.extract k s.size)) u := by
  subst hc
  exact cut_from s k h u
theorem drew_same {w w' : World} (h : w' = w) : ∃ m, w' = w.drewN m := ⟨0, h⟩
theorem drew_next {a b c : World} (h : ∃ m, b = a.drewN m) (k : ∃ m, c = b.drewN m) : ∃ m, c = a.drewN m := by
  obtain ⟨m, rfl⟩ := h
  obtain ⟨n, rfl⟩ := k
  exact ⟨m + n, World.drewN_drewN _ _ _⟩

/-- Is a number from 0 to top? -/
def inB (top x : Int) : Bool := decide (0 ≤ x ∧ x ≤ top)
/-- Are all numbers from 0 to top? -/
def allIn (top : Int) (zs : List Int) : Bool := zs.all fun z => decide (0 ≤ z ∧ z ≤ top)

theorem in_yes {top : Int} {zs : List Int} (h : ∀ i, i < zs.length → 0 ≤ zs.getD i 0 ∧ zs.getD i 0 ≤ top) : allIn top zs = true := by
  unfold allIn
  rw [List.all_eq_true]
  intro z hz
  obtain ⟨i, hi, rfl⟩ := List.mem_iff_getElem.1 hz
  have := h i hi
  rw [List.getD_eq_getElem?_getD, List.getElem?_eq_getElem hi] at this
  simpa using this
theorem in_no {top : Int} {zs : List Int} {i : Nat} (hi : i < zs.length) (h : ¬ (0 ≤ zs.getD i 0 ∧ zs.getD i 0 ≤ top)) : allIn top zs = false := by
  unfold allIn
  rw [List.all_eq_false]
  refine ⟨zs[i], List.getElem_mem _, ?_⟩
  rw [List.getD_eq_getElem?_getD, List.getElem?_eq_getElem hi] at h
  simpa using h


theorem mayTexts_any (s : ByteArray) (w : World) (hs : s.size ≤ 65535) :
    Calls Try.prog 50 #[.string s] w fun e w' => e = .returned (.bool (texts s.data.toList)) ∧ w' = w := by
  have hl := data_len s
  go_enter Try.func50, Try.ntmps50
  go_wp2
  go_loop [3] (fun i => ∃ p : Nat, p ≤ s.size + 256 ∧ i = .int .i64 (p : Int) ∧ Hid (QAt s.data.toList p) ∧ (p = 0 → Hid (p = 0))) (fun i => s.size + 256 - (intOf i).toNat)
  case atStart => exact ⟨0, Nat.zero_le _, rfl, qat_start _, fun h => h⟩
  case round =>
    obtain ⟨p, hp, rfl, HQ, _⟩ := hrel
    by_cases hlt : p < s.size
    · have hb := UInt8.toNat_lt (s[p])
      have HE : Hid (QAt s.data.toList (p + (1 + s[p].toNat))) := qat_step HQ.out (by rw [hl]; exact hlt)
      go_wp2
      go_round
      case rel => exact ⟨p + (1 + s[p].toNat), by omega, by go_num, HE, fun h => h⟩
      case measure => simp [intOf]; omega
    · have HE : Hid (tq 0 s.data.toList = decide (p = s.data.toList.length)) := qat_end HQ.out (by omega)
      by_cases h0 : (0 : Int) < (p : Int)
      · have HT : Hid (texts s.data.toList = ((p : Int) == (s.size : Int))) := by
          unfold Hid texts
          rw [HE.out, hl, Bool.eq_iff_iff]; simp; omega
        go_wp2
        go_ret
        exact ⟨ret_bool HT.out.symm, rfl⟩
      · have HT : Hid (texts s.data.toList = false) := by
          unfold Hid texts; simp; omega
        have h0' : decide ((0 : Int) < (p : Int)) = false := by simpa using h0
        go_wp2
        go_ret
        exact ⟨ret_bool HT.out.symm, rfl⟩

/-- What cutName gives. -/
def cutT (s : ByteArray) : Option Nat → Value
  | none => .tuple #[.string ⟨#[]⟩, .string ⟨#[]⟩, .bool false]
  | some e => .tuple #[.string (s.extract 0 e), .string (s.extract e s.size), .bool true]
theorem ret_cut {s : ByteArray} {o : Option Nat} {v : Value} (h : cutL s.data.toList = o) (hv : v = cutT s o) : Ending.returned v = .returned (cutT s (cutL s.data.toList)) := by rw [h, hv]

set_option maxRecDepth 20000 in
theorem cutName_any (s : ByteArray) (w : World) (hs : s.size ≤ maxLen) :
    Calls Try.prog 56 #[.string s] w fun e w' => e = .returned (cutT s (cutL s.data.toList)) ∧ ∃ m, w' = w.drewN m := by
  have HM : Hid (s.size ≤ maxLen) := hs
  unfold maxLen at hs
  have hl := data_len s
  go_enter Try.func56, Try.ntmps56
  go_wp2
  go_loop [5] (fun i => ∃ p : Nat, p ≤ 600 ∧ i = .int .i64 (p : Int) ∧ Hid (ZAt s.data.toList p)) (fun i => 600 - (intOf i).toNat)
  case atStart => exact ⟨0, Nat.zero_le _, rfl, zat_start _⟩
  case round =>
    obtain ⟨p, hp, rfl, HA⟩ := hrel
    by_cases hlt : p < s.size
    · have hlt' : p < s.data.toList.length := by omega
      have hend : decide ((s.size : Int) < (p : Int) + 1) = false := by simp; omega
      have hcut := cut_to s (p + 1) ((p : Int) + 1) (by omega) (by omega)
      by_cases hfar : p < 255
      · have hb := UInt8.toNat_lt (s[p])
        have hfar' : (p : Int) < 255 := by omega
        by_cases h0 : s[p].toNat = 0
        · have HZ : Hid (cutL s.data.toList = if isName (s.data.toList.take (p + 1)) = true then some (p + 1) else none) := cut_at (zat_end HA.out hlt' h0)
          have h0' : ((s[p].toNat : Int) != 0) = false := by simp [h0]
          clear h0
          have hcut2 := cut_rest s (p + 1) ((p : Int) + 1) (by omega) (by omega)
          cases hn : isName (s.extract 0 (p + 1)).data.toList with
          | true =>
            have HR : Hid (cutL s.data.toList = some (p + 1)) := by unfold Hid; rw [HZ.out, if_pos (by rw [← ext_to]; exact hn)]
            have w4 : IntKind.i64.wrap ((p : Int) + 1) = (p : Int) + 1 := by rw [IntKind.wrap_i64]; omega
            go_wp2_with (go_at_call 40; go_must (refine (may_as _ true _ (by unfold maxLen; simp; omega) hn).mono ?_); rintro e w' ⟨rfl, hw⟩; obtain rfl := hw.symm)
            go_quiet (fail)
            go_wp2
            go_ret3
            exact ⟨ret_cut HR.out rfl, _, rfl⟩
          | false =>
            have HR : Hid (cutL s.data.toList = none) := by unfold Hid; rw [HZ.out, if_neg (by rw [← ext_to, hn]; simp)]
            go_wp2_with (go_at_call 40; go_must (refine (may_as _ false _ (by unfold maxLen; simp; omega) hn).mono ?_); rintro e w' ⟨rfl, hw⟩; obtain rfl := hw.symm)
            go_ret3
            exact ⟨ret_cut HR.out rfl, 0, rfl⟩
        · have HE : Hid (ZAt s.data.toList (p + (1 + s[p].toNat))) := zat_step HA.out hlt' h0
          have h0' : ((s[p].toNat : Int) != 0) = true := by simpa using h0
          go_wp2
          go_round
          case rel => exact ⟨p + (1 + s[p].toNat), by omega, by go_num, HE⟩
          case measure => simp [intOf]; omega
      · have hfar' : decide ((p : Int) < 255) = false := by simp; omega
        have HR : Hid (cutL s.data.toList = none) := cut_far HA.out (by omega)
        have hn : isName (s.extract 0 (p + 1)).data.toList = false := by rw [ext_to]; exact not_long (by rw [List.length_take]; omega)
        go_wp2_with (go_at_call 40; go_must (refine (may_as _ false _ (by unfold maxLen; simp; omega) hn).mono ?_); rintro e w' ⟨rfl, hw⟩; obtain rfl := hw.symm)
        go_ret3
        exact ⟨ret_cut HR.out rfl, 0, rfl⟩
    · have HR : Hid (cutL s.data.toList = none) := cut_none (zat_past HA.out (by omega))
      have hend : (s.size : Int) < (p : Int) + 1 := by omega
      go_wp2
      go_ret3
      exact ⟨ret_cut HR.out rfl, 0, rfl⟩

/-- What soaNames gives. -/
def soaT (s : ByteArray) : Option (Nat × Nat) → Value
  | none => .tuple #[.string ⟨#[]⟩, .string ⟨#[]⟩, .bool false]
  | some (a, b) => .tuple #[.string (s.extract 0 a), .string ((s.extract a s.size).extract 0 b), .bool true]
theorem ret_soa {s : ByteArray} {o : Option (Nat × Nat)} {v : Value} (h : soaL s.data.toList = o) (hv : v = soaT s o) : Ending.returned v = .returned (soaT s (soaL s.data.toList)) := by rw [h, hv]
theorem cutName_as (s : ByteArray) (o : Option Nat) (w : World) (hs : s.size ≤ maxLen) (h : cutL s.data.toList = o) :
    Calls Try.prog 56 #[.string s] w fun e w' => e = .returned (cutT s o) ∧ ∃ m, w' = w.drewN m := by rw [← h]; exact cutName_any s w hs

theorem soaNames_any (s : ByteArray) (w : World) (hs : s.size ≤ maxLen) :
    Calls Try.prog 49 #[.string s] w fun e w' => e = .returned (soaT s (soaL s.data.toList)) ∧ ∃ m, w' = w.drewN m := by
  have hl := data_len s
  cases hc : cutL s.data.toList with
  | none =>
    go_enter Try.func49, Try.ntmps49
    go_wp2_with (go_at_call 56; go_must (refine (cutName_as s none _ hs hc).mono ?_); rintro e w1 ⟨rfl, b1⟩; unfold cutT)
    go_ret3
    exact ⟨ret_soa (soa_cut hc) rfl, b1⟩
  | some a =>
    have hca := cut_some hc
    have hr : (s.extract a s.size).size = s.size - a := by simp
    have hrs : (s.extract a s.size).size ≤ maxLen := by unfold maxLen at hs ⊢; omega
    cases hc2 : cutL (s.extract a s.size).data.toList with
    | none =>
      go_enter Try.func49, Try.ntmps49
      go_wp2_with (first
        | (go_at_call_of 56 (#[Value.string s]); go_must (refine (cutName_as s (some a) _ hs hc).mono ?_); rintro e w1 ⟨rfl, b1⟩; unfold cutT)
        | (go_at_call 56; go_must (refine (cutName_as (s.extract a s.size) none _ hrs hc2).mono ?_); rintro e w2 ⟨rfl, b2⟩; unfold cutT))
      go_ret3
      exact ⟨ret_soa (soa_cut2 hc (by rw [← ext_from]; exact hc2)) rfl, drew_next b1 b2⟩
    | some b =>
      have hcb := cut_some hc2
      rw [data_len] at hcb
      have HA : Hid (soaL s.data.toList = if s.data.toList.length = a + b + 20 then some (a, b) else none) := soa_at hc (by rw [← ext_from]; exact hc2)
      by_cases h20 : s.size = a + b + 20
      · have HR : Hid (soaL s.data.toList = some (a, b)) := by unfold Hid; rw [HA.out, if_pos (by omega)]
        have ht : (((s.size - a - b : Nat) : Int) != 20) = false := by simp; omega
        clear h20 hr
        go_enter Try.func49, Try.ntmps49
        go_wp2_with (first
          | (go_at_call_of 56 (#[Value.string s]); go_must (refine (cutName_as s (some a) _ hs hc).mono ?_); rintro e w1 ⟨rfl, b1⟩; unfold cutT)
          | (go_at_call 56; go_must (refine (cutName_as (s.extract a s.size) (some b) _ hrs hc2).mono ?_); rintro e w2 ⟨rfl, b2⟩; unfold cutT))
        go_ret3
        exact ⟨ret_soa HR.out rfl, drew_next b1 b2⟩
      · have HR : Hid (soaL s.data.toList = none) := by unfold Hid; rw [HA.out, if_neg (by omega)]
        have ht : (((s.size - a - b : Nat) : Int) != 20) = true := by simp; omega
        clear h20 hr
        go_enter Try.func49, Try.ntmps49
        go_wp2_with (first
          | (go_at_call_of 56 (#[Value.string s]); go_must (refine (cutName_as s (some a) _ hs hc).mono ?_); rintro e w1 ⟨rfl, b1⟩; unfold cutT)
          | (go_at_call 56; go_must (refine (cutName_as (s.extract a s.size) (some b) _ hrs hc2).mono ?_); rintro e w2 ⟨rfl, b2⟩; unfold cutT))
        go_ret3
        exact ⟨ret_soa HR.out rfl, drew_next b1 b2⟩

end Go.Proofs.Ytdaegnmokaibpaa
