/- What May of package name and Num give, for every argument. -/
import Derived.Test.YtbldoplemfjcjaaRows
import Derived.Test.YtbldoplemfjcjaaPlain
import Derived.WalkKit
import Derived.WalkMore
import Derived.Deep.LoopGhost
namespace Go.Proofs.Ytbldoplemfjcjaa
open Go.RowKit
open Pl

theorem ret_bool {a b : Bool} (h : a = b) : Ending.returned (.bool a) = .returned (.bool b) := by rw [h]
theorem ret_int {k : IntKind} {a b : Int} (h : a = b) : Ending.returned (.int k a) = .returned (.int k b) := by rw [h]

theorem maySize_any (n : Int) (w : World) (h0 : -1000000 ≤ n) (h1 : n ≤ 1000000) :
    Calls Try.prog 49 #[.int .i64 n] w fun e w' => e = .returned (.bool (sizeB n)) ∧ w' = w := by
  go_enter Try.func49, Try.ntmps49
  go_wp2
  all_goals go_ret
  all_goals refine ⟨ret_bool ?_, rfl⟩
  · subst n; rfl
  · rw [Bool.eq_iff_iff]; simp [sizeB]; omega

theorem num_any (n : Int) (w : World) :
    Calls Try.prog 10 #[.int .i64 n] w fun e w' => e = .returned (.int .i64 n) ∧ w' = w := by
  go_enter Try.func10, Try.ntmps10
  go_wp2
  go_ret
  exact ⟨rfl, rfl⟩

theorem byte_at (s : ByteArray) (k : Nat) (h : k < s.size) : s.data.toList[k]'(by simpa using h) = s[k] := rfl

theorem ret_name {l : List UInt8} {n : Nat} (h : nm l = some n) : Ending.returned (.tuple #[.int .i64 n, .bool true]) = .returned (.tuple #[.int .i64 (cnt l), .bool (isName l)]) := by
  unfold cnt isName; rw [h]; rfl
theorem ret_noName {l : List UInt8} (h : nm l = none) : Ending.returned (.tuple #[.int .i64 0, .bool false]) = .returned (.tuple #[.int .i64 (cnt l), .bool (isName l)]) := by
  unfold cnt isName; rw [h]; rfl

theorem measure_any (s : ByteArray) (w : World) (hs : s.size ≤ maxLen) :
    Calls Try.prog 43 #[.string s] w fun e w' => e = .returned (.tuple #[.int .i64 (cnt s.data.toList), .bool (isName s.data.toList)]) ∧ w' = w := by
  unfold maxLen at hs
  have hl : s.data.toList.length = s.size := by rw [Array.length_toList]; rfl
  by_cases h : s.size ≤ 255
  · go_enter Try.func43, Try.ntmps43
    go_wp2
    go_step3
    go_wp2
    go_step3
    go_wp2
    go_loop [4, 5] (fun c i => ∃ n p : Nat, n ≤ p ∧ p ≤ 400 ∧ c = .int .i64 n ∧ i = .int .i64 p ∧ Hid (At s.data.toList p n)) (fun _ i => s.size - (intOf i).toNat)
    case atStart => exact ⟨0, 0, Nat.zero_le _, by omega, rfl, rfl, at_start _⟩
    case round =>
      obtain ⟨n, p, hnp, hp4, rfl, rfl, hat⟩ := hrel
      have hn := nm_short (l := s.data.toList) (by omega)
      have HN : Hid (nm s.data.toList = nmS 0 s.data.toList) := hn
      clear hn
      by_cases hlt : p < s.size
      · have hb := UInt8.toNat_lt (s[p])
        have hlt' : p < s.data.toList.length := by omega
        by_cases h0 : ((s[p].toNat : Int) == 0) = true
        · have hz : s[p].toNat = 0 := by simpa using h0
          have HE : Hid (nm s.data.toList = if p + 1 = s.data.toList.length then some n else none) := HN.out.trans (at_end hat hlt' hz)
          clear hz
          by_cases he : ((p : Int) != (s.size : Int) - 1) = true
          · have hne : ¬ (p + 1 = s.data.toList.length) := by simp at he; omega
            go_wp2
            go_ret2
            refine ⟨ret_noName ?_, rfl⟩
            rw [HE.out, if_neg hne]
          · have hne : (p + 1 = s.data.toList.length) := by simp at he; omega
            go_wp2
            go_ret2
            refine ⟨ret_name ?_, rfl⟩
            rw [HE.out, if_pos hne]
        · have hz : s[p].toNat ≠ 0 := by simpa using h0
          by_cases h6 : sizeB (s[p].toNat) = true
          · have h63 : s[p].toNat ≤ 63 := by simp [sizeB] at h6; omega
            have HE : Hid (At s.data.toList (p + (1 + s[p].toNat)) (n + 1)) := at_step hat hlt' hz h63
            go_wp2_with (go_at_call 49; refine (maySize_any _ _ (by omega) (by omega)).mono ?_; rintro e w' ⟨rfl, rfl⟩)
            go_round
            case rel => exact ⟨n + 1, p + (1 + s[p].toNat), by omega, by omega, by go_num, by go_num, HE⟩
            case measure => simp [intOf]; omega
          · have h63 : 63 < s[p].toNat := by simp [sizeB] at h6; omega
            have HE : Hid (nm s.data.toList = none) := HN.out.trans (at_great hat hlt' h63)
            go_wp2_with (go_at_call 49; refine (maySize_any _ _ (by omega) (by omega)).mono ?_; rintro e w' ⟨rfl, rfl⟩)
            rw [Exit.noGoto_ret]
            go_ret2
            exact ⟨ret_noName HE.out, rfl⟩
      · have HE : Hid (nm s.data.toList = none) := HN.out.trans (at_past hat (by omega))
        have hne : ((p : Int) != (s.size : Int) - 1) = true := by simp; omega
        go_wp2
        go_ret2
        exact ⟨ret_noName HE.out, rfl⟩
  · have HE : Hid (nm s.data.toList = none) := by unfold Hid nm; rw [if_pos (by omega)]
    go_enter Try.func43, Try.ntmps43
    go_wp2
    go_step3
    go_wp2
    try rw [Exit.noGoto_ret]
    go_ret2
    exact ⟨ret_noName HE.out, rfl⟩

theorem may_any (s : ByteArray) (w : World) (hs : s.size ≤ maxLen) :
    Calls Try.prog 34 #[.string s] w fun e w' => e = .returned (.bool (isName s.data.toList)) ∧ w' = w := by
  go_enter Try.func34, Try.ntmps34
  go_wp2_with (go_at_call 43; refine (measure_any _ _ hs).mono ?_; rintro e w' ⟨rfl, rfl⟩)
  go_ret
  exact ⟨rfl, rfl⟩

end Go.Proofs.Ytbldoplemfjcjaa
