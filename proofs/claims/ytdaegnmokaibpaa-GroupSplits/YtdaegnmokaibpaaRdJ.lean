/- What the document's whole, texts, DataMay, wide, A, Addr, Mx and Host give. -/
import Derived.Test.YtdaegnmokaibpaaRdB
namespace Go.Proofs.Ytdaegnmokaibpaa
open Go.RowKit
open Pl

theorem refMay_as (s : ByteArray) (b : Bool) (w : World) (hs : s.size ≤ maxLen) (h : isName s.data.toList = b) :
    Calls Try.prog 29 #[.string s] w fun e w' => e = .returned (.bool b) ∧ Below w.heap.size w w' := by rw [← h]; exact refMay_any s w hs
theorem drop_getE (s : ByteArray) (k p : Nat) (h : k + p < s.size) : (s.data.toList.drop k)[p]'(by rw [List.length_drop, data_len]; omega) = s[k + p] := by
  rw [List.getElem_drop]; rfl
/-- What whole gives. -/
def wholeI (l : List UInt8) (k : Nat) : Int :=
  match cutL (l.drop k) with
  | none => -1
  | some e => (k : Int) + (e : Int)
theorem whole_none {l : List UInt8} {k : Nat} (h : cutL (l.drop k) = none) : wholeI l k = -1 := by unfold wholeI; rw [h]
theorem whole_some {l : List UInt8} {k e : Nat} (h : cutL (l.drop k) = some e) : wholeI l k = (k : Int) + (e : Int) := by unfold wholeI; rw [h]
theorem ret_i {a b : Int} (h : a = b) : Ending.returned (.int .i64 a) = .returned (.int .i64 b) := by rw [h]

set_option maxRecDepth 20000 in
set_option maxHeartbeats 2000000 in
theorem whole_any (s : ByteArray) (k : Nat) (w : World) (hs : s.size ≤ 65535) (hk : k ≤ s.size) :
    Calls Try.prog 45 #[.string s, .int .i64 (k : Int)] w fun e w' => e = .returned (.int .i64 (wholeI s.data.toList k)) ∧ Below w.heap.size w w' := by
  have hl := data_len s
  have hb : Below w.heap.size w w := Below.refl _ _
  go_enter Try.func45, Try.ntmps45
  go_wp2
  go_loop [5] (fun i => ∃ p : Nat, p ≤ s.size + 300 ∧ i = .int .i64 ((k : Int) + (p : Int)) ∧ Hid (ZAt (s.data.toList.drop k) p)) (fun i => s.size + s.size + 600 - (intOf i).toNat)
  case atStart => exact ⟨0, by omega, by simp, zat_start _⟩
  case round =>
    obtain ⟨p, hp, rfl, HA⟩ := hrel
    by_cases hlt : k + p < s.size
    · have hlt' : p < (s.data.toList.drop k).length := by rw [List.length_drop, hl]; omega
      have hbyte := drop_getE s k p hlt
      have hb8 := UInt8.toNat_lt (s[k + p])
      have hi := idx s (k + p) ((k : Int) + (p : Int)) (by omega) hlt
      have hltI : (k : Int) + (p : Int) < (s.size : Int) := by omega
      obtain ⟨c, hc⟩ : ∃ c : UInt8, c = s[k + p] := ⟨_, rfl⟩
      rw [← hc] at hbyte hb8 hi
      by_cases h0 : c.toNat = 0
      · have HZ : Hid (cutL (s.data.toList.drop k) = if isName ((s.data.toList.drop k).take (p + 1)) = true then some (p + 1) else none) := cut_at (zat_end HA.out hlt' (by rw [hbyte]; exact h0))
        have h0' : ((c.toNat : Int) == 0) = true := by simpa using h0
        have hcut : ∀ u : World, (Instr.slice 9 (.string s) (some (.int .i64 (k : Int))) (some (.int .i64 ((k : Int) + (p : Int) + 1))) none).run Try.prog u = .ok (.string (s.extract k (k + p + 1))) u := fun u => by
          have := run_slice_string (P := Try.prog) u 9 s .i64 .i64 (k : Int) ((k : Int) + (p : Int) + 1) Try.underlying9 (by omega) (by omega) (by omega)
          rw [this, show ((k : Int) + (p : Int) + 1).toNat = k + p + 1 from by omega]; rfl
        have hxl : (s.extract k (k + p + 1)).data.toList = (s.data.toList.drop k).take (p + 1) := by rw [ext_list, show k + p + 1 - k = p + 1 from by omega]
        obtain ⟨X, hX⟩ : ∃ X, X = s.extract k (k + p + 1) := ⟨_, rfl⟩
        have hXs : X.size ≤ maxLen := by rw [hX]; unfold maxLen; simp; omega
        rw [← hX] at hcut hxl
        clear hc h0 hX hbyte
        cases hn : isName X.data.toList with
        | true =>
          have HR : Hid (wholeI s.data.toList k = (k : Int) + (p : Int) + 1) := by
            unfold Hid; rw [whole_some (HZ.out.trans (if_pos (by rw [← hxl]; exact hn)))]; omega
          go_wp2_with (go_at_call 29; go_must (refine (refMay_as X true _ hXs hn).mono ?_); rintro e w1 ⟨rfl, b1⟩)
          go_ret
          exact ⟨ret_i HR.out.symm, b1⟩
        | false =>
          have HR : Hid (wholeI s.data.toList k = -1) := whole_none (HZ.out.trans (if_neg (by rw [← hxl, hn]; simp)))
          go_wp2_with (go_at_call 29; go_must (refine (refMay_as X false _ hXs hn).mono ?_); rintro e w1 ⟨rfl, b1⟩)
          go_ret
          exact ⟨ret_i HR.out.symm, b1⟩
      · have HE : Hid (ZAt (s.data.toList.drop k) (p + (1 + c.toNat))) := by
          have := zat_step HA.out hlt' (by rw [hbyte]; exact h0)
          rw [hbyte] at this
          exact this
        have h0' : ((c.toNat : Int) == 0) = false := by simpa using h0
        clear hc hbyte
        go_wp2
        go_round
        case rel => exact ⟨p + (1 + c.toNat), by omega, by go_num, HE⟩
        case measure => simp [intOf]; omega
    · have HR : Hid (wholeI s.data.toList k = -1) := whole_none (cut_none (zat_past HA.out (by rw [List.length_drop, hl]; omega)))
      have hlt' : decide ((k : Int) + (p : Int) < (s.size : Int)) = false := by simp; omega
      go_wp2
      go_ret
      exact ⟨ret_i HR.out.symm, hb⟩

theorem refTexts_any (s : ByteArray) (w : World) (hs : s.size ≤ 65535) :
    Calls Try.prog 46 #[.string s] w fun e w' => e = .returned (.bool (texts s.data.toList)) ∧ w' = w := by
  have hl := data_len s
  go_enter Try.func46, Try.ntmps46
  go_wp2
  go_loop [3] (fun i => ∃ p : Nat, p ≤ s.size + 256 ∧ i = .int .i64 (p : Int) ∧ Hid (QAt s.data.toList p)) (fun i => s.size + 256 - (intOf i).toNat)
  case atStart => exact ⟨0, Nat.zero_le _, rfl, qat_start _⟩
  case round =>
    obtain ⟨p, hp, rfl, HQ⟩ := hrel
    by_cases hlt : p < s.size
    · have hb := UInt8.toNat_lt (s[p])
      have HE : Hid (QAt s.data.toList (p + (1 + s[p].toNat))) := qat_step HQ.out (by rw [hl]; exact hlt)
      go_wp2
      go_round
      case rel => exact ⟨p + (1 + s[p].toNat), by omega, by go_num, HE⟩
      case measure => simp [intOf]; omega
    · have HE : Hid (tq 0 s.data.toList = decide (p = s.data.toList.length)) := qat_end HQ.out (by omega)
      by_cases h1 : p = s.size
      · have HT : Hid (texts s.data.toList = decide (0 < p)) := by
          unfold Hid texts
          rw [HE.out, hl, Bool.eq_iff_iff]; simp; omega
        have h1' : ((p : Int) == (s.size : Int)) = true := by rw [h1]; simp
        have hlt' : decide (p < s.size) = false := by simp; omega
        clear h1
        go_wp2
        go_ret
        exact ⟨ret_bool HT.out.symm, rfl⟩
      · have HT : Hid (texts s.data.toList = false) := by
          unfold Hid texts; rw [HE.out, hl]; simp; omega
        have h1' : ((p : Int) == (s.size : Int)) = false := by simp; omega
        go_wp2
        go_ret
        exact ⟨ret_bool HT.out.symm, rfl⟩

end Go.Proofs.Ytdaegnmokaibpaa
