/- NameCounts holds: for every two strings, a label ahead makes one label more, and the text has as many dots. -/
import Derived.Test.YtkfpboippchdbaaWalkH
import Derived.Test.YtkfpboippchdbaaPlainE
import Derived.Laws.Slices
import Derived.ProofKit
import Derived.OpenShut
import Derived.ShutString
namespace Go.Proofs.Ytkfpboippchdbaa.nameCounts
open Go.ChangeShapes Go.WideShapes Go.ChangeAt Go.RowKit
open Go.ChangeMaps (open_string shut_string)
open Pl

theorem size_app (a b : ByteArray) : (a ++ b).size = a.size + b.size := by simp
theorem size_one (x : UInt8) : ({ data := #[x] } : ByteArray).size = 1 := rfl
theorem app_list (a b : ByteArray) : (a ++ b).data.toList = a.data.toList ++ b.data.toList := by simp
theorem take_at (s : ByteArray) (k : Nat) (h : k < s.size) : s.data.toList.take (k + 1) = s.data.toList.take k ++ [s[k]] := by
  rw [List.take_succ_eq_append_getElem (by rw [data_len]; exact h)]; rfl

set_option maxRecDepth 20000 in
set_option maxHeartbeats 4000000 in
theorem core_short (a0 a1 ta tb: ByteArray) (w : World) (s0 : a0.size ≤ maxLen) (K : UInt8) (n : Nat) (hK : (K.toNat : Int) = (a1.size : Int)) (hx1 : a1.size ≤ 40) (hx0 : (a1.toList == []) = false) (hsum : a0.size + a1.size ≤ 200)
    (H1 : Hid (isName a0.data.toList = true)) (HTA : Hid (ta.data.toList = tx a0.data.toList)) (H2 : Hid (isName (({ data := #[K] } : ByteArray) ++ a1 ++ a0).data.toList = true)) (HTB : Hid (tb.data.toList = tx (({ data := #[K] } : ByteArray) ++ a1 ++ a0).data.toList))
    (HC : Hid (cnt (({ data := #[K] } : ByteArray) ++ a1 ++ a0).data.toList = cnt a0.data.toList + 1)) (HD : Hid (dots tb.data.toList = cnt a0.data.toList + 1)) (HCN : Hid (cnt a0.data.toList = n)) (hn : n ≤ 2000)
    (htb : tb.size ≤ 1020) (hta : ta.size ≤ 1020) (hlast : (a0.toList == [0]) = true → ∃ m, tb.size = m + 1 ∧ ∀ h : m < tb.size, (tb[m]'h).toNat = 46)
    (hsuf : (a0.toList == [0]) = false → ta.size < tb.size ∧ tb.extract (tb.size - ta.size) tb.size = ta) :
    Calls Try.prog 6 #[.string a0, .string a1] w fun e w' => e = .returned (.bool true) ∧ Below w.heap.size w w' := by
  have hS : (({ data := #[K] } : ByteArray) ++ a1 ++ a0).size ≤ maxLen := by rw [size_app, size_app, size_one]; unfold maxLen; omega
  have HS : Hid ((({ data := #[K] } : ByteArray) ++ a1 ++ a0).size ≤ maxLen) := hS
  have hcv : ∀ (u : World) (g : Nat), g = u.heap.size → (convert 32 9 (.slice (some ⟨g, 0, none⟩) 1 1)).run Try.prog (u.alloc (.cells #[.int .u8 (a1.size : Int)] 5)) = .ok (.string ⟨#[K]⟩) (u.alloc (.cells #[.int .u8 (a1.size : Int)] 5)) := fun u g hg => by
    subst hg
    have := conv_lit [K] u
    rw [show [K].map bv = [Value.int .u8 (a1.size : Int)] from by simp [bv, hK]] at this
    exact this
  clear hK hS
  have t1 : True := trivial
  have t2 : True := trivial
  have t3 : True := trivial
  have t4 : True := trivial
  have t5 : True := trivial
  have t6 : True := trivial
  go_enter Try.func6, Try.ntmps6
  go_wp2_with (first
    | (go_at_call 18; refine (awake_any _).mono ?_; rintro e w1 ⟨rfl, hb1⟩)
    | (go_at_call 14; have _t := t1; refine (may_as _ true _ s0 H1.out).mono ?_; rintro e w' ⟨rfl, hw⟩; obtain rfl := hw.symm; clear t1)
    | (go_at_call 9; have _t := t2; refine (text_ok a0 ta _ s0 H1.out HTA.out).mono ?_; rintro e w2 ⟨rfl, hb2⟩; clear t2)
    | (go_at_call 9; have _t := t3; refine (text_ok _ tb _ HS.out H2.out HTB.out).mono ?_; rintro e w3 ⟨rfl, hb3⟩; clear t3)
    | (go_at_call 13; refine (num_any _ _).mono ?_; rintro e w' ⟨rfl, hw⟩; obtain rfl := hw.symm)
    | (go_at_call 16; have _t := t4; refine (count_as _ (n + 1) _ HS.out (by rw [HC.out, HCN.out])).mono ?_; rintro e w' ⟨rfl, hw⟩; obtain rfl := hw.symm; clear t4)
    | (go_at_call 16; have _t := t5; refine (count_as _ n _ s0 HCN.out).mono ?_; rintro e w' ⟨rfl, hw⟩; obtain rfl := hw.symm; clear t5)
    | (go_at_call 14; have _t := t6; refine (may_as _ true _ HS.out H2.out).mono ?_; rintro e w' ⟨rfl, hw⟩; obtain rfl := hw.symm; clear t6))
  have hb4 := next (next (lay hb1 _) hb2) hb3
  clear hb1 hb2 hb3 hcv HTA HTB
  go_loop [11, 12] (fun d i => ∃ j : Nat, j ≤ tb.size ∧ i = .int .i64 j ∧ d = .int .i64 (dots (tb.data.toList.take j))) (fun _ i => tb.size - (intOf i).toNat)
  case atStart => exact ⟨0, Nat.zero_le _, rfl, rfl⟩
  case round =>
    obtain ⟨j, hj, rfl, rfl⟩ := hrel
    have hdl : dots (tb.data.toList.take j) ≤ 1020 := by have := dots_le (tb.data.toList.take j); simp at this; omega
    by_cases hlt : j < tb.size
    · have HSN : Hid (dots (tb.data.toList.take (j + 1)) = dots (tb.data.toList.take j) + if (tb[j]).toNat = 46 then 1 else 0) := by
        unfold Hid; rw [← dots_snoc, take_at tb j hlt]
      have hb8 := (tb[j]).toNat_lt
      by_cases h46 : ((tb[j].toNat : Int) == 46) = true
      · have hq : tb[j].toNat = 46 := by simp at h46; omega
        have HQ : Hid (tb[j].toNat = 46) := hq
        clear hq
        go_wp2
        go_round
        case rel => exact ⟨j + 1, by omega, by go_num, by rw [HSN.out, if_pos HQ.out]; go_num⟩
        case measure => simp [intOf]; omega
      · have hq : tb[j].toNat ≠ 46 := by simp at h46; omega
        have HQ : Hid (tb[j].toNat ≠ 46) := hq
        clear hq
        go_wp2
        go_round
        case rel => exact ⟨j + 1, by omega, by go_num, by rw [HSN.out, if_neg HQ.out]; rfl⟩
        case measure => simp [intOf]; omega
    · have hd : dots (tb.data.toList.take j) = n + 1 := by rw [List.take_of_length_le (by rw [data_len]; omega), HD.out, HCN.out]
      clear hdl
      cases hroot : (a0.toList == [0]) with
      | true =>
        obtain ⟨m, hm1, hm2⟩ := hlast hroot
        have hm3 : m < tb.size := by omega
        have hm4 : (tb[m]).toNat = 46 := hm2 hm3
        clear hm2 hlast hsuf
        go_wp2_with (go_at_call 16; refine (count_as _ (n + 1) _ HS.out (by rw [HC.out, HCN.out])).mono ?_; rintro e w' ⟨rfl, hw⟩; obtain rfl := hw.symm)
        go_ret
        exact ⟨rfl, hb4⟩
      | false =>
        obtain ⟨hs1, hs2⟩ := hsuf hroot
        have hcut2 : ∀ u : World, (Instr.slice 9 (.string tb) (some (.int .i64 ((tb.size : Int) - (ta.size : Int)))) none none).run Try.prog u = .ok (.string ta) u := fun u => by
          have := run_slice_string_l (P := Try.prog) (w := u) (t := 9) (s := tb) Try.underlying9 .i64 ((tb.size : Int) - (ta.size : Int)) (by omega) (by omega)
          rw [this, show ((tb.size : Int) - (ta.size : Int)).toNat = tb.size - ta.size from by omega, hs2]
        clear hlast hsuf hs2
        go_wp2_with (go_at_call 16; refine (count_as _ (n + 1) _ HS.out (by rw [HC.out, HCN.out])).mono ?_; rintro e w' ⟨rfl, hw⟩; obtain rfl := hw.symm)
        go_ret
        exact ⟨rfl, hb4⟩

set_option maxRecDepth 20000 in
set_option maxHeartbeats 4000000 in
theorem core_long (a0 a1 ta tb x : ByteArray) (w : World) (s0 : a0.size ≤ maxLen) (hlong : 40 < a1.size) (hlong2 : a1.size ≤ 9223372036854775807) (hcut : ∀ u : World, (Instr.slice 9 (.string a1) none (some (.int .i64 40)) none).run Try.prog u = .ok (.string x) u) (K : UInt8) (n : Nat) (hK : (K.toNat : Int) = (x.size : Int)) (hx1 : x.size ≤ 40) (hx0 : (x.toList == []) = false) (hsum : a0.size + x.size ≤ 200)
    (H1 : Hid (isName a0.data.toList = true)) (HTA : Hid (ta.data.toList = tx a0.data.toList)) (H2 : Hid (isName (({ data := #[K] } : ByteArray) ++ x ++ a0).data.toList = true)) (HTB : Hid (tb.data.toList = tx (({ data := #[K] } : ByteArray) ++ x ++ a0).data.toList))
    (HC : Hid (cnt (({ data := #[K] } : ByteArray) ++ x ++ a0).data.toList = cnt a0.data.toList + 1)) (HD : Hid (dots tb.data.toList = cnt a0.data.toList + 1)) (HCN : Hid (cnt a0.data.toList = n)) (hn : n ≤ 2000)
    (htb : tb.size ≤ 1020) (hta : ta.size ≤ 1020) (hlast : (a0.toList == [0]) = true → ∃ m, tb.size = m + 1 ∧ ∀ h : m < tb.size, (tb[m]'h).toNat = 46)
    (hsuf : (a0.toList == [0]) = false → ta.size < tb.size ∧ tb.extract (tb.size - ta.size) tb.size = ta) :
    Calls Try.prog 6 #[.string a0, .string a1] w fun e w' => e = .returned (.bool true) ∧ Below w.heap.size w w' := by
  have hS : (({ data := #[K] } : ByteArray) ++ x ++ a0).size ≤ maxLen := by rw [size_app, size_app, size_one]; unfold maxLen; omega
  have HS : Hid ((({ data := #[K] } : ByteArray) ++ x ++ a0).size ≤ maxLen) := hS
  have hcv : ∀ (u : World) (g : Nat), g = u.heap.size → (convert 32 9 (.slice (some ⟨g, 0, none⟩) 1 1)).run Try.prog (u.alloc (.cells #[.int .u8 (x.size : Int)] 5)) = .ok (.string ⟨#[K]⟩) (u.alloc (.cells #[.int .u8 (x.size : Int)] 5)) := fun u g hg => by
    subst hg
    have := conv_lit [K] u
    rw [show [K].map bv = [Value.int .u8 (x.size : Int)] from by simp [bv, hK]] at this
    exact this
  clear hK hS
  have t1 : True := trivial
  have t2 : True := trivial
  have t3 : True := trivial
  have t4 : True := trivial
  have t5 : True := trivial
  have t6 : True := trivial
  go_enter Try.func6, Try.ntmps6
  go_wp2_with (first
    | (go_at_call 18; refine (awake_any _).mono ?_; rintro e w1 ⟨rfl, hb1⟩)
    | (go_at_call 14; have _t := t1; refine (may_as _ true _ s0 H1.out).mono ?_; rintro e w' ⟨rfl, hw⟩; obtain rfl := hw.symm; clear t1)
    | (go_at_call 9; have _t := t2; refine (text_ok a0 ta _ s0 H1.out HTA.out).mono ?_; rintro e w2 ⟨rfl, hb2⟩; clear t2)
    | (go_at_call 9; have _t := t3; refine (text_ok _ tb _ HS.out H2.out HTB.out).mono ?_; rintro e w3 ⟨rfl, hb3⟩; clear t3)
    | (go_at_call 13; refine (num_any _ _).mono ?_; rintro e w' ⟨rfl, hw⟩; obtain rfl := hw.symm)
    | (go_at_call 16; have _t := t4; refine (count_as _ (n + 1) _ HS.out (by rw [HC.out, HCN.out])).mono ?_; rintro e w' ⟨rfl, hw⟩; obtain rfl := hw.symm; clear t4)
    | (go_at_call 16; have _t := t5; refine (count_as _ n _ s0 HCN.out).mono ?_; rintro e w' ⟨rfl, hw⟩; obtain rfl := hw.symm; clear t5)
    | (go_at_call 14; have _t := t6; refine (may_as _ true _ HS.out H2.out).mono ?_; rintro e w' ⟨rfl, hw⟩; obtain rfl := hw.symm; clear t6))
  have hb4 := next (next (lay hb1 _) hb2) hb3
  clear hb1 hb2 hb3 hcv HTA HTB
  go_loop [11, 12] (fun d i => ∃ j : Nat, j ≤ tb.size ∧ i = .int .i64 j ∧ d = .int .i64 (dots (tb.data.toList.take j))) (fun _ i => tb.size - (intOf i).toNat)
  case atStart => exact ⟨0, Nat.zero_le _, rfl, rfl⟩
  case round =>
    obtain ⟨j, hj, rfl, rfl⟩ := hrel
    have hdl : dots (tb.data.toList.take j) ≤ 1020 := by have := dots_le (tb.data.toList.take j); simp at this; omega
    by_cases hlt : j < tb.size
    · have HSN : Hid (dots (tb.data.toList.take (j + 1)) = dots (tb.data.toList.take j) + if (tb[j]).toNat = 46 then 1 else 0) := by
        unfold Hid; rw [← dots_snoc, take_at tb j hlt]
      have hb8 := (tb[j]).toNat_lt
      by_cases h46 : ((tb[j].toNat : Int) == 46) = true
      · have hq : tb[j].toNat = 46 := by simp at h46; omega
        have HQ : Hid (tb[j].toNat = 46) := hq
        clear hq
        go_wp2
        go_round
        case rel => exact ⟨j + 1, by omega, by go_num, by rw [HSN.out, if_pos HQ.out]; go_num⟩
        case measure => simp [intOf]; omega
      · have hq : tb[j].toNat ≠ 46 := by simp at h46; omega
        have HQ : Hid (tb[j].toNat ≠ 46) := hq
        clear hq
        go_wp2
        go_round
        case rel => exact ⟨j + 1, by omega, by go_num, by rw [HSN.out, if_neg HQ.out]; rfl⟩
        case measure => simp [intOf]; omega
    · have hd : dots (tb.data.toList.take j) = n + 1 := by rw [List.take_of_length_le (by rw [data_len]; omega), HD.out, HCN.out]
      clear hdl
      cases hroot : (a0.toList == [0]) with
      | true =>
        obtain ⟨m, hm1, hm2⟩ := hlast hroot
        have hm3 : m < tb.size := by omega
        have hm4 : (tb[m]).toNat = 46 := hm2 hm3
        clear hm2 hlast hsuf
        go_wp2_with (go_at_call 16; refine (count_as _ (n + 1) _ HS.out (by rw [HC.out, HCN.out])).mono ?_; rintro e w' ⟨rfl, hw⟩; obtain rfl := hw.symm)
        go_ret
        exact ⟨rfl, hb4⟩
      | false =>
        obtain ⟨hs1, hs2⟩ := hsuf hroot
        have hcut2 : ∀ u : World, (Instr.slice 9 (.string tb) (some (.int .i64 ((tb.size : Int) - (ta.size : Int)))) none none).run Try.prog u = .ok (.string ta) u := fun u => by
          have := run_slice_string_l (P := Try.prog) (w := u) (t := 9) (s := tb) Try.underlying9 .i64 ((tb.size : Int) - (ta.size : Int)) (by omega) (by omega)
          rw [this, show ((tb.size : Int) - (ta.size : Int)).toNat = tb.size - ta.size from by omega, hs2]
        clear hlast hsuf hs2
        go_wp2_with (go_at_call 16; refine (count_as _ (n + 1) _ HS.out (by rw [HC.out, HCN.out])).mono ?_; rintro e w' ⟨rfl, hw⟩; obtain rfl := hw.symm)
        go_ret
        exact ⟨rfl, hb4⟩

theorem no_short (a0 a1 : ByteArray) (w : World) (s0 : a0.size ≤ maxLen) (hx1 : a1.size ≤ 40) (H1 : Hid (isName a0.data.toList = false)) :
    Calls Try.prog 6 #[.string a0, .string a1] w fun e w' => e = .returned (.bool true) ∧ Below w.heap.size w w' := by
  go_enter Try.func6, Try.ntmps6
  go_wp2_with (first
    | (go_at_call 18; refine (awake_any _).mono ?_; rintro e w1 ⟨rfl, hb1⟩)
    | (go_at_call 14; refine (may_as _ false _ s0 H1.out).mono ?_; rintro e w' ⟨rfl, hw⟩; obtain rfl := hw.symm))
  go_ret
  exact ⟨rfl, hb1⟩

theorem no_long (a0 a1 x : ByteArray) (w : World) (s0 : a0.size ≤ maxLen) (hlong : 40 < a1.size) (hlong2 : a1.size ≤ 9223372036854775807) (hcut : ∀ u : World, (Instr.slice 9 (.string a1) none (some (.int .i64 40)) none).run Try.prog u = .ok (.string x) u) (H1 : Hid (isName a0.data.toList = false)) :
    Calls Try.prog 6 #[.string a0, .string a1] w fun e w' => e = .returned (.bool true) ∧ Below w.heap.size w w' := by
  go_enter Try.func6, Try.ntmps6
  go_wp2_with (first
    | (go_at_call 18; refine (awake_any _).mono ?_; rintro e w1 ⟨rfl, hb1⟩)
    | (go_at_call 14; refine (may_as _ false _ s0 H1.out).mono ?_; rintro e w' ⟨rfl, hw⟩; obtain rfl := hw.symm))
  go_ret
  exact ⟨rfl, hb1⟩

theorem empty_short (a0 a1 : ByteArray) (w : World) (s0 : a0.size ≤ maxLen) (hx1 : a1.size ≤ 40) (he : (a1.toList == []) = true) (H1 : Hid (isName a0.data.toList = true)) :
    Calls Try.prog 6 #[.string a0, .string a1] w fun e w' => e = .returned (.bool true) ∧ Below w.heap.size w w' := by
  go_enter Try.func6, Try.ntmps6
  go_wp2_with (first
    | (go_at_call 18; refine (awake_any _).mono ?_; rintro e w1 ⟨rfl, hb1⟩)
    | (go_at_call 14; refine (may_as _ true _ s0 H1.out).mono ?_; rintro e w' ⟨rfl, hw⟩; obtain rfl := hw.symm))
  go_ret
  exact ⟨rfl, hb1⟩

theorem much_short (a0 a1 : ByteArray) (w : World) (s0 : a0.size ≤ maxLen) (hx1 : a1.size ≤ 40) (he : (a1.toList == []) = false) (hn : a0.size ≤ 255) (hsum : 200 < a0.size + a1.size) (H1 : Hid (isName a0.data.toList = true)) :
    Calls Try.prog 6 #[.string a0, .string a1] w fun e w' => e = .returned (.bool true) ∧ Below w.heap.size w w' := by
  go_enter Try.func6, Try.ntmps6
  go_wp2_with (first
    | (go_at_call 18; refine (awake_any _).mono ?_; rintro e w1 ⟨rfl, hb1⟩)
    | (go_at_call 14; refine (may_as _ true _ s0 H1.out).mono ?_; rintro e w' ⟨rfl, hw⟩; obtain rfl := hw.symm))
  go_ret
  exact ⟨rfl, hb1⟩

theorem much_long (a0 a1 x : ByteArray) (w : World) (s0 : a0.size ≤ maxLen) (hlong : 40 < a1.size) (hlong2 : a1.size ≤ 9223372036854775807) (hcut : ∀ u : World, (Instr.slice 9 (.string a1) none (some (.int .i64 40)) none).run Try.prog u = .ok (.string x) u) (he : (x.toList == []) = false) (hx1 : x.size ≤ 40) (hn : a0.size ≤ 255) (hsum : 200 < a0.size + x.size) (H1 : Hid (isName a0.data.toList = true)) :
    Calls Try.prog 6 #[.string a0, .string a1] w fun e w' => e = .returned (.bool true) ∧ Below w.heap.size w w' := by
  go_enter Try.func6, Try.ntmps6
  go_wp2_with (first
    | (go_at_call 18; refine (awake_any _).mono ?_; rintro e w1 ⟨rfl, hb1⟩)
    | (go_at_call 14; refine (may_as _ true _ s0 H1.out).mono ?_; rintro e w' ⟨rfl, hw⟩; obtain rfl := hw.symm))
  go_ret
  exact ⟨rfl, hb1⟩

theorem bytes_eq {a b : ByteArray} (h : a.data.toList = b.data.toList) : a = b := Go.WideShapes.bytes_inj h

/-- What the bytes say, of a label x ahead of a name. -/
theorem facts (a0 x : ByteArray) (h1 : isName a0.data.toList = true) (hx0 : 1 ≤ x.size) (hx1 : x.size ≤ 40) (hsum : a0.size + x.size ≤ 200) :
    ∃ (K : UInt8) (n : Nat) (ta tb : ByteArray), (K.toNat : Int) = (x.size : Int) ∧ ta.data.toList = tx a0.data.toList ∧ isName (({ data := #[K] } : ByteArray) ++ x ++ a0).data.toList = true ∧ tb.data.toList = tx (({ data := #[K] } : ByteArray) ++ x ++ a0).data.toList ∧
      cnt (({ data := #[K] } : ByteArray) ++ x ++ a0).data.toList = cnt a0.data.toList + 1 ∧ dots tb.data.toList = cnt a0.data.toList + 1 ∧ cnt a0.data.toList = n ∧ n ≤ 2000 ∧ tb.size ≤ 1020 ∧ ta.size ≤ 1020 ∧
      ((a0.toList == [0]) = true → ∃ m, tb.size = m + 1 ∧ ∀ h : m < tb.size, (tb[m]'h).toNat = 46) ∧
      ((a0.toList == [0]) = false → ta.size < tb.size ∧ tb.extract (tb.size - ta.size) tb.size = ta) := by
  have eK := toNat_of (n := x.size) (by omega)
  obtain ⟨f1, f2, f3, f4⟩ := Pl.ahead (s := a0.data.toList) (x := x.data.toList) h1 (by rw [data_len]; omega) (by rw [data_len]; omega) (by rw [data_len, data_len]; omega) (UInt8.ofNat x.size) (by rw [eK, data_len])
  have eL : (({ data := #[UInt8.ofNat x.size] } : ByteArray) ++ x ++ a0).data.toList = UInt8.ofNat x.size :: (x.data.toList ++ a0.data.toList) := by rw [app_list, app_list]; simp
  rw [← eL] at f1 f2 f3 f4
  obtain ⟨ta, ha1, ha2, _⟩ := text_is h1
  obtain ⟨tb, hb1, hb2, _⟩ := text_is f1
  have hcl : cnt a0.data.toList ≤ 2000 := by have := dots_le tb.data.toList; rw [hb1, f4, ← hb1, data_len] at this; omega
  have hlt := data_len tb
  refine ⟨UInt8.ofNat x.size, _, ta, tb, by rw [eK], ha1, f1, hb1, f2, by rw [hb1]; exact f4, rfl, hcl, hb2, ha2, fun hr => ?_, fun hr => ?_⟩
  · rw [ByteArray.toList_eq] at hr
    have hroot : a0.data.toList = [0] := eq_of_beq hr
    have hl : tb.data.toList = x.data.toList.flatMap esc ++ [46] := by rw [hb1, f3, hroot]; rfl
    refine ⟨(x.data.toList.flatMap esc).length, by rw [← hlt, hl]; simp, fun h => ?_⟩
    have : tb.data.toList[(x.data.toList.flatMap esc).length]? = some 46 := by rw [hl]; simp
    rw [List.getElem?_eq_getElem (by rw [hlt]; exact h)] at this
    have e : tb[(x.data.toList.flatMap esc).length]'h = 46 := Option.some.inj this
    rw [e]; rfl
  · rw [ByteArray.toList_eq] at hr
    have hne : a0.data.toList.length ≠ 1 := fun e => by rw [name_root h1 e] at hr; simp at hr
    have hta : ta.data.toList = txS 0 a0.data.toList := by rw [ha1]; unfold tx; rw [if_neg hne]
    have hl : tb.data.toList = x.data.toList.flatMap esc ++ 46 :: ta.data.toList := by rw [hb1, f3, hta]
    have hsz : tb.size = (x.data.toList.flatMap esc).length + 1 + ta.size := by rw [← hlt, hl, ← data_len ta]; simp; omega
    refine ⟨by omega, bytes_eq ?_⟩
    rw [ext_list, hl, show tb.size - ta.size = (x.data.toList.flatMap esc ++ [46]).length from by simp only [List.length_append, List.length_cons, List.length_nil]; omega, List.take_of_length_le (by rw [List.length_drop, ← hl, hlt]; simp only [List.length_append, List.length_cons, List.length_nil]; omega)]
    rw [show x.data.toList.flatMap esc ++ 46 :: ta.data.toList = (x.data.toList.flatMap esc ++ [46]) ++ ta.data.toList from by simp, List.drop_left]

theorem not_nil {x : ByteArray} (h : 1 ≤ x.size) : (x.toList == []) = false := by
  rw [ByteArray.toList_eq]
  exact beq_no (fun e => by have := data_len x; rw [e] at this; simp at this; omega)

theorem walk (a0 a1 : ByteArray) (s0 : a0.size ≤ maxLen) (s1 : a1.size ≤ maxLen) (w : World) :
    Calls Try.prog 6 #[.string a0, .string a1] w fun e w' => e = .returned (.bool true) ∧ Below w.heap.size w w' := by
  by_cases hlong : 40 < a1.size
  · obtain ⟨x, hx⟩ : ∃ x, x = a1.extract 0 40 := ⟨_, rfl⟩
    have hxs : x.size = 40 := by rw [hx]; simp; omega
    have hcut : ∀ u : World, (Instr.slice 9 (.string a1) none (some (.int .i64 40)) none).run Try.prog u = .ok (.string x) u := fun u => by
      have := run_slice_string_h (P := Try.prog) (w := u) (t := 9) (s := a1) Try.underlying9 .i64 40 (by omega) (by omega)
      rw [this, hx]; rfl
    have s1' : a1.size ≤ 9223372036854775807 := s1
    clear hx
    cases h1 : isName a0.data.toList with
    | false => exact no_long a0 a1 x w s0 hlong s1' hcut h1
    | true =>
      by_cases hsum : a0.size + x.size ≤ 200
      · obtain ⟨K, n, ta, tb, q1, q2, q3, q4, q5, q6, q7, q8, q9, q10, q11, q12⟩ := facts a0 x h1 (by omega) (by omega) hsum
        exact core_long a0 a1 ta tb x w s0 hlong s1' hcut K n q1 (by omega) (not_nil (by omega)) hsum h1 q2 q3 q4 q5 q6 q7 q8 q9 q10 q11 q12
      · exact much_long a0 a1 x w s0 hlong s1' hcut (not_nil (by omega)) (by omega) (name_size h1) (by omega) h1
  · cases h1 : isName a0.data.toList with
    | false => exact no_short a0 a1 w s0 (by omega) h1
    | true =>
      by_cases he : a1.size = 0
      · refine empty_short a0 a1 w s0 (by omega) ?_ h1
        have e0 : a1.data.toList = [] := List.eq_nil_of_length_eq_zero (by rw [data_len]; exact he)
        rw [ByteArray.toList_eq, e0]; rfl
      · by_cases hsum : a0.size + a1.size ≤ 200
        · obtain ⟨K, n, ta, tb, q1, q2, q3, q4, q5, q6, q7, q8, q9, q10, q11, q12⟩ := facts a0 a1 h1 (by omega) (by omega) hsum
          exact core_short a0 a1 ta tb w s0 K n q1 (by omega) (not_nil (by omega)) hsum h1 q2 q3 q4 q5 q6 q7 q8 q9 q10 q11 q12
        · exact much_short a0 a1 w s0 (by omega) (not_nil (by omega)) (name_size h1) (by omega) h1

theorem own : ownKnob Try.prog.godebug = none := by kernel_rfl

set_option maxRecDepth 100000 in
theorem lifted (os : Os) (started : os.Started) (H : Type) (enc : TypeId × Value → H) :
    ReturnsInHanded {} Try.checked os 6 .any (Rows.nameCountsSpec.pre6 enc Try.prog Try.f6 Rows.nameCountsRow.domain false) (Rows.nameCountsSpec.post enc Try.prog Try.f6 false true false false) := by
  refine returnsInHanded_of_change (C := Try.checked) own started (by kernel_rfl) Try.func6
    (ChangeSpec.witness6 (enc := enc) (C := Try.checked) false ⟨#[], #[.string ByteArray.empty, .string ByteArray.empty], []⟩ 8 (by kernel_rfl) (by kernel_rfl) (by kernel_rfl) (by kernel_rfl)) ?_
  intro W base args ds gs before hval0 hW _ _
  have hval : ∀ (j : Nat) t v, Try.f6.params[j]? = some t → args[j]? = some v → Value.okWide Try.prog W .any base t v := hval0
  have hW' := hW
  obtain ⟨p, q, hA0, hV, rfl, hfz, hnd⟩ := hW
  have hA : DataW.TrodAll enc Try.prog W 0 (fun _ => true) true Try.f6.params.toList args.toList ds p := hA0
  rw [Try.params6] at hA hval
  obtain ⟨v0, vs0, d0, ds0, p0, q0, hargs, rfl, rfl, h0, r0⟩ := trodAll_cons hA
  obtain ⟨v1, vs1, d1, ds1, p1, q1, rfl, rfl, rfl, h1, r1⟩ := trodAll_cons r0
  obtain ⟨rfl, rfl, rfl⟩ := trodAll_nil r1
  obtain rfl : args = #[v0, v1] := by cases args; simp_all
  obtain ⟨rfl, rfl⟩ := trodVars_none hV
  obtain ⟨a0, rfl, rfl, rfl, w0⟩ := open_string Try.underlying9 (hval 0 9 v0 rfl rfl) h0
  obtain ⟨a1, rfl, rfl, rfl, w1⟩ := open_string Try.underlying9 (hval 1 9 v1 rfl rfl) h1
  clear hA0 hval0
  simp only [List.append_nil] at hW'
  refine (walk a0 a1 w0 w1 W).mono fun e W' ⟨he, bel⟩ => ?_
  subst he
  exact ⟨_, rfl, _, _, _, [], [], [], hW', trodAll_mk1 (shut_bool Try.underlying4 _), (trodAll_cons_mk (shut_string Try.underlying9 w0) (trodAll_cons_mk (shut_string Try.underlying9 w1) trodAll_mk0)), rfl, bel.frame _, fun h => by cases h⟩

/-- The statement. -/
theorem proved : Rows.NameCountsSaid :=
  OpenClaim.holds_of_wide 6 Try.f6 rfl rfl rfl rfl rfl rfl rfl ⟨rfl, rfl, rfl, rfl, rfl⟩ rfl rfl rfl rfl rfl (by kernel_rfl) Try.func6 (by kernel_rfl)
    (of_decide_eq_true (by kernel_rfl)) (by unfold Func.isWrapper; first | (rw [if_pos (by decide +kernel)]; kernel_rfl) | (rw [if_neg (by decide +kernel)]; exact ⟨rfl, rfl⟩))
    (fun os started H enc _ => lifted os started H enc)
#print axioms proved

end Go.Proofs.Ytkfpboippchdbaa.nameCounts
