/- What Parent, Last, Same, Above and Compare of package rel give, for every argument. -/
import Derived.Test.YtfojghfdmlaedaaWalkH
import Derived.Test.YtfojghfdmlaedaaPlainI
namespace Go.Proofs.Ytfojghfdmlaedaa
open Go.RowKit
open Pl

/-- What Parent, Last and Child hand back. -/
def optV : Option (List UInt8) → Value
  | some l => .tuple #[.string ⟨l.toArray⟩, .int .i64 0]
  | none => .tuple #[.string ⟨#[]⟩, .int .i64 200]

theorem ret_some {r : Option (List UInt8)} {t : ByteArray} (h : r = some t.data.toList) : Ending.returned (.tuple #[.string t, .int .i64 0]) = .returned (optV r) := by rw [h]; rfl
theorem ret_none {r : Option (List UInt8)} (h : r = none) : Ending.returned (.tuple #[.string ⟨#[]⟩, .int .i64 200]) = .returned (optV r) := by rw [h]; rfl

theorem ext_list (s : ByteArray) (i j : Nat) : (s.extract i j).data.toList = (s.data.toList.drop i).take (j - i) := by simp [List.extract_eq_take_drop]
theorem ext_from (s : ByteArray) (i : Nat) : (s.extract i s.size).data.toList = s.data.toList.drop i := by
  rw [ext_list, List.take_of_length_le (by simp)]

theorem root_test {s : ByteArray} {b : Bool} (h : decide (s.data.toList = [0]) = b) : (s.toList == [0]) = b := by
  rw [ByteArray.toList_eq, ← h, Bool.eq_iff_iff]; simp

set_option maxRecDepth 20000 in
theorem parent_any (s : ByteArray) (w : World) (hs : s.size ≤ maxLen) :
    Calls Try.prog 9 #[.string s] w fun e w' => e = .returned (optV (parR s.data.toList)) ∧ Below w.heap.size w w' := by
  cases h : isName s.data.toList with
  | false =>
    have HR : Hid (parR s.data.toList = none) := par_none (.inl h)
    go_enter Try.func9, Try.ntmps9
    go_wp2_with (go_at_call 20; refine (may_as _ false _ hs h).mono ?_; rintro e w' ⟨rfl, hw⟩; obtain rfl := hw.symm)
    go_ret2
    exact ⟨ret_none HR.out, Below.refl _ _⟩
  | true =>
    by_cases h0 : (labs s.data.toList).length = 0
    · have HR : Hid (parR s.data.toList = none) := par_none (.inr h0)
      have hr : (s.toList == [0]) = true := root_test (by simpa using (labs_zero h).1 h0)
      clear h0
      go_enter Try.func9, Try.ntmps9
      go_wp2_with (go_at_call 20; refine (may_as _ true _ hs h).mono ?_; rintro e w' ⟨rfl, hw⟩; obtain rfl := hw.symm)
      go_ret2
      exact ⟨ret_none HR.out, Below.refl _ _⟩
    · have hr : (s.toList == [0]) = false := root_test (by simpa using fun e => h0 ((labs_zero h).2 e))
      have hl := data_len s
      have h255 := name_size h
      have hsp : 0 < s.size := by rw [← hl]; exact name_pos h
      have hf := first_len h h0
      have hR := par_drop h h0
      have hb0 : s.data.toList[0]'(name_pos h) = s[0] := rfl
      rw [hb0] at hf hR
      have hi := idx s 0 0 rfl hsp
      have hlo : 1 + (s[0].toNat : Int) ≤ (s.size : Int) := by omega
      have HR : Hid (parR s.data.toList = some (s.extract (1 + s[0].toNat) s.size).data.toList) := by unfold Hid; rw [ext_from, hR]
      have hts : (s.extract (1 + s[0].toNat) s.size).size ≤ 1000000 := by simp; omega
      have h63 : s[0].toNat ≤ 63 := hf.2.2.2
      clear hf hR h0 hb0
      go_enter Try.func9, Try.ntmps9
      go_wp2_with (first
        | (go_at_call 20; refine (may_as _ true _ hs h).mono ?_; rintro e w' ⟨rfl, hw⟩; obtain rfl := hw.symm)
        | (go_at_call 22; go_must (refine (clone_any _ _ hts).mono ?_); rintro e w1 ⟨rfl, hb1⟩))
      go_ret2
      exact ⟨ret_some HR.out, hb1⟩

theorem orRoot_yes (s : ByteArray) (w : World) (hs : s.size ≤ maxLen) (h : isName s.data.toList = true) :
    Calls Try.prog 15 #[.string s] w fun e w' => e = .returned (.string s) ∧ w' = w := by
  go_enter Try.func15, Try.ntmps15
  go_wp2_with (go_at_call 20; refine (may_as _ true _ hs h).mono ?_; rintro e w' ⟨rfl, hw⟩; obtain rfl := hw.symm)
  go_ret
  exact ⟨rfl, rfl⟩
theorem orRoot_no (s : ByteArray) (w : World) (hs : s.size ≤ maxLen) (h : isName s.data.toList = false) :
    Calls Try.prog 15 #[.string s] w fun e w' => e = .returned (.string ⟨#[0]⟩) ∧ w' = w := by
  go_enter Try.func15, Try.ntmps15
  go_wp2_with (go_at_call 20; refine (may_as _ false _ hs h).mono ?_; rintro e w' ⟨rfl, hw⟩; obtain rfl := hw.symm)
  go_ret
  exact ⟨rfl, rfl⟩

theorem same_any (a b : ByteArray) (w : World) (ha : a.size ≤ maxLen) (hb : b.size ≤ maxLen) :
    Calls Try.prog 13 #[.string a, .string b] w fun e w' => e = .returned (.bool (sameB a.data.toList b.data.toList)) ∧ Below w.heap.size w w' := by
  cases h1 : isName a.data.toList with
  | false =>
    have HR : Hid (false = sameB a.data.toList b.data.toList) := by unfold Hid sameB; rw [h1]; rfl
    have t1 : True := trivial
    go_enter Try.func13, Try.ntmps13
    go_wp2_with (go_at_call 20; have _t := t1; refine (may_as _ false _ ha h1).mono ?_; rintro e w' ⟨rfl, hw⟩; obtain rfl := hw.symm; clear t1)
    go_ret
    exact ⟨ret_bool HR.out, Below.refl _ _⟩
  | true =>
    cases h2 : isName b.data.toList with
    | false =>
      have HR : Hid (false = sameB a.data.toList b.data.toList) := by unfold Hid sameB; rw [h1, h2]; rfl
      have t1 : True := trivial
      have t2 : True := trivial
      go_enter Try.func13, Try.ntmps13
      go_wp2_with (first
        | (go_at_call 20; have _t := t1; refine (may_as _ true _ ha h1).mono ?_; rintro e w' ⟨rfl, hw⟩; obtain rfl := hw.symm; clear t1)
        | (go_at_call 20; have _t := t2; refine (may_as _ false _ hb h2).mono ?_; rintro e w' ⟨rfl, hw⟩; obtain rfl := hw.symm; clear t2))
      go_ret
      exact ⟨ret_bool HR.out, Below.refl _ _⟩
    | true =>
      have HR : Hid ((ord a.data.toList b.data.toList == 0) = sameB a.data.toList b.data.toList) := by
        unfold Hid sameB
        rw [h1, h2, Bool.eq_iff_iff]
        simp [ord_zero]
      have t1 : True := trivial
      have t2 : True := trivial
      go_enter Try.func13, Try.ntmps13
      go_wp2_with (first
        | (go_at_call 20; have _t := t1; refine (may_as _ true _ ha h1).mono ?_; rintro e w' ⟨rfl, hw⟩; obtain rfl := hw.symm; clear t1)
        | (go_at_call 20; have _t := t2; refine (may_as _ true _ hb h2).mono ?_; rintro e w' ⟨rfl, hw⟩; obtain rfl := hw.symm; clear t2)
        | (go_at_call 17; refine (order_any _ _ _ ha hb).mono ?_; rintro e w1 ⟨rfl, hd⟩))
      go_ret
      exact ⟨ret_bool HR.out, below_drew hd⟩

end Go.Proofs.Ytfojghfdmlaedaa
