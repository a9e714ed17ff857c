/- RelRules holds: for every three strings and every label, a child's parent is it, which is above it and comes ahead; the order of names and what is above what do not turn back. -/
import Derived.Test.YteibmkaghikloaaWalkO
import Derived.Test.YteibmkaghikloaaPlainK
import Derived.Deep.RegionWith
import Derived.ProofKit
import Derived.OpenShut
import Derived.ShutString
namespace Go.Proofs.Yteibmkaghikloaa.relRules
open Go.ChangeShapes Go.WideShapes Go.ChangeAt Go.RowKit
open Go.ChangeMaps (open_string shut_string)
open Pl

set_option maxRecDepth 20000 in
set_option maxHeartbeats 8000000 in
theorem walk_none (a b c x F : ByteArray) (ca cb cc : Int) (s0 : a.size ≤ maxLen) (s1 : b.size ≤ maxLen) (s2 : c.size ≤ maxLen) (s3 : x.size ≤ maxLen) (w : World) (HX : Hid (childR x.data.toList a.data.toList = none))
    (HA : Hid (isName a.data.toList = true)) (HB : Hid (isName b.data.toList = true)) (HC : Hid (isName c.data.toList = true)) (HF : Hid (F.data.toList = foldL a.data.toList))
    (hca : cmpN a.data.toList b.data.toList = ca) (hcb : cmpN b.data.toList c.data.toList = cb) (hcc : cmpN a.data.toList c.data.toList = cc) :
    Calls Try.prog 4 #[.string a, .string b, .string c, .string x] w fun e w' => e = .returned (.bool true) ∧ Below w.heap.size w w' := by
  have HCA : Hid (cmpN a.data.toList b.data.toList = ca) := hca
  have HCB : Hid (cmpN b.data.toList c.data.toList = cb) := hcb
  have HCC : Hid (cmpN a.data.toList c.data.toList = cc) := hcc
  have hba := cmp_anti a.data.toList b.data.toList
  rw [hca] at hba
  have HBA : Hid (cmpN b.data.toList a.data.toList = -ca) := hba
  have b1 := cmp_three a.data.toList b.data.toList
  rw [hca] at b1
  have hl := b1.1
  have hr := b1.2
  have hcyc : ca ≤ 0 → cb ≤ 0 → cc ≤ 0 := by rw [← hca, ← hcb, ← hcc]; exact cmp_trans
  have HS : Hid (sameB a.data.toList b.data.toList = (ca == 0)) := by unfold Hid; rw [same_cmp HA.out HB.out, hca]
  have HFS : Hid (F.size ≤ maxLen) := by unfold Hid; rw [← data_len, HF.out, fold_len, data_len]; exact s0
  have HF1 : Hid (foldR a.data.toList = F.data.toList) := by unfold Hid; rw [foldR_yes HA.out, HF.out]
  have HF2 : Hid (foldR F.data.toList = F.data.toList) := by unfold Hid; rw [HF.out, foldR_yes (by rw [name_fold]; exact HA.out), fold_twice]
  have HSF : Hid (sameB a.data.toList F.data.toList = true) := by unfold Hid; rw [HF.out]; exact same_fold HA.out
  have HAR : Hid (aboveB kR.data.toList a.data.toList = true) := above_root HA.out
  obtain ⟨p, hp⟩ : ∃ p, aboveB a.data.toList b.data.toList = p := ⟨_, rfl⟩
  obtain ⟨q, hq⟩ : ∃ q, aboveB b.data.toList c.data.toList = q := ⟨_, rfl⟩
  obtain ⟨r, hr3⟩ : ∃ r, aboveB a.data.toList c.data.toList = r := ⟨_, rfl⟩
  have hpq : p = true → q = true → r = true := by rw [← hp, ← hq, ← hr3]; exact above_trans
  have HP : Hid (aboveB a.data.toList b.data.toList = p) := hp
  have HQ : Hid (aboveB b.data.toList c.data.toList = q) := hq
  have HR : Hid (aboveB a.data.toList c.data.toList = r) := hr3
  have hb : Below w.heap.size w w := Below.refl _ _
  have h3 : (ca ≤ 0 ∧ cb ≤ 0 ∧ decide (0 < cc) = false) ∨ (ca ≤ 0 ∧ decide (cb ≤ 0) = false) ∨ decide (ca ≤ 0) = false := by
    by_cases h1 : ca ≤ 0
    · by_cases h2 : cb ≤ 0
      · exact .inl ⟨h1, h2, by have := hcyc h1 h2; simp; omega⟩
      · exact .inr (.inl ⟨h1, by simpa using h2⟩)
    · exact .inr (.inr (by simpa using h1))
  have h4 : (p = true ∧ q = true ∧ r = true) ∨ (p = true ∧ q = false) ∨ p = false := by
    cases p <;> cases q <;> simp_all
  clear hca hcb hcc hba b1 hcyc hp hq hr3 hpq
  rcases h3 with ⟨g1, g2, g3⟩ | ⟨g1, g2⟩ | g1 <;> rcases h4 with ⟨rfl, rfl, rfl⟩ | ⟨rfl, rfl⟩ | rfl
  all_goals
    go_enter Try.func4, Try.ntmps4
    go_wp2_with (first
      | (go_at_call 24; refine (awake_any _).mono ?_; rintro e w1 ⟨rfl, b1⟩; replace hb := next hb b1; clear b1)
      | (go_at_call 21; refine (num_any _ _).mono ?_; rintro e w' ⟨rfl, hw⟩; obtain rfl := hw.symm)
      | (go_at_call 13; refine (child_err x a _ s3 s0 HX.out).mono ?_; rintro e w1 ⟨rfl, b1⟩; replace hb := next hb b1; clear b1)
      | (go_at_call_of 25 (#[Value.string a]); refine (refMay_as a true _ s0 HA.out).mono ?_; rintro e w1 ⟨rfl, b1⟩; replace hb := next hb b1; clear b1)
      | (go_at_call_of 25 (#[Value.string b]); refine (refMay_as b true _ s1 HB.out).mono ?_; rintro e w1 ⟨rfl, b1⟩; replace hb := next hb b1; clear b1)
      | (go_at_call_of 25 (#[Value.string c]); refine (refMay_as c true _ s2 HC.out).mono ?_; rintro e w1 ⟨rfl, b1⟩; replace hb := next hb b1; clear b1)
      | (go_at_call_of 22 (#[Value.string a, Value.string b]); refine (compare_as a b _ _ s0 s1 HCA.out).mono ?_; rintro e w1 ⟨rfl, b1⟩; replace hb := next hb b1; clear b1)
      | (go_at_call_of 22 (#[Value.string b, Value.string a]); refine (compare_as b a _ _ s1 s0 HBA.out).mono ?_; rintro e w1 ⟨rfl, b1⟩; replace hb := next hb b1; clear b1)
      | (go_at_call_of 22 (#[Value.string b, Value.string c]); refine (compare_as b c _ _ s1 s2 HCB.out).mono ?_; rintro e w1 ⟨rfl, b1⟩; replace hb := next hb b1; clear b1)
      | (go_at_call_of 22 (#[Value.string a, Value.string c]); refine (compare_as a c _ _ s0 s2 HCC.out).mono ?_; rintro e w1 ⟨rfl, b1⟩; replace hb := next hb b1; clear b1)
      | (go_at_call_of 17 (#[Value.string a, Value.string b]); refine (same_as a b _ _ s0 s1 HS.out).mono ?_; rintro e w1 ⟨rfl, b1⟩; replace hb := next hb b1; clear b1)
      | (go_at_call_of 17 (#[Value.string a, Value.string F]); refine (same_as a F true _ s0 HFS.out HSF.out).mono ?_; rintro e w1 ⟨rfl, b1⟩; replace hb := next hb b1; clear b1)
      | (go_at_call_of 19 (#[Value.string ⟨#[0]⟩, Value.string a]); refine (above_as kR a true _ (sz (by decide)) s0 HAR.out).mono ?_; rintro e w1 ⟨rfl, b1⟩; replace hb := next hb b1; clear b1)
      | (go_at_call_of 19 (#[Value.string a, Value.string b]); refine (above_as a b _ _ s0 s1 HP.out).mono ?_; rintro e w1 ⟨rfl, b1⟩; replace hb := next hb b1; clear b1)
      | (go_at_call_of 19 (#[Value.string b, Value.string c]); refine (above_as b c _ _ s1 s2 HQ.out).mono ?_; rintro e w1 ⟨rfl, b1⟩; replace hb := next hb b1; clear b1)
      | (go_at_call_of 19 (#[Value.string a, Value.string c]); refine (above_as a c _ _ s0 s2 HR.out).mono ?_; rintro e w1 ⟨rfl, b1⟩; replace hb := next hb b1; clear b1)
      | (go_at_call_of 15 (#[Value.string a]); refine (fold_as a F _ s0 HF1.out).mono ?_; rintro e w1 ⟨rfl, b1⟩; replace hb := next hb b1; clear b1)
      | (go_at_call_of 15 (#[Value.string F]); refine (fold_as F F _ HFS.out HF2.out).mono ?_; rintro e w1 ⟨rfl, b1⟩; replace hb := next hb b1; clear b1))
    go_ret
    exact ⟨rfl, hb⟩

set_option maxRecDepth 20000 in
set_option maxHeartbeats 8000000 in
theorem walk_none0 (a b c x : ByteArray) (s0 : a.size ≤ maxLen) (_s1 : b.size ≤ maxLen) (_s2 : c.size ≤ maxLen) (s3 : x.size ≤ maxLen) (w : World) (HX : Hid (childR x.data.toList a.data.toList = none))
    (HA : Hid (isName a.data.toList = false)) :
    Calls Try.prog 4 #[.string a, .string b, .string c, .string x] w fun e w' => e = .returned (.bool true) ∧ Below w.heap.size w w' := by
  have hb : Below w.heap.size w w := Below.refl _ _
  go_enter Try.func4, Try.ntmps4
  go_wp2_with (first
    | (go_at_call 24; refine (awake_any _).mono ?_; rintro e w1 ⟨rfl, b1⟩; replace hb := next hb b1; clear b1)
    | (go_at_call 21; refine (num_any _ _).mono ?_; rintro e w' ⟨rfl, hw⟩; obtain rfl := hw.symm)
    | (go_at_call 13; refine (child_err x a _ s3 s0 HX.out).mono ?_; rintro e w1 ⟨rfl, b1⟩; replace hb := next hb b1; clear b1)
    | (go_at_call_of 25 (#[Value.string a]); refine (refMay_as a false _ s0 HA.out).mono ?_; rintro e w1 ⟨rfl, b1⟩; replace hb := next hb b1; clear b1))
  go_ret
  exact ⟨rfl, hb⟩

set_option maxRecDepth 20000 in
set_option maxHeartbeats 8000000 in
theorem walk_none1 (a b c x : ByteArray) (s0 : a.size ≤ maxLen) (s1 : b.size ≤ maxLen) (_s2 : c.size ≤ maxLen) (s3 : x.size ≤ maxLen) (w : World) (HX : Hid (childR x.data.toList a.data.toList = none))
    (HA : Hid (isName a.data.toList = true)) (HB : Hid (isName b.data.toList = false)) :
    Calls Try.prog 4 #[.string a, .string b, .string c, .string x] w fun e w' => e = .returned (.bool true) ∧ Below w.heap.size w w' := by
  have hb : Below w.heap.size w w := Below.refl _ _
  go_enter Try.func4, Try.ntmps4
  go_wp2_with (first
    | (go_at_call 24; refine (awake_any _).mono ?_; rintro e w1 ⟨rfl, b1⟩; replace hb := next hb b1; clear b1)
    | (go_at_call 21; refine (num_any _ _).mono ?_; rintro e w' ⟨rfl, hw⟩; obtain rfl := hw.symm)
    | (go_at_call 13; refine (child_err x a _ s3 s0 HX.out).mono ?_; rintro e w1 ⟨rfl, b1⟩; replace hb := next hb b1; clear b1)
    | (go_at_call_of 25 (#[Value.string a]); refine (refMay_as a true _ s0 HA.out).mono ?_; rintro e w1 ⟨rfl, b1⟩; replace hb := next hb b1; clear b1)
    | (go_at_call_of 25 (#[Value.string b]); refine (refMay_as b false _ s1 HB.out).mono ?_; rintro e w1 ⟨rfl, b1⟩; replace hb := next hb b1; clear b1))
  go_ret
  exact ⟨rfl, hb⟩

set_option maxRecDepth 20000 in
set_option maxHeartbeats 8000000 in
theorem walk_none2 (a b c x : ByteArray) (s0 : a.size ≤ maxLen) (s1 : b.size ≤ maxLen) (s2 : c.size ≤ maxLen) (s3 : x.size ≤ maxLen) (w : World) (HX : Hid (childR x.data.toList a.data.toList = none))
    (HA : Hid (isName a.data.toList = true)) (HB : Hid (isName b.data.toList = true)) (HC : Hid (isName c.data.toList = false)) :
    Calls Try.prog 4 #[.string a, .string b, .string c, .string x] w fun e w' => e = .returned (.bool true) ∧ Below w.heap.size w w' := by
  have hb : Below w.heap.size w w := Below.refl _ _
  go_enter Try.func4, Try.ntmps4
  go_wp2_with (first
    | (go_at_call 24; refine (awake_any _).mono ?_; rintro e w1 ⟨rfl, b1⟩; replace hb := next hb b1; clear b1)
    | (go_at_call 21; refine (num_any _ _).mono ?_; rintro e w' ⟨rfl, hw⟩; obtain rfl := hw.symm)
    | (go_at_call 13; refine (child_err x a _ s3 s0 HX.out).mono ?_; rintro e w1 ⟨rfl, b1⟩; replace hb := next hb b1; clear b1)
    | (go_at_call_of 25 (#[Value.string a]); refine (refMay_as a true _ s0 HA.out).mono ?_; rintro e w1 ⟨rfl, b1⟩; replace hb := next hb b1; clear b1)
    | (go_at_call_of 25 (#[Value.string b]); refine (refMay_as b true _ s1 HB.out).mono ?_; rintro e w1 ⟨rfl, b1⟩; replace hb := next hb b1; clear b1)
    | (go_at_call_of 25 (#[Value.string c]); refine (refMay_as c false _ s2 HC.out).mono ?_; rintro e w1 ⟨rfl, b1⟩; replace hb := next hb b1; clear b1))
  go_ret
  exact ⟨rfl, hb⟩

set_option maxRecDepth 20000 in
set_option maxHeartbeats 8000000 in
theorem walk_some (a b c x F : ByteArray) (ca cb cc : Int) (s0 : a.size ≤ maxLen) (s1 : b.size ≤ maxLen) (s2 : c.size ≤ maxLen) (s3 : x.size ≤ maxLen) (w : World) (t : ByteArray) (HX : Hid (childR x.data.toList a.data.toList = some t.data.toList))
    (HA : Hid (isName a.data.toList = true)) (HB : Hid (isName b.data.toList = true)) (HC : Hid (isName c.data.toList = true)) (HF : Hid (F.data.toList = foldL a.data.toList))
    (hca : cmpN a.data.toList b.data.toList = ca) (hcb : cmpN b.data.toList c.data.toList = cb) (hcc : cmpN a.data.toList c.data.toList = cc) :
    Calls Try.prog 4 #[.string a, .string b, .string c, .string x] w fun e w' => e = .returned (.bool true) ∧ Below w.heap.size w w' := by
  have HTS : Hid (t.size ≤ maxLen) := by have := (child_some HX.out).2.2.2.2.2.2; unfold Hid maxLen; rw [data_len] at this; omega
  have HT1 : Hid (parR t.data.toList = some a.data.toList) := child_par HX.out
  have HT2 : Hid (aboveB a.data.toList t.data.toList = true) := child_above HX.out
  have HT3 : Hid (aboveB t.data.toList a.data.toList = false) := child_below HX.out
  have HT4 : Hid (cmpN a.data.toList t.data.toList = -1) := child_cmp HX.out
  have HCA : Hid (cmpN a.data.toList b.data.toList = ca) := hca
  have HCB : Hid (cmpN b.data.toList c.data.toList = cb) := hcb
  have HCC : Hid (cmpN a.data.toList c.data.toList = cc) := hcc
  have hba := cmp_anti a.data.toList b.data.toList
  rw [hca] at hba
  have HBA : Hid (cmpN b.data.toList a.data.toList = -ca) := hba
  have b1 := cmp_three a.data.toList b.data.toList
  rw [hca] at b1
  have hl := b1.1
  have hr := b1.2
  have hcyc : ca ≤ 0 → cb ≤ 0 → cc ≤ 0 := by rw [← hca, ← hcb, ← hcc]; exact cmp_trans
  have HS : Hid (sameB a.data.toList b.data.toList = (ca == 0)) := by unfold Hid; rw [same_cmp HA.out HB.out, hca]
  have HFS : Hid (F.size ≤ maxLen) := by unfold Hid; rw [← data_len, HF.out, fold_len, data_len]; exact s0
  have HF1 : Hid (foldR a.data.toList = F.data.toList) := by unfold Hid; rw [foldR_yes HA.out, HF.out]
  have HF2 : Hid (foldR F.data.toList = F.data.toList) := by unfold Hid; rw [HF.out, foldR_yes (by rw [name_fold]; exact HA.out), fold_twice]
  have HSF : Hid (sameB a.data.toList F.data.toList = true) := by unfold Hid; rw [HF.out]; exact same_fold HA.out
  have HAR : Hid (aboveB kR.data.toList a.data.toList = true) := above_root HA.out
  obtain ⟨p, hp⟩ : ∃ p, aboveB a.data.toList b.data.toList = p := ⟨_, rfl⟩
  obtain ⟨q, hq⟩ : ∃ q, aboveB b.data.toList c.data.toList = q := ⟨_, rfl⟩
  obtain ⟨r, hr3⟩ : ∃ r, aboveB a.data.toList c.data.toList = r := ⟨_, rfl⟩
  have hpq : p = true → q = true → r = true := by rw [← hp, ← hq, ← hr3]; exact above_trans
  have HP : Hid (aboveB a.data.toList b.data.toList = p) := hp
  have HQ : Hid (aboveB b.data.toList c.data.toList = q) := hq
  have HR : Hid (aboveB a.data.toList c.data.toList = r) := hr3
  have hb : Below w.heap.size w w := Below.refl _ _
  have h3 : (ca ≤ 0 ∧ cb ≤ 0 ∧ decide (0 < cc) = false) ∨ (ca ≤ 0 ∧ decide (cb ≤ 0) = false) ∨ decide (ca ≤ 0) = false := by
    by_cases h1 : ca ≤ 0
    · by_cases h2 : cb ≤ 0
      · exact .inl ⟨h1, h2, by have := hcyc h1 h2; simp; omega⟩
      · exact .inr (.inl ⟨h1, by simpa using h2⟩)
    · exact .inr (.inr (by simpa using h1))
  have h4 : (p = true ∧ q = true ∧ r = true) ∨ (p = true ∧ q = false) ∨ p = false := by
    cases p <;> cases q <;> simp_all
  clear hca hcb hcc hba b1 hcyc hp hq hr3 hpq
  rcases h3 with ⟨g1, g2, g3⟩ | ⟨g1, g2⟩ | g1 <;> rcases h4 with ⟨rfl, rfl, rfl⟩ | ⟨rfl, rfl⟩ | rfl
  all_goals
    go_enter Try.func4, Try.ntmps4
    go_wp2_with (first
      | (go_at_call 24; refine (awake_any _).mono ?_; rintro e w1 ⟨rfl, b1⟩; replace hb := next hb b1; clear b1)
      | (go_at_call 21; refine (num_any _ _).mono ?_; rintro e w' ⟨rfl, hw⟩; obtain rfl := hw.symm)
      | (go_at_call 13; refine (child_ok x a t _ s3 s0 HX.out).mono ?_; rintro e w1 ⟨rfl, b1⟩; replace hb := next hb b1; clear b1)
      | (go_at_call_of 9 (#[Value.string t]); refine (parent_ok t a _ HTS.out HT1.out).mono ?_; rintro e w1 ⟨rfl, b1⟩; replace hb := next hb b1; clear b1)
      | (go_at_call_of 19 (#[Value.string a, Value.string t]); refine (above_as a t true _ s0 HTS.out HT2.out).mono ?_; rintro e w1 ⟨rfl, b1⟩; replace hb := next hb b1; clear b1)
      | (go_at_call_of 19 (#[Value.string t, Value.string a]); refine (above_as t a false _ HTS.out s0 HT3.out).mono ?_; rintro e w1 ⟨rfl, b1⟩; replace hb := next hb b1; clear b1)
      | (go_at_call_of 22 (#[Value.string a, Value.string t]); refine (compare_as a t (-1) _ s0 HTS.out HT4.out).mono ?_; rintro e w1 ⟨rfl, b1⟩; replace hb := next hb b1; clear b1)
      | (go_at_call_of 25 (#[Value.string a]); refine (refMay_as a true _ s0 HA.out).mono ?_; rintro e w1 ⟨rfl, b1⟩; replace hb := next hb b1; clear b1)
      | (go_at_call_of 25 (#[Value.string b]); refine (refMay_as b true _ s1 HB.out).mono ?_; rintro e w1 ⟨rfl, b1⟩; replace hb := next hb b1; clear b1)
      | (go_at_call_of 25 (#[Value.string c]); refine (refMay_as c true _ s2 HC.out).mono ?_; rintro e w1 ⟨rfl, b1⟩; replace hb := next hb b1; clear b1)
      | (go_at_call_of 22 (#[Value.string a, Value.string b]); refine (compare_as a b _ _ s0 s1 HCA.out).mono ?_; rintro e w1 ⟨rfl, b1⟩; replace hb := next hb b1; clear b1)
      | (go_at_call_of 22 (#[Value.string b, Value.string a]); refine (compare_as b a _ _ s1 s0 HBA.out).mono ?_; rintro e w1 ⟨rfl, b1⟩; replace hb := next hb b1; clear b1)
      | (go_at_call_of 22 (#[Value.string b, Value.string c]); refine (compare_as b c _ _ s1 s2 HCB.out).mono ?_; rintro e w1 ⟨rfl, b1⟩; replace hb := next hb b1; clear b1)
      | (go_at_call_of 22 (#[Value.string a, Value.string c]); refine (compare_as a c _ _ s0 s2 HCC.out).mono ?_; rintro e w1 ⟨rfl, b1⟩; replace hb := next hb b1; clear b1)
      | (go_at_call_of 17 (#[Value.string a, Value.string b]); refine (same_as a b _ _ s0 s1 HS.out).mono ?_; rintro e w1 ⟨rfl, b1⟩; replace hb := next hb b1; clear b1)
      | (go_at_call_of 17 (#[Value.string a, Value.string F]); refine (same_as a F true _ s0 HFS.out HSF.out).mono ?_; rintro e w1 ⟨rfl, b1⟩; replace hb := next hb b1; clear b1)
      | (go_at_call_of 19 (#[Value.string ⟨#[0]⟩, Value.string a]); refine (above_as kR a true _ (sz (by decide)) s0 HAR.out).mono ?_; rintro e w1 ⟨rfl, b1⟩; replace hb := next hb b1; clear b1)
      | (go_at_call_of 19 (#[Value.string a, Value.string b]); refine (above_as a b _ _ s0 s1 HP.out).mono ?_; rintro e w1 ⟨rfl, b1⟩; replace hb := next hb b1; clear b1)
      | (go_at_call_of 19 (#[Value.string b, Value.string c]); refine (above_as b c _ _ s1 s2 HQ.out).mono ?_; rintro e w1 ⟨rfl, b1⟩; replace hb := next hb b1; clear b1)
      | (go_at_call_of 19 (#[Value.string a, Value.string c]); refine (above_as a c _ _ s0 s2 HR.out).mono ?_; rintro e w1 ⟨rfl, b1⟩; replace hb := next hb b1; clear b1)
      | (go_at_call_of 15 (#[Value.string a]); refine (fold_as a F _ s0 HF1.out).mono ?_; rintro e w1 ⟨rfl, b1⟩; replace hb := next hb b1; clear b1)
      | (go_at_call_of 15 (#[Value.string F]); refine (fold_as F F _ HFS.out HF2.out).mono ?_; rintro e w1 ⟨rfl, b1⟩; replace hb := next hb b1; clear b1))
    go_ret
    exact ⟨rfl, hb⟩

set_option maxRecDepth 20000 in
set_option maxHeartbeats 8000000 in
theorem walk_some1 (a b c x : ByteArray) (s0 : a.size ≤ maxLen) (s1 : b.size ≤ maxLen) (_s2 : c.size ≤ maxLen) (s3 : x.size ≤ maxLen) (w : World) (t : ByteArray) (HX : Hid (childR x.data.toList a.data.toList = some t.data.toList))
    (HA : Hid (isName a.data.toList = true)) (HB : Hid (isName b.data.toList = false)) :
    Calls Try.prog 4 #[.string a, .string b, .string c, .string x] w fun e w' => e = .returned (.bool true) ∧ Below w.heap.size w w' := by
  have HTS : Hid (t.size ≤ maxLen) := by have := (child_some HX.out).2.2.2.2.2.2; unfold Hid maxLen; rw [data_len] at this; omega
  have HT1 : Hid (parR t.data.toList = some a.data.toList) := child_par HX.out
  have HT2 : Hid (aboveB a.data.toList t.data.toList = true) := child_above HX.out
  have HT3 : Hid (aboveB t.data.toList a.data.toList = false) := child_below HX.out
  have HT4 : Hid (cmpN a.data.toList t.data.toList = -1) := child_cmp HX.out
  have hb : Below w.heap.size w w := Below.refl _ _
  go_enter Try.func4, Try.ntmps4
  go_wp2_with (first
    | (go_at_call 24; refine (awake_any _).mono ?_; rintro e w1 ⟨rfl, b1⟩; replace hb := next hb b1; clear b1)
    | (go_at_call 21; refine (num_any _ _).mono ?_; rintro e w' ⟨rfl, hw⟩; obtain rfl := hw.symm)
    | (go_at_call 13; refine (child_ok x a t _ s3 s0 HX.out).mono ?_; rintro e w1 ⟨rfl, b1⟩; replace hb := next hb b1; clear b1)
    | (go_at_call_of 9 (#[Value.string t]); refine (parent_ok t a _ HTS.out HT1.out).mono ?_; rintro e w1 ⟨rfl, b1⟩; replace hb := next hb b1; clear b1)
    | (go_at_call_of 19 (#[Value.string a, Value.string t]); refine (above_as a t true _ s0 HTS.out HT2.out).mono ?_; rintro e w1 ⟨rfl, b1⟩; replace hb := next hb b1; clear b1)
    | (go_at_call_of 19 (#[Value.string t, Value.string a]); refine (above_as t a false _ HTS.out s0 HT3.out).mono ?_; rintro e w1 ⟨rfl, b1⟩; replace hb := next hb b1; clear b1)
    | (go_at_call_of 22 (#[Value.string a, Value.string t]); refine (compare_as a t (-1) _ s0 HTS.out HT4.out).mono ?_; rintro e w1 ⟨rfl, b1⟩; replace hb := next hb b1; clear b1)
    | (go_at_call_of 25 (#[Value.string a]); refine (refMay_as a true _ s0 HA.out).mono ?_; rintro e w1 ⟨rfl, b1⟩; replace hb := next hb b1; clear b1)
    | (go_at_call_of 25 (#[Value.string b]); refine (refMay_as b false _ s1 HB.out).mono ?_; rintro e w1 ⟨rfl, b1⟩; replace hb := next hb b1; clear b1))
  go_ret
  exact ⟨rfl, hb⟩

set_option maxRecDepth 20000 in
set_option maxHeartbeats 8000000 in
theorem walk_some2 (a b c x : ByteArray) (s0 : a.size ≤ maxLen) (s1 : b.size ≤ maxLen) (s2 : c.size ≤ maxLen) (s3 : x.size ≤ maxLen) (w : World) (t : ByteArray) (HX : Hid (childR x.data.toList a.data.toList = some t.data.toList))
    (HA : Hid (isName a.data.toList = true)) (HB : Hid (isName b.data.toList = true)) (HC : Hid (isName c.data.toList = false)) :
    Calls Try.prog 4 #[.string a, .string b, .string c, .string x] w fun e w' => e = .returned (.bool true) ∧ Below w.heap.size w w' := by
  have HTS : Hid (t.size ≤ maxLen) := by have := (child_some HX.out).2.2.2.2.2.2; unfold Hid maxLen; rw [data_len] at this; omega
  have HT1 : Hid (parR t.data.toList = some a.data.toList) := child_par HX.out
  have HT2 : Hid (aboveB a.data.toList t.data.toList = true) := child_above HX.out
  have HT3 : Hid (aboveB t.data.toList a.data.toList = false) := child_below HX.out
  have HT4 : Hid (cmpN a.data.toList t.data.toList = -1) := child_cmp HX.out
  have hb : Below w.heap.size w w := Below.refl _ _
  go_enter Try.func4, Try.ntmps4
  go_wp2_with (first
    | (go_at_call 24; refine (awake_any _).mono ?_; rintro e w1 ⟨rfl, b1⟩; replace hb := next hb b1; clear b1)
    | (go_at_call 21; refine (num_any _ _).mono ?_; rintro e w' ⟨rfl, hw⟩; obtain rfl := hw.symm)
    | (go_at_call 13; refine (child_ok x a t _ s3 s0 HX.out).mono ?_; rintro e w1 ⟨rfl, b1⟩; replace hb := next hb b1; clear b1)
    | (go_at_call_of 9 (#[Value.string t]); refine (parent_ok t a _ HTS.out HT1.out).mono ?_; rintro e w1 ⟨rfl, b1⟩; replace hb := next hb b1; clear b1)
    | (go_at_call_of 19 (#[Value.string a, Value.string t]); refine (above_as a t true _ s0 HTS.out HT2.out).mono ?_; rintro e w1 ⟨rfl, b1⟩; replace hb := next hb b1; clear b1)
    | (go_at_call_of 19 (#[Value.string t, Value.string a]); refine (above_as t a false _ HTS.out s0 HT3.out).mono ?_; rintro e w1 ⟨rfl, b1⟩; replace hb := next hb b1; clear b1)
    | (go_at_call_of 22 (#[Value.string a, Value.string t]); refine (compare_as a t (-1) _ s0 HTS.out HT4.out).mono ?_; rintro e w1 ⟨rfl, b1⟩; replace hb := next hb b1; clear b1)
    | (go_at_call_of 25 (#[Value.string a]); refine (refMay_as a true _ s0 HA.out).mono ?_; rintro e w1 ⟨rfl, b1⟩; replace hb := next hb b1; clear b1)
    | (go_at_call_of 25 (#[Value.string b]); refine (refMay_as b true _ s1 HB.out).mono ?_; rintro e w1 ⟨rfl, b1⟩; replace hb := next hb b1; clear b1)
    | (go_at_call_of 25 (#[Value.string c]); refine (refMay_as c false _ s2 HC.out).mono ?_; rintro e w1 ⟨rfl, b1⟩; replace hb := next hb b1; clear b1))
  go_ret
  exact ⟨rfl, hb⟩

theorem walk (a0 a1 a2 a3 : ByteArray) (s0 : a0.size ≤ maxLen) (s1 : a1.size ≤ maxLen) (s2 : a2.size ≤ maxLen) (s3 : a3.size ≤ maxLen) (w : World) :
    Calls Try.prog 4 #[.string a0, .string a1, .string a2, .string a3] w fun e w' => e = .returned (.bool true) ∧ Below w.heap.size w w' := by
  cases hx : childR a3.data.toList a0.data.toList with
  | none =>
    cases h0 : isName a0.data.toList with
    | false => exact walk_none0 a0 a1 a2 a3 s0 s1 s2 s3 w hx h0
    | true =>
      cases h1 : isName a1.data.toList with
      | false => exact walk_none1 a0 a1 a2 a3 s0 s1 s2 s3 w hx h0 h1
      | true =>
        cases h2 : isName a2.data.toList with
        | false => exact walk_none2 a0 a1 a2 a3 s0 s1 s2 s3 w hx h0 h1 h2
        | true => exact walk_none a0 a1 a2 a3 ⟨(foldL a0.data.toList).toArray⟩ _ _ _ s0 s1 s2 s3 w hx h0 h1 h2 (by unfold Hid; simp) rfl rfl rfl
  | some t0 =>
    have h0 := (child_some hx).1
    have hx' : childR a3.data.toList a0.data.toList = some (⟨t0.toArray⟩ : ByteArray).data.toList := by rw [hx]
    cases h1 : isName a1.data.toList with
    | false => exact walk_some1 a0 a1 a2 a3 s0 s1 s2 s3 w ⟨t0.toArray⟩ hx' h0 h1
    | true =>
      cases h2 : isName a2.data.toList with
      | false => exact walk_some2 a0 a1 a2 a3 s0 s1 s2 s3 w ⟨t0.toArray⟩ hx' h0 h1 h2
      | true => exact walk_some a0 a1 a2 a3 ⟨(foldL a0.data.toList).toArray⟩ _ _ _ s0 s1 s2 s3 w ⟨t0.toArray⟩ hx' h0 h1 h2 (by unfold Hid; simp) rfl rfl rfl

theorem own : ownKnob Try.prog.godebug = none := by kernel_rfl

set_option maxRecDepth 100000 in
theorem lifted (os : Os) (started : os.Started) (H : Type) (enc : TypeId × Value → H) :
    ReturnsInHanded {} Try.checked os 4 .any (Rows.relRulesSpec.pre6 enc Try.prog Try.f4 Rows.relRulesRow.domain false) (Rows.relRulesSpec.post enc Try.prog Try.f4 false true false false) := by
  refine returnsInHanded_of_change (C := Try.checked) own started (by kernel_rfl) Try.func4
    (ChangeSpec.witness6 (enc := enc) (C := Try.checked) false ⟨#[], #[.string ByteArray.empty, .string ByteArray.empty, .string ByteArray.empty, .string ByteArray.empty], []⟩ 8 (by kernel_rfl) (by kernel_rfl) (by kernel_rfl) (by kernel_rfl)) ?_
  intro W base args ds gs before hval0 hW _ _
  have hval : ∀ (j : Nat) t v, Try.f4.params[j]? = some t → args[j]? = some v → Value.okWide Try.prog W .any base t v := hval0
  have hW' := hW
  obtain ⟨p, q, hA0, hV, rfl, hfz, hnd⟩ := hW
  have hA : DataW.TrodAll enc Try.prog W 0 (fun _ => true) true Try.f4.params.toList args.toList ds p := hA0
  rw [Try.params4] at hA hval
  obtain ⟨v0, vs0, d0, ds0, p0, q0, hargs, rfl, rfl, h0, r0⟩ := trodAll_cons hA
  obtain ⟨v1, vs1, d1, ds1, p1, q1, rfl, rfl, rfl, h1, r1⟩ := trodAll_cons r0
  obtain ⟨v2, vs2, d2, ds2, p2, q2, rfl, rfl, rfl, h2, r2⟩ := trodAll_cons r1
  obtain ⟨v3, vs3, d3, ds3, p3, q3, rfl, rfl, rfl, h3, r3⟩ := trodAll_cons r2
  obtain ⟨rfl, rfl, rfl⟩ := trodAll_nil r3
  obtain rfl : args = #[v0, v1, v2, v3] := by cases args; simp_all
  obtain ⟨rfl, rfl⟩ := trodVars_none hV
  obtain ⟨a0, rfl, rfl, rfl, w0⟩ := open_string Try.underlying9 (hval 0 9 v0 rfl rfl) h0
  obtain ⟨a1, rfl, rfl, rfl, w1⟩ := open_string Try.underlying9 (hval 1 9 v1 rfl rfl) h1
  obtain ⟨a2, rfl, rfl, rfl, w2⟩ := open_string Try.underlying9 (hval 2 9 v2 rfl rfl) h2
  obtain ⟨a3, rfl, rfl, rfl, w3⟩ := open_string Try.underlying9 (hval 3 9 v3 rfl rfl) h3
  clear hA0 hval0
  simp only [List.append_nil] at hW'
  refine (walk a0 a1 a2 a3 w0 w1 w2 w3 W).mono fun e W' ⟨he, bel⟩ => ?_
  subst he
  exact ⟨_, rfl, _, _, _, [], [], [], hW', trodAll_mk1 (shut_bool Try.underlying4 _), (trodAll_cons_mk (shut_string Try.underlying9 w0) (trodAll_cons_mk (shut_string Try.underlying9 w1) (trodAll_cons_mk (shut_string Try.underlying9 w2) (trodAll_cons_mk (shut_string Try.underlying9 w3) trodAll_mk0)))), rfl, bel.frame _, fun h => by cases h⟩

/-- The statement. -/
theorem proved : Rows.RelRulesSaid :=
  OpenClaim.holds_of_wide 4 Try.f4 rfl rfl rfl rfl rfl rfl rfl ⟨rfl, rfl, rfl, rfl, rfl⟩ rfl rfl rfl rfl rfl (by kernel_rfl) Try.func4 (by kernel_rfl)
    (of_decide_eq_true (by kernel_rfl)) (by unfold Func.isWrapper; first | (rw [if_pos (by decide +kernel)]; kernel_rfl) | (rw [if_neg (by decide +kernel)]; exact ⟨rfl, rfl⟩))
    (fun os started H enc _ => lifted os started H enc)
#print axioms proved

end Go.Proofs.Yteibmkaghikloaa.relRules
