/- RelNone holds: for every two strings, what is no name is above nothing and the same as nothing, has no parent and no child, and counts as the root in the order. -/
import Derived.Test.YteibmkaghikloabWalkO
import Derived.Test.YteibmkaghikloabPlainK
import Derived.Deep.RegionWith
import Derived.ProofKit
import Derived.OpenShut
import Derived.ShutString
namespace Go.Proofs.Yteibmkaghikloab.relNone
open Go.ChangeShapes Go.WideShapes Go.ChangeAt Go.RowKit
open Go.ChangeMaps (open_string shut_string)
open Pl

theorem none_cmp {s a : List UInt8} (h : isName s = false) : cmpN s a = cmpN [0] a := by unfold cmpN fl; rw [labs_none h, root_labs]
theorem none_same {a b : List UInt8} (h : isName a = false ∨ isName b = false) : sameB a b = false := by
  rw [Bool.eq_false_iff]
  intro k
  rw [same_iff] at k
  rcases h with h | h
  · rw [h] at k; simp at k
  · rw [h] at k; simp at k
theorem none_above {a b : List UInt8} (h : isName a = false ∨ isName b = false) : aboveB a b = false := by
  rw [Bool.eq_false_iff]
  intro k
  rw [above_iff] at k
  rcases h with h | h
  · rw [h] at k; simp at k
  · rw [h] at k; simp at k

set_option maxRecDepth 20000 in
set_option maxHeartbeats 4000000 in
theorem walk_yes (s a : ByteArray) (s0 : s.size ≤ maxLen) (w : World) (HS : Hid (isName s.data.toList = true)) :
    Calls Try.prog 3 #[.string s, .string a] w fun e w' => e = .returned (.bool true) ∧ Below w.heap.size w w' := by
  have hb : Below w.heap.size w w := Below.refl _ _
  go_enter Try.func3, Try.ntmps3
  go_wp2_with (first
    | (go_at_call 5; refine (awake_any _).mono ?_; rintro e w1 ⟨rfl, b1⟩; replace hb := next hb b1; clear b1)
    | (go_at_call_of 6 (#[Value.string s]); refine (refMay_as s true _ s0 HS.out).mono ?_; rintro e w1 ⟨rfl, b1⟩; replace hb := next hb b1; clear b1))
  go_ret
  exact ⟨rfl, hb⟩

set_option maxRecDepth 20000 in
set_option maxHeartbeats 4000000 in
theorem walk_none (s a : ByteArray) (s0 : s.size ≤ maxLen) (s1 : a.size ≤ maxLen) (w : World) (HS : Hid (isName s.data.toList = false)) (HA : Hid (isName a.data.toList = false)) :
    Calls Try.prog 3 #[.string s, .string a] w fun e w' => e = .returned (.bool true) ∧ Below w.heap.size w w' := by
  have hb : Below w.heap.size w w := Below.refl _ _
  have t1 : True := trivial
  have t2 : True := trivial
  go_enter Try.func3, Try.ntmps3
  go_wp2_with (first
    | (go_at_call 5; refine (awake_any _).mono ?_; rintro e w1 ⟨rfl, b1⟩; replace hb := next hb b1; clear b1)
    | (go_at_call 6; have _t := t1; refine (refMay_as s false _ s0 HS.out).mono ?_; rintro e w1 ⟨rfl, b1⟩; replace hb := next hb b1; clear b1 t1)
    | (go_at_call 6; have _t := t2; refine (refMay_as a false _ s1 HA.out).mono ?_; rintro e w1 ⟨rfl, b1⟩; replace hb := next hb b1; clear b1 t2))
  go_ret
  exact ⟨rfl, hb⟩

set_option maxRecDepth 20000 in
set_option maxHeartbeats 4000000 in
theorem walk_no (s a : ByteArray) (c : Int) (s0 : s.size ≤ maxLen) (s1 : a.size ≤ maxLen) (w : World) (HS : Hid (isName s.data.toList = false)) (HA : Hid (isName a.data.toList = true)) (HC : Hid (cmpN s.data.toList a.data.toList = c)) :
    Calls Try.prog 3 #[.string s, .string a] w fun e w' => e = .returned (.bool true) ∧ Below w.heap.size w w' := by
  have hb : Below w.heap.size w w := Below.refl _ _
  have HP : Hid (parR s.data.toList = none) := par_none (.inl HS.out)
  have HL : Hid (lastR s.data.toList 0 = none) := last_no (.inl HS.out)
  have HX : Hid (childR (⟨#[97]⟩ : ByteArray).data.toList s.data.toList = none) := child_no (.inr (.inr (.inl HS.out)))
  have HF : Hid (foldR s.data.toList = (⟨#[]⟩ : ByteArray).data.toList) := foldR_no HS.out
  have H1 : Hid (sameB s.data.toList s.data.toList = false) := none_same (.inl HS.out)
  have H2 : Hid (aboveB s.data.toList a.data.toList = false) := none_above (.inl HS.out)
  have H3 : Hid (aboveB a.data.toList s.data.toList = false) := none_above (.inr HS.out)
  have H4 : Hid (sameB a.data.toList s.data.toList = false) := none_same (.inr HS.out)
  have H5 : Hid (cmpN kR.data.toList a.data.toList = c) := by unfold Hid; rw [← HC.out, none_cmp HS.out]
  have H6 : Hid (cmpN s.data.toList s.data.toList = 0) := cmp_self _
  go_enter Try.func3, Try.ntmps3
  go_wp2_with (first
    | (go_at_call 5; refine (awake_any _).mono ?_; rintro e w1 ⟨rfl, b1⟩; replace hb := next hb b1; clear b1)
    | (go_at_call_of 6 (#[Value.string s]); refine (refMay_as s false _ s0 HS.out).mono ?_; rintro e w1 ⟨rfl, b1⟩; replace hb := next hb b1; clear b1)
    | (go_at_call_of 6 (#[Value.string a]); refine (refMay_as a true _ s1 HA.out).mono ?_; rintro e w1 ⟨rfl, b1⟩; replace hb := next hb b1; clear b1)
    | (go_at_call 7; refine (parent_err s _ s0 HP.out).mono ?_; rintro e w1 ⟨rfl, b1⟩; replace hb := next hb b1; clear b1)
    | (go_at_call 8; refine (last_err s 0 _ s0 HL.out).mono ?_; rintro e w1 ⟨rfl, b1⟩; replace hb := next hb b1; clear b1)
    | (go_at_call 9; refine (child_err ⟨#[97]⟩ s _ (sz (by decide)) s0 HX.out).mono ?_; rintro e w1 ⟨rfl, b1⟩; replace hb := next hb b1; clear b1)
    | (go_at_call 12; refine (fold_as s ⟨#[]⟩ _ s0 HF.out).mono ?_; rintro e w1 ⟨rfl, b1⟩; replace hb := next hb b1; clear b1)
    | (go_at_call_of 10 (#[Value.string s, Value.string s]); refine (same_as s s false _ s0 s0 H1.out).mono ?_; rintro e w1 ⟨rfl, b1⟩; replace hb := next hb b1; clear b1)
    | (go_at_call_of 10 (#[Value.string a, Value.string s]); refine (same_as a s false _ s1 s0 H4.out).mono ?_; rintro e w1 ⟨rfl, b1⟩; replace hb := next hb b1; clear b1)
    | (go_at_call_of 11 (#[Value.string s, Value.string a]); refine (above_as s a false _ s0 s1 H2.out).mono ?_; rintro e w1 ⟨rfl, b1⟩; replace hb := next hb b1; clear b1)
    | (go_at_call_of 11 (#[Value.string a, Value.string s]); refine (above_as a s false _ s1 s0 H3.out).mono ?_; rintro e w1 ⟨rfl, b1⟩; replace hb := next hb b1; clear b1)
    | (go_at_call_of 14 (#[Value.string s, Value.string a]); refine (compare_as s a _ _ s0 s1 HC.out).mono ?_; rintro e w1 ⟨rfl, b1⟩; replace hb := next hb b1; clear b1)
    | (go_at_call_of 14 (#[Value.string ⟨#[0]⟩, Value.string a]); refine (compare_as kR a _ _ (sz (by decide)) s1 H5.out).mono ?_; rintro e w1 ⟨rfl, b1⟩; replace hb := next hb b1; clear b1)
    | (go_at_call_of 14 (#[Value.string s, Value.string s]); refine (compare_as s s 0 _ s0 s0 H6.out).mono ?_; rintro e w1 ⟨rfl, b1⟩; replace hb := next hb b1; clear b1)
    | (go_at_call 13; refine (num_any _ _).mono ?_; rintro e w' ⟨rfl, hw⟩; obtain rfl := hw.symm))
  go_ret
  exact ⟨rfl, hb⟩

theorem walk (a0 a1 : ByteArray) (s0 : a0.size ≤ maxLen) (s1 : a1.size ≤ maxLen) (w : World) :
    Calls Try.prog 3 #[.string a0, .string a1] w fun e w' => e = .returned (.bool true) ∧ Below w.heap.size w w' := by
  cases h : isName a0.data.toList with
  | true => exact walk_yes a0 a1 s0 w h
  | false =>
    cases h1 : isName a1.data.toList with
    | false => exact walk_none a0 a1 s0 s1 w h h1
    | true => exact walk_no a0 a1 _ s0 s1 w h h1 rfl

theorem own : ownKnob Try.prog.godebug = none := by kernel_rfl

set_option maxRecDepth 100000 in
theorem lifted (os : Os) (started : os.Started) (H : Type) (enc : TypeId × Value → H) :
    ReturnsInHanded {} Try.checked os 3 .any (Rows.relNoneSpec.pre6 enc Try.prog Try.f3 Rows.relNoneRow.domain false) (Rows.relNoneSpec.post enc Try.prog Try.f3 false true false false) := by
  refine returnsInHanded_of_change (C := Try.checked) own started (by kernel_rfl) Try.func3
    (ChangeSpec.witness6 (enc := enc) (C := Try.checked) false ⟨#[], #[.string ByteArray.empty, .string ByteArray.empty], []⟩ 8 (by kernel_rfl) (by kernel_rfl) (by kernel_rfl) (by kernel_rfl)) ?_
  intro W base args ds gs before hval0 hW _ _
  have hval : ∀ (j : Nat) t v, Try.f3.params[j]? = some t → args[j]? = some v → Value.okWide Try.prog W .any base t v := hval0
  have hW' := hW
  obtain ⟨p, q, hA0, hV, rfl, hfz, hnd⟩ := hW
  have hA : DataW.TrodAll enc Try.prog W 0 (fun _ => true) true Try.f3.params.toList args.toList ds p := hA0
  rw [Try.params3] at hA hval
  obtain ⟨v0, vs0, d0, ds0, p0, q0, hargs, rfl, rfl, h0, r0⟩ := trodAll_cons hA
  obtain ⟨v1, vs1, d1, ds1, p1, q1, rfl, rfl, rfl, h1, r1⟩ := trodAll_cons r0
  obtain ⟨rfl, rfl, rfl⟩ := trodAll_nil r1
  obtain rfl : args = #[v0, v1] := by cases args; simp_all
  obtain ⟨rfl, rfl⟩ := trodVars_none hV
  obtain ⟨a0, rfl, rfl, rfl, w0⟩ := open_string Try.underlying9 (hval 0 9 v0 rfl rfl) h0
  obtain ⟨a1, rfl, rfl, rfl, w1⟩ := open_string Try.underlying9 (hval 1 9 v1 rfl rfl) h1
  clear hA0 hval0
  simp only [List.append_nil] at hW'
  refine (walk a0 a1 w0 w1 W).mono fun e W' ⟨he, bel⟩ => ?_
  subst he
  exact ⟨_, rfl, _, _, _, [], [], [], hW', trodAll_mk1 (shut_bool Try.underlying4 _), (trodAll_cons_mk (shut_string Try.underlying9 w0) (trodAll_cons_mk (shut_string Try.underlying9 w1) trodAll_mk0)), rfl, bel.frame _, fun h => by cases h⟩

/-- The statement. -/
theorem proved : Rows.RelNoneSaid :=
  OpenClaim.holds_of_wide 3 Try.f3 rfl rfl rfl rfl rfl rfl rfl ⟨rfl, rfl, rfl, rfl, rfl⟩ rfl rfl rfl rfl rfl (by kernel_rfl) Try.func3 (by kernel_rfl)
    (of_decide_eq_true (by kernel_rfl)) (by unfold Func.isWrapper; first | (rw [if_pos (by decide +kernel)]; kernel_rfl) | (rw [if_neg (by decide +kernel)]; exact ⟨rfl, rfl⟩))
    (fun os started H enc _ => lifted os started H enc)
#print axioms proved

end Go.Proofs.Yteibmkaghikloab.relNone
