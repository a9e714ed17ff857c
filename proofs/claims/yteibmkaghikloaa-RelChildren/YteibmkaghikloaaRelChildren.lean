/- RelChildren holds: for every number and every string, Child takes a label of so many bytes ahead of it just where the label has one byte to MaxLabel, the string is a name and both together fit. -/
import Derived.Test.YteibmkaghikloaaWalkP
import Derived.Deep.RegionWith
import Derived.ProofKit
import Derived.OpenShut
import Derived.ShutString
namespace Go.Proofs.Yteibmkaghikloaa.relChildren
open Go.ChangeShapes Go.WideShapes Go.ChangeAt Go.RowKit
open Go.ChangeMaps (open_string shut_string)
open Pl

set_option maxRecDepth 20000 in
set_option maxHeartbeats 4000000 in
theorem walk_no (a0 : Int) (s x : ByteArray) (k : Nat) (s1 : s.size ≤ maxLen) (w : World) (hk : bits .and .i64 a0 127 = (k : Int)) (hk1 : k ≤ 127) (hx : x.data.toList = List.replicate k 0) (hxs : x.size ≤ maxLen)
    (n : Bool) (HN : Hid (isName s.data.toList = n)) (HR : Hid (childR x.data.toList s.data.toList = none))
    (hc : decide (1 ≤ (k : Int)) = false ∨ (1 ≤ (k : Int) ∧ decide ((k : Int) ≤ 63) = false) ∨ (1 ≤ (k : Int) ∧ (k : Int) ≤ 63 ∧ n = false) ∨ (1 ≤ (k : Int) ∧ (k : Int) ≤ 63 ∧ n = true ∧ s.size ≤ 255 ∧ decide ((s.size : Int) + 1 + (k : Int) ≤ 255) = false)) :
    Calls Try.prog 8 #[.int .i64 a0, .string s] w fun e w' => e = .returned (.bool true) ∧ Below w.heap.size w w' := by
  obtain ⟨i0, hi, hz0, hz1, hz2⟩ := info_parts info5
  have HXL : Hid (x.data.toList = List.replicate k 0) := hx
  clear hx
  have hb : Below w.heap.size w w := Below.refl _ _
  rcases hc with h1 | ⟨h1, h2⟩ | ⟨h1, h2, rfl⟩ | ⟨h1, h2, rfl, h4, h3⟩
  all_goals
    go_enter Try.func8, Try.ntmps8
    go_wp2_with (first
      | (go_at_call 24; refine (awake_any _).mono ?_; rintro e w1 ⟨rfl, b1⟩; replace hb := next hb b1; clear b1)
      | (at_make; refine wpList_make_full _ rfl _ _ 40 rfl w.heap.size 5 i0 (.int .u8 0) 1 Try.underlying40 hi hz0 hz1 .i64 .i64 _ _ k rfl rfl rfl rfl (by rw [hz2]; omega) (by unfold maxLen; omega) hb.size ?_; intro w2 hown hgrow; replace hb := next hb (below_of hgrow); clear hgrow)
      | (refine wpList_zeros _ rfl (.tmp 15) rfl _ _ _ x rfl HXL.out hown ?_)
      | (go_at_call 13; refine (child_err x s _ hxs s1 HR.out).mono ?_; rintro e w3 ⟨rfl, b1⟩; replace hb := next hb b1; clear b1)
      | (go_at_call 25; refine (refMay_as s _ _ s1 HN.out).mono ?_; rintro e w4 ⟨rfl, b1⟩; replace hb := next hb b1; clear b1)
      | (go_at_call 21; refine (num_any _ _).mono ?_; rintro e w' ⟨rfl, hw⟩; obtain rfl := hw.symm))
    go_ret
    exact ⟨rfl, hb⟩

set_option maxRecDepth 20000 in
set_option maxHeartbeats 4000000 in
theorem walk_yes (a0 : Int) (s x t : ByteArray) (k : Nat) (s1 : s.size ≤ maxLen) (w : World) (hk : bits .and .i64 a0 127 = (k : Int)) (hx : x.data.toList = List.replicate k 0) (hxs : x.size ≤ maxLen)
    (HN : Hid (isName s.data.toList = true)) (HR : Hid (childR x.data.toList s.data.toList = some t.data.toList)) (ht : (t.size : Int) = (s.size : Int) + 1 + (k : Int)) (h1 : 1 ≤ (k : Int)) (h2 : (k : Int) ≤ 63) (h3 : (s.size : Int) + 1 + (k : Int) ≤ 255) :
    Calls Try.prog 8 #[.int .i64 a0, .string s] w fun e w' => e = .returned (.bool true) ∧ Below w.heap.size w w' := by
  obtain ⟨i0, hi, hz0, hz1, hz2⟩ := info_parts info5
  have HXL : Hid (x.data.toList = List.replicate k 0) := hx
  have HA : Hid (aboveB s.data.toList t.data.toList = true) := child_above HR.out
  have HTS : Hid (t.size ≤ maxLen) := by unfold Hid maxLen; omega
  clear hx
  have hb : Below w.heap.size w w := Below.refl _ _
  go_enter Try.func8, Try.ntmps8
  go_wp2_with (first
    | (go_at_call 24; refine (awake_any _).mono ?_; rintro e w1 ⟨rfl, b1⟩; replace hb := next hb b1; clear b1)
    | (at_make; refine wpList_make_full _ rfl _ _ 40 rfl w.heap.size 5 i0 (.int .u8 0) 1 Try.underlying40 hi hz0 hz1 .i64 .i64 _ _ k rfl rfl rfl rfl (by rw [hz2]; omega) (by unfold maxLen; omega) hb.size ?_; intro w2 hown hgrow; replace hb := next hb (below_of hgrow); clear hgrow)
    | (refine wpList_zeros _ rfl (.tmp 15) rfl _ _ _ x rfl HXL.out hown ?_)
    | (go_at_call 13; refine (child_ok x s t _ hxs s1 HR.out).mono ?_; rintro e w3 ⟨rfl, b1⟩; replace hb := next hb b1; clear b1)
    | (go_at_call 25; refine (refMay_as s _ _ s1 HN.out).mono ?_; rintro e w4 ⟨rfl, b1⟩; replace hb := next hb b1; clear b1)
    | (go_at_call 19; refine (above_as s t true _ s1 HTS.out HA.out).mono ?_; rintro e w4 ⟨rfl, b1⟩; replace hb := next hb b1; clear b1)
    | (go_at_call 21; refine (num_any _ _).mono ?_; rintro e w' ⟨rfl, hw⟩; obtain rfl := hw.symm))
  go_ret
  exact ⟨rfl, hb⟩

theorem walk (a0 : Int) (a1 : ByteArray) (_ : (Lit.int .i64 a0).wf = true) (s1 : a1.size ≤ maxLen) (w : World) :
    Calls Try.prog 8 #[.int .i64 a0, .string a1] w fun e w' => e = .returned (.bool true) ∧ Below w.heap.size w w' := by
  obtain ⟨k, hk⟩ : ∃ k : Nat, bits .and .i64 a0 127 = (k : Int) := ⟨(a0 % 128).toNat, by rw [i64_and127]; omega⟩
  have hk1 : k ≤ 127 := by rw [i64_and127] at hk; omega
  obtain ⟨x, hx, hxs⟩ := zeros k
  have hxl : x.data.toList.length = k := by rw [hx]; simp
  have hxm : x.size ≤ maxLen := by unfold maxLen; omega
  have hsl := data_len a1
  cases hr : childR x.data.toList a1.data.toList with
  | none =>
    refine walk_no a0 a1 x k s1 w hk hk1 hx hxm _ rfl hr ?_
    by_cases h1 : 1 ≤ (k : Int)
    · by_cases h2 : (k : Int) ≤ 63
      · cases h3 : isName a1.data.toList with
        | false => exact .inr (.inr (.inl ⟨h1, h2, rfl⟩))
        | true =>
          have h5 := name_size h3
          refine .inr (.inr (.inr ⟨h1, h2, rfl, h5, ?_⟩))
          by_cases h4 : (a1.size : Int) + 1 + (k : Int) ≤ 255
          · exfalso
            unfold childR at hr
            rw [if_pos ⟨by omega, by omega, h3, by omega⟩] at hr
            simp at hr
          · simpa using h4
      · exact .inr (.inl ⟨h1, by simpa using h2⟩)
    · exact .inl (by simpa using h1)
  | some t0 =>
    obtain ⟨c1, c2, c3, c4, c5, c6, c7⟩ := child_some hr
    exact walk_yes a0 a1 x ⟨t0.toArray⟩ k s1 w hk hx hxm c1 hr (by rw [← data_len]; simp; omega) (by omega) (by omega) (by omega)

theorem own : ownKnob Try.prog.godebug = none := by kernel_rfl

set_option maxRecDepth 100000 in
theorem lifted (os : Os) (started : os.Started) (H : Type) (enc : TypeId × Value → H) :
    ReturnsInHanded {} Try.checked os 8 .any (Rows.relChildrenSpec.pre6 enc Try.prog Try.f8 Rows.relChildrenRow.domain false) (Rows.relChildrenSpec.post enc Try.prog Try.f8 false true false false) := by
  refine returnsInHanded_of_change (C := Try.checked) own started (by kernel_rfl) Try.func8
    (ChangeSpec.witness6 (enc := enc) (C := Try.checked) false ⟨#[], #[.int .i64 0, .string ByteArray.empty], []⟩ 8 (by kernel_rfl) (by kernel_rfl) (by kernel_rfl) (by kernel_rfl)) ?_
  intro W base args ds gs before hval0 hW _ _
  have hval : ∀ (j : Nat) t v, Try.f8.params[j]? = some t → args[j]? = some v → Value.okWide Try.prog W .any base t v := hval0
  have hW' := hW
  obtain ⟨p, q, hA0, hV, rfl, hfz, hnd⟩ := hW
  have hA : DataW.TrodAll enc Try.prog W 0 (fun _ => true) true Try.f8.params.toList args.toList ds p := hA0
  rw [Try.params8] at hA hval
  obtain ⟨v0, vs0, d0, ds0, p0, q0, hargs, rfl, rfl, h0, r0⟩ := trodAll_cons hA
  obtain ⟨v1, vs1, d1, ds1, p1, q1, rfl, rfl, rfl, h1, r1⟩ := trodAll_cons r0
  obtain ⟨rfl, rfl, rfl⟩ := trodAll_nil r1
  obtain rfl : args = #[v0, v1] := by cases args; simp_all
  obtain ⟨rfl, rfl⟩ := trodVars_none hV
  obtain ⟨a0, rfl, rfl, rfl, w0⟩ := open_int Try.underlying3 (hval 0 3 v0 rfl rfl) h0
  obtain ⟨a1, rfl, rfl, rfl, w1⟩ := open_string Try.underlying9 (hval 1 9 v1 rfl rfl) h1
  clear hA0 hval0
  simp only [List.append_nil] at hW'
  refine (walk a0 a1 w0 w1 W).mono fun e W' ⟨he, bel⟩ => ?_
  subst he
  exact ⟨_, rfl, _, _, _, [], [], [], hW', trodAll_mk1 (shut_bool Try.underlying4 _), (trodAll_cons_mk (shut_int Try.underlying3 w0) (trodAll_cons_mk (shut_string Try.underlying9 w1) trodAll_mk0)), rfl, bel.frame _, fun h => by cases h⟩

/-- The statement. -/
theorem proved : Rows.RelChildrenSaid :=
  OpenClaim.holds_of_wide 8 Try.f8 rfl rfl rfl rfl rfl rfl rfl ⟨rfl, rfl, rfl, rfl, rfl⟩ rfl rfl rfl rfl rfl (by kernel_rfl) Try.func8 (by kernel_rfl)
    (of_decide_eq_true (by kernel_rfl)) (by unfold Func.isWrapper; first | (rw [if_pos (by decide +kernel)]; kernel_rfl) | (rw [if_neg (by decide +kernel)]; exact ⟨rfl, rfl⟩))
    (fun os started H enc _ => lifted os started H enc)
#print axioms proved

end Go.Proofs.Yteibmkaghikloaa.relChildren
