/- Rels holds: for every two strings, every number and every label, each call of package rel answers as the document does. -/
import Derived.Test.YteibmkaghikloaaWalkU
import Derived.ProofKit
import Derived.OpenShut
import Derived.ShutString
namespace Go.Proofs.Yteibmkaghikloaa.rels
open Go.ChangeShapes Go.WideShapes Go.ChangeAt Go.RowKit
open Go.ChangeMaps (open_string shut_string)
open Pl

theorem opt_form (r : Option (List UInt8)) : ∃ (T : ByteArray) (E : Int), optV r = .tuple #[.string T, .int .i64 E] := by
  cases r with
  | none => exact ⟨_, _, rfl⟩
  | some l => exact ⟨_, _, rfl⟩

set_option maxRecDepth 20000 in
set_option maxHeartbeats 4000000 in
theorem walk (a b : ByteArray) (k : Int) (x : ByteArray) (s0 : a.size ≤ maxLen) (s1 : b.size ≤ maxLen) (_ : (Lit.int .i64 k).wf = true) (s3 : x.size ≤ maxLen) (w : World) :
    Calls Try.prog 3 #[.string a, .string b, .int .i64 k, .string x] w fun e w' => e = .returned (.bool true) ∧ Below w.heap.size w w' := by
  have hb : Below w.heap.size w w := Below.refl _ _
  obtain ⟨T1, E1, h1⟩ := opt_form (parR a.data.toList)
  obtain ⟨T2, E2, h2⟩ := opt_form (lastR a.data.toList k)
  obtain ⟨T3, E3, h3⟩ := opt_form (childR x.data.toList b.data.toList)
  have H1 : Hid (optV (parR a.data.toList) = .tuple #[.string T1, .int .i64 E1]) := h1
  have H2 : Hid (optV (lastR a.data.toList k) = .tuple #[.string T2, .int .i64 E2]) := h2
  have H3 : Hid (optV (childR x.data.toList b.data.toList) = .tuple #[.string T3, .int .i64 E3]) := h3
  obtain ⟨F, hF⟩ : ∃ F : ByteArray, foldR a.data.toList = F.data.toList := ⟨⟨(foldR a.data.toList).toArray⟩, by simp⟩
  have HF : Hid (foldR a.data.toList = F.data.toList) := hF
  obtain ⟨p, hp⟩ : ∃ p, sameB a.data.toList b.data.toList = p := ⟨_, rfl⟩
  obtain ⟨q, hq⟩ : ∃ q, aboveB a.data.toList b.data.toList = q := ⟨_, rfl⟩
  obtain ⟨c, hc⟩ : ∃ c, cmpN a.data.toList b.data.toList = c := ⟨_, rfl⟩
  have HP : Hid (sameB a.data.toList b.data.toList = p) := hp
  have HQ : Hid (aboveB a.data.toList b.data.toList = q) := hq
  have HC : Hid (cmpN a.data.toList b.data.toList = c) := hc
  clear h1 h2 h3 hF hp hq hc
  go_enter Try.func3, Try.ntmps3
  go_wp2_with (first
    | (go_at_call 9; refine (parent_any a _ s0).mono ?_; rw [H1.out]; rintro e w1 ⟨rfl, b1⟩; replace hb := next hb b1; clear b1)
    | (go_at_call 10; refine (refParent_any a _ s0).mono ?_; rw [H1.out]; rintro e w1 ⟨rfl, b1⟩; replace hb := next hb b1; clear b1)
    | (go_at_call 11; refine (last_any a k _ s0).mono ?_; rw [H2.out]; rintro e w1 ⟨rfl, b1⟩; replace hb := next hb b1; clear b1)
    | (go_at_call 12; refine (refLast_any a k _ s0).mono ?_; rw [H2.out]; rintro e w1 ⟨rfl, b1⟩; replace hb := next hb b1; clear b1)
    | (go_at_call 13; refine (child_any x b _ s3 s1).mono ?_; rw [H3.out]; rintro e w1 ⟨rfl, b1⟩; replace hb := next hb b1; clear b1)
    | (go_at_call 14; refine (refChild_any x b _ s3 s1).mono ?_; rw [H3.out]; rintro e w1 ⟨rfl, b1⟩; replace hb := next hb b1; clear b1)
    | (go_at_call 15; refine (fold_as a F _ s0 HF.out).mono ?_; rintro e w1 ⟨rfl, b1⟩; replace hb := next hb b1; clear b1)
    | (go_at_call 16; refine (refFold_as a F _ s0 HF.out).mono ?_; rintro e w1 ⟨rfl, b1⟩; replace hb := next hb b1; clear b1)
    | (go_at_call 17; refine (same_as a b p _ s0 s1 HP.out).mono ?_; rintro e w1 ⟨rfl, b1⟩; replace hb := next hb b1; clear b1)
    | (go_at_call 18; refine (refSame_as a b p _ s0 s1 HP.out).mono ?_; rintro e w1 ⟨rfl, b1⟩; replace hb := next hb b1; clear b1)
    | (go_at_call 19; refine (above_as a b q _ s0 s1 HQ.out).mono ?_; rintro e w1 ⟨rfl, b1⟩; replace hb := next hb b1; clear b1)
    | (go_at_call 20; refine (refAbove_any a b _ s0 s1).mono ?_; rw [HQ.out]; rintro e w1 ⟨rfl, b1⟩; replace hb := next hb b1; clear b1)
    | (go_at_call 22; refine (compare_as a b c _ s0 s1 HC.out).mono ?_; rintro e w1 ⟨rfl, b1⟩; replace hb := next hb b1; clear b1)
    | (go_at_call 23; refine (refCompare_any a b _ s0 s1).mono ?_; rw [HC.out]; rintro e w1 ⟨rfl, b1⟩; replace hb := next hb b1; clear b1)
    | (go_at_call 21; refine (num_any _ _).mono ?_; rintro e w' ⟨rfl, hw⟩; obtain rfl := hw.symm)
    | (go_at_call 24; refine (awake_any _).mono ?_; rintro e w1 ⟨rfl, b1⟩; replace hb := next hb b1; clear b1))
  go_ret
  exact ⟨rfl, hb⟩

theorem own : ownKnob Try.prog.godebug = none := by kernel_rfl

set_option maxRecDepth 100000 in
theorem lifted (os : Os) (started : os.Started) (H : Type) (enc : TypeId × Value → H) :
    ReturnsInHanded {} Try.checked os 3 .any (Rows.relsSpec.pre6 enc Try.prog Try.f3 Rows.relsRow.domain false) (Rows.relsSpec.post enc Try.prog Try.f3 false true false false) := by
  refine returnsInHanded_of_change (C := Try.checked) own started (by kernel_rfl) Try.func3
    (ChangeSpec.witness6 (enc := enc) (C := Try.checked) false ⟨#[], #[.string ByteArray.empty, .string ByteArray.empty, .int .i64 0, .string ByteArray.empty], []⟩ 8 (by kernel_rfl) (by kernel_rfl) (by kernel_rfl) (by kernel_rfl)) ?_
  intro W base args ds gs before hval0 hW _ _
  have hval : ∀ (j : Nat) t v, Try.f3.params[j]? = some t → args[j]? = some v → Value.okWide Try.prog W .any base t v := hval0
  have hW' := hW
  obtain ⟨p, q, hA0, hV, rfl, hfz, hnd⟩ := hW
  have hA : DataW.TrodAll enc Try.prog W 0 (fun _ => true) true Try.f3.params.toList args.toList ds p := hA0
  rw [Try.params3] at hA hval
  obtain ⟨v0, vs0, d0, ds0, p0, q0, hargs, rfl, rfl, h0, r0⟩ := trodAll_cons hA
  obtain ⟨v1, vs1, d1, ds1, p1, q1, rfl, rfl, rfl, h1, r1⟩ := trodAll_cons r0
  obtain ⟨v2, vs2, d2, ds2, p2, q2, rfl, rfl, rfl, h2, r2⟩ := trodAll_cons r1
  obtain ⟨v3, vs3, d3, ds3, p3, q3, rfl, rfl, rfl, h3, r3⟩ := trodAll_cons r2
  obtain ⟨rfl, rfl, rfl⟩ := trodAll_nil r3
  obtain rfl : args = #[v0, v1, v2, v3] := by cases args; simp_all
  obtain ⟨rfl, rfl⟩ := trodVars_none hV
  obtain ⟨a0, rfl, rfl, rfl, w0⟩ := open_string Try.underlying9 (hval 0 9 v0 rfl rfl) h0
  obtain ⟨a1, rfl, rfl, rfl, w1⟩ := open_string Try.underlying9 (hval 1 9 v1 rfl rfl) h1
  obtain ⟨a2, rfl, rfl, rfl, w2⟩ := open_int Try.underlying3 (hval 2 3 v2 rfl rfl) h2
  obtain ⟨a3, rfl, rfl, rfl, w3⟩ := open_string Try.underlying9 (hval 3 9 v3 rfl rfl) h3
  clear hA0 hval0
  simp only [List.append_nil] at hW'
  refine (walk a0 a1 a2 a3 w0 w1 w2 w3 W).mono fun e W' ⟨he, bel⟩ => ?_
  subst he
  exact ⟨_, rfl, _, _, _, [], [], [], hW', trodAll_mk1 (shut_bool Try.underlying4 _), (trodAll_cons_mk (shut_string Try.underlying9 w0) (trodAll_cons_mk (shut_string Try.underlying9 w1) (trodAll_cons_mk (shut_int Try.underlying3 w2) (trodAll_cons_mk (shut_string Try.underlying9 w3) trodAll_mk0)))), rfl, bel.frame _, fun h => by cases h⟩

/-- The statement. -/
theorem proved : Rows.RelsSaid :=
  OpenClaim.holds_of_wide 3 Try.f3 rfl rfl rfl rfl rfl rfl rfl ⟨rfl, rfl, rfl, rfl, rfl⟩ rfl rfl rfl rfl rfl (by kernel_rfl) Try.func3 (by kernel_rfl)
    (of_decide_eq_true (by kernel_rfl)) (by unfold Func.isWrapper; first | (rw [if_pos (by decide +kernel)]; kernel_rfl) | (rw [if_neg (by decide +kernel)]; exact ⟨rfl, rfl⟩))
    (fun os started H enc _ => lifted os started H enc)
#print axioms proved

end Go.Proofs.Yteibmkaghikloaa.rels
