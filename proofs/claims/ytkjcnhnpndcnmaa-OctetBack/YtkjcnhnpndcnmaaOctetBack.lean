/- OctetBack holds: for every number and every string, what Put16 and Put32 put behind the string is what U16 and U32 give there. -/
import Derived.Test.YtkjcnhnpndcnmaaOctC
import Derived.ProofKit
import Derived.OpenShut
import Derived.ShutString
import Derived.SizedLaws
namespace Go.Proofs.Ytkjcnhnpndcnmaa.octetBack
open Go.ChangeShapes Go.WideShapes Go.ChangeAt Go.RowKit
open Go.ChangeMaps (open_string shut_string)

theorem walk (x : Int) (s : ByteArray) (_ : (Lit.int .i64 x).wf = true) (_ : s.size ≤ maxLen) (z : s.size ≤ 140737488351232) (w : World) :
    Calls Try.prog 4 #[.int .i64 x, .string s] w fun e w' => e = .returned (.bool true) ∧ Below w.heap.size w w' := by
  have m16 := mask16 x
  have m32 := mask32 x
  have z1 : s.size + (be2 x).size ≤ 140737488355327 := by have : (be2 x).size = 2 := rfl; omega
  have z2 : s.size + (be4 x).size ≤ 140737488355327 := by have : (be4 x).size = 4 := rfl; omega
  have d1 : Hid ((s ++ be2 x).data.toList.drop s.size = oct x 256 :: oct x 1 :: []) := by unfold Hid; rw [app_list, ← data_len, List.drop_left]; rfl
  have d2 : Hid ((s ++ be4 x).data.toList.drop s.size = oct x 16777216 :: oct x 65536 :: oct x 256 :: oct x 1 :: []) := by unfold Hid; rw [app_list, ← data_len, List.drop_left]; rfl
  have s1 : Hid ((s ++ be2 x).size ≤ maxLen) := by unfold Hid maxLen; rw [ByteArray.size_append]; omega
  have s2 : Hid ((s ++ be4 x).size ≤ maxLen) := by unfold Hid maxLen; rw [ByteArray.size_append]; omega
  go_enter Try.func4, Try.ntmps4
  go_wp2_with (first
    | (go_at_call 14; go_must (refine (awake_any _).mono ?_); rintro e w0 ⟨rfl, b0⟩)
    | (go_at_call 11; go_must (refine (put16_any x _).mono ?_); rintro e w1 ⟨rfl, b1⟩)
    | (go_at_call 13; go_must (refine (put32_any x _).mono ?_); rintro e w2 ⟨rfl, b2⟩)
    | (go_at_call 7; go_must (refine (u16_at _ _ x [] _ s1.out d1.out).mono ?_); rintro e w3 ⟨rfl, b3⟩)
    | (go_at_call 9; go_must (refine (u32_at _ _ x [] _ s2.out d2.out).mono ?_); rintro e w4 ⟨rfl, b4⟩)
    | (go_at_call 10; refine (num_any _ _).mono ?_; rintro e w' ⟨rfl, hw⟩; obtain rfl := hw.symm))
  go_ret
  exact ⟨rfl, next (next (next (next b0 b1) (below_drew b3)) b2) (below_drew b4)⟩

theorem own : ownKnob Try.prog.godebug = none := by kernel_rfl

set_option maxRecDepth 100000 in
theorem lifted (os : Os) (started : os.Started) (H : Type) (enc : TypeId × Value → H) :
    ReturnsInHanded {} Try.checked os 4 .any (Rows.octetBackSpec.pre6 enc Try.prog Try.f4 Rows.octetBackRow.domain false) (Rows.octetBackSpec.post enc Try.prog Try.f4 false true false false) := by
  refine returnsInHanded_of_change_sized (C := Try.checked) own started (by kernel_rfl) Try.func4
    (ChangeSpec.witness6 (enc := enc) (C := Try.checked) false ⟨#[], #[.int .i64 0, .string ByteArray.empty], []⟩ 8 (by kernel_rfl) (by kernel_rfl) (by kernel_rfl) (by kernel_rfl)) ?_
  intro W base args ds gs before hval0 hW _ hsz0 _
  have hval : ∀ (j : Nat) t v, Try.f4.params[j]? = some t → args[j]? = some v → Value.okWide Try.prog W .any base t v := hval0
  have hsz : (DataW.weightsEach Try.prog (Try.f4.params.toList ++ Rows.octetBackSpec.plain.varTypes Try.prog) (ds ++ gs)).all (· ≤ reachBytes) = true := hsz0
  have hW' := hW
  obtain ⟨p, q, hA0, hV, rfl, hfz, hnd⟩ := hW
  have hA : DataW.TrodAll enc Try.prog W 0 (fun _ => true) true Try.f4.params.toList args.toList ds p := hA0
  rw [Try.params4] at hA hval hsz
  obtain ⟨v0, vs0, d0, ds0, p0, q0, hargs, rfl, rfl, h0, r0⟩ := trodAll_cons hA
  obtain ⟨v1, vs1, d1, ds1, p1, q1, rfl, rfl, rfl, h1, r1⟩ := trodAll_cons r0
  obtain ⟨rfl, rfl, rfl⟩ := trodAll_nil r1
  obtain rfl : args = #[v0, v1] := by cases args; simp_all
  obtain ⟨rfl, rfl⟩ := trodVars_none hV
  obtain ⟨a0, rfl, rfl, rfl, w0⟩ := open_int Try.underlying3 (hval 0 3 v0 rfl rfl) h0
  obtain ⟨a1, rfl, rfl, rfl, w1⟩ := open_string Try.underlying9 (hval 1 9 v1 rfl rfl) h1
  have z1 : a1.size ≤ 140737488351232 := by have := sized_string hsz (j := 1) (t := 9) rfl rfl; rw [data_len] at this; unfold reachBytes at this; omega
  clear hA0 hval0 hsz0 hsz
  simp only [List.append_nil] at hW'
  refine (walk a0 a1 w0 w1 z1 W).mono fun e W' ⟨he, bel⟩ => ?_
  subst he
  exact ⟨_, rfl, _, _, _, [], [], [], hW', trodAll_mk1 (shut_bool Try.underlying4 _), (trodAll_cons_mk (shut_int Try.underlying3 w0) (trodAll_cons_mk (shut_string Try.underlying9 w1) trodAll_mk0)), rfl, bel.frame _, fun h => by cases h⟩

/-- The statement. -/
theorem proved : Rows.OctetBackSaid :=
  OpenClaim.holds_of_wide 4 Try.f4 rfl rfl rfl rfl rfl rfl rfl ⟨rfl, rfl, rfl, rfl, rfl⟩ rfl rfl rfl rfl rfl (by kernel_rfl) Try.func4 (by kernel_rfl)
    (of_decide_eq_true (by kernel_rfl)) (by unfold Func.isWrapper; first | (rw [if_pos (by decide +kernel)]; kernel_rfl) | (rw [if_neg (by decide +kernel)]; exact ⟨rfl, rfl⟩))
    (fun os started H enc _ => lifted os started H enc)
#print axioms proved

end Go.Proofs.Ytkjcnhnpndcnmaa.octetBack
