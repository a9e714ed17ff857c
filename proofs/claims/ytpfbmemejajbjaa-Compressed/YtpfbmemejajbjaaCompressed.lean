/- Compressed holds: for every string and every three numbers, Name and Data of package comp answer as the document does. -/
import Derived.Test.YtpfbmemejajbjaaCpL
import Derived.ProofKit
import Derived.OpenShut
import Derived.ShutString
namespace Go.Proofs.Ytpfbmemejajbjaa.compressed
open Go.ChangeShapes Go.WideShapes Go.ChangeAt Go.RowKit
open Go.ChangeMaps (open_string shut_string)
open Pl

theorem name_form (s : ByteArray) (a : Int) (hs : s.size ≤ 140737488355328) : ∃ (X : ByteArray) (b e : Int), (∀ w, Calls Try.prog 9 #[.string s, .int .i64 a] w fun r w' => r = .returned (.tuple #[.string X, .int .i64 b, .int .i64 e]) ∧ Below w.heap.size w w') ∧
    ∀ w, Calls Try.prog 10 #[.string s, .int .i64 a] w fun r w' => r = .returned (.tuple #[.string X, .int .i64 b, .int .i64 e]) ∧ Below w.heap.size w w' := by
  have key : ∃ R, (∀ w, Calls Try.prog 9 #[.string s, .int .i64 a] w fun r w' => r = .returned (nmV R) ∧ Below w.heap.size w w') ∧ ∀ w, Calls Try.prog 10 #[.string s, .int .i64 a] w fun r w' => r = .returned (nmV R) ∧ Below w.heap.size w w' := by
    by_cases h : a < 0
    · exact ⟨none, fun w => cName_neg s a w h, fun w => rName_neg s a w h⟩
    · obtain ⟨p, rfl⟩ := Int.eq_ofNat_of_zero_le (by omega : 0 ≤ a)
      exact ⟨_, fun w => cName_any s p w hs, fun w => rName_any s p w hs⟩
  obtain ⟨R, h1, h2⟩ := key
  cases R with
  | none => exact ⟨_, _, _, h1, h2⟩
  | some z => obtain ⟨r, b⟩ := z; exact ⟨_, _, _, h1, h2⟩
theorem data_form (s : ByteArray) (a n t : Int) (hs : s.size ≤ 140737488351232) : ∃ (X : ByteArray) (e : Int), (∀ w, Calls Try.prog 11 #[.string s, .int .i64 a, .int .i64 n, .int .i64 t] w fun r w' => r = .returned (.tuple #[.string X, .int .i64 e]) ∧ Below w.heap.size w w') ∧
    ∀ w, Calls Try.prog 12 #[.string s, .int .i64 a, .int .i64 n, .int .i64 t] w fun r w' => r = .returned (.tuple #[.string X, .int .i64 e]) ∧ Below w.heap.size w w' := by
  have key : ∃ R, (∀ w, Calls Try.prog 11 #[.string s, .int .i64 a, .int .i64 n, .int .i64 t] w fun r w' => r = .returned (dtV R) ∧ Below w.heap.size w w') ∧ ∀ w, Calls Try.prog 12 #[.string s, .int .i64 a, .int .i64 n, .int .i64 t] w fun r w' => r = .returned (dtV R) ∧ Below w.heap.size w w' := by
    by_cases h : a < 0 ∨ n < 0 ∨ (s.size : Int) < a + n
    · exact ⟨none, fun w => cData_bad s a n t w (by omega) h, fun w => rData_bad s a n t w (by omega) h⟩
    · obtain ⟨p, rfl⟩ := Int.eq_ofNat_of_zero_le (by omega : 0 ≤ a)
      obtain ⟨m, rfl⟩ := Int.eq_ofNat_of_zero_le (by omega : 0 ≤ n)
      exact ⟨_, fun w => cData_any s p m t w (by omega) (by omega), fun w => rData_any s p m t w hs (by omega)⟩
  obtain ⟨R, h1, h2⟩ := key
  cases R with
  | none => exact ⟨_, _, h1, h2⟩
  | some z => exact ⟨_, _, h1, h2⟩

set_option maxRecDepth 20000 in
set_option maxHeartbeats 1000000 in
theorem walk (s : ByteArray) (a n t : Int) (_ : s.size ≤ maxLen) (_ : (Lit.int .i64 a).wf = true) (_ : (Lit.int .i64 n).wf = true) (_ : (Lit.int .i64 t).wf = true) (hs : s.size ≤ 140737488351232) (w : World) :
    Calls Try.prog 3 #[.string s, .int .i64 a, .int .i64 n, .int .i64 t] w fun e w' => e = .returned (.bool true) ∧ Below w.heap.size w w' := by
  have hb : Below w.heap.size w w := Below.refl _ _
  obtain ⟨X, b, e, h1, h2⟩ := name_form s a (by omega)
  obtain ⟨Y, f, h3, h4⟩ := data_form s a n t hs
  go_enter Try.func3, Try.ntmps3
  go_wp2_with (first
    | (go_at_call 9; go_must (refine (h1 _).mono ?_); rintro r w1 ⟨rfl, b0⟩; replace hb := next hb b0; clear b0)
    | (go_at_call 10; go_must (refine (h2 _).mono ?_); rintro r w1 ⟨rfl, b0⟩; replace hb := next hb b0; clear b0)
    | (go_at_call 11; go_must (refine (h3 _).mono ?_); rintro r w1 ⟨rfl, b0⟩; replace hb := next hb b0; clear b0)
    | (go_at_call 12; go_must (refine (h4 _).mono ?_); rintro r w1 ⟨rfl, b0⟩; replace hb := next hb b0; clear b0)
    | (go_at_call 13; refine (num_any _ _).mono ?_; rintro e w' ⟨rfl, hw⟩; obtain rfl := hw.symm)
    | (go_at_call 14; go_must (refine (awake_any _).mono ?_); rintro e w0 ⟨rfl, b0⟩; replace hb := next hb b0; clear b0))
  go_ret
  exact ⟨rfl, hb⟩

theorem own : ownKnob Try.prog.godebug = none := by kernel_rfl

set_option maxRecDepth 100000 in
theorem lifted (os : Os) (started : os.Started) (H : Type) (enc : TypeId × Value → H) :
    ReturnsInHanded {} Try.checked os 3 .any (Rows.compressedSpec.pre6 enc Try.prog Try.f3 Rows.compressedRow.domain false) (Rows.compressedSpec.post enc Try.prog Try.f3 false true false false) := by
  refine returnsInHanded_of_change_sized (C := Try.checked) own started (by kernel_rfl) Try.func3
    (ChangeSpec.witness6 (enc := enc) (C := Try.checked) false ⟨#[], #[.string ByteArray.empty, .int .i64 0, .int .i64 0, .int .i64 0], []⟩ 8 (by kernel_rfl) (by kernel_rfl) (by kernel_rfl) (by kernel_rfl)) ?_
  intro W base args ds gs before hval0 hW _ hsz0 _
  have hval : ∀ (j : Nat) t v, Try.f3.params[j]? = some t → args[j]? = some v → Value.okWide Try.prog W .any base t v := hval0
  have hsz : (DataW.weightsEach Try.prog (Try.f3.params.toList ++ Rows.compressedSpec.plain.varTypes Try.prog) (ds ++ gs)).all (· ≤ reachBytes) = true := hsz0
  have hW' := hW
  obtain ⟨p, q, hA0, hV, rfl, hfz, hnd⟩ := hW
  have hA : DataW.TrodAll enc Try.prog W 0 (fun _ => true) true Try.f3.params.toList args.toList ds p := hA0
  rw [Try.params3] at hA hval hsz
  obtain ⟨v0, vs0, d0, ds0, p0, q0, hargs, rfl, rfl, h0, r0⟩ := trodAll_cons hA
  obtain ⟨v1, vs1, d1, ds1, p1, q1, rfl, rfl, rfl, h1, r1⟩ := trodAll_cons r0
  obtain ⟨v2, vs2, d2, ds2, p2, q2, rfl, rfl, rfl, h2, r2⟩ := trodAll_cons r1
  obtain ⟨v3, vs3, d3, ds3, p3, q3, rfl, rfl, rfl, h3, r3⟩ := trodAll_cons r2
  obtain ⟨rfl, rfl, rfl⟩ := trodAll_nil r3
  obtain rfl : args = #[v0, v1, v2, v3] := by cases args; simp_all
  obtain ⟨rfl, rfl⟩ := trodVars_none hV
  obtain ⟨a0, rfl, rfl, rfl, w0⟩ := open_string Try.underlying9 (hval 0 9 v0 rfl rfl) h0
  obtain ⟨a1, rfl, rfl, rfl, w1⟩ := open_int Try.underlying3 (hval 1 3 v1 rfl rfl) h1
  obtain ⟨a2, rfl, rfl, rfl, w2⟩ := open_int Try.underlying3 (hval 2 3 v2 rfl rfl) h2
  obtain ⟨a3, rfl, rfl, rfl, w3⟩ := open_int Try.underlying3 (hval 3 3 v3 rfl rfl) h3
  have z0 : a0.size ≤ 140737488351232 := by have := sized_string hsz (j := 0) (t := 9) rfl rfl; rw [data_len] at this; unfold reachBytes at this; omega
  clear hA0 hval0 hsz0 hsz
  simp only [List.append_nil] at hW'
  refine (walk a0 a1 a2 a3 w0 w1 w2 w3 z0 W ).mono fun e W' ⟨he, bel⟩ => ?_
  subst he
  exact ⟨_, rfl, _, _, _, [], [], [], hW', trodAll_mk1 (shut_bool Try.underlying4 _), (trodAll_cons_mk (shut_string Try.underlying9 w0) (trodAll_cons_mk (shut_int Try.underlying3 w1) (trodAll_cons_mk (shut_int Try.underlying3 w2) (trodAll_cons_mk (shut_int Try.underlying3 w3) trodAll_mk0)))), rfl, bel.frame _, fun h => by cases h⟩

/-- The statement. -/
theorem proved : Rows.CompressedSaid :=
  OpenClaim.holds_of_wide 3 Try.f3 rfl rfl rfl rfl rfl rfl rfl ⟨rfl, rfl, rfl, rfl, rfl⟩ rfl rfl rfl rfl rfl (by kernel_rfl) Try.func3 (by kernel_rfl)
    (of_decide_eq_true (by kernel_rfl)) (by unfold Func.isWrapper; first | (rw [if_pos (by decide +kernel)]; kernel_rfl) | (rw [if_neg (by decide +kernel)]; exact ⟨rfl, rfl⟩))
    (fun os started H enc _ => lifted os started H enc)
#print axioms proved

end Go.Proofs.Ytpfbmemejajbjaa.compressed
