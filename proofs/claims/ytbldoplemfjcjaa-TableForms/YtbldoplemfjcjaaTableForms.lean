/- TableForms holds: for every two numbers, what was asked wrongly is not added to a table, nor is anything to a full one, nor is there a table of too little or too much room. -/
import Derived.Test.YtbldoplemfjcjaaOuS
import Derived.ProofKit
import Derived.OpenShut
import Derived.ShutString
namespace Go.Proofs.Ytbldoplemfjcjaa.tableForms
open Go.ChangeShapes Go.WideShapes Go.ChangeAt Go.RowKit
open Go.ChangeMaps (open_string shut_string)

theorem walk (which x : Int) (_ : (Lit.int .i64 which).wf = true) (_ : (Lit.int .i64 x).wf = true) (w : World) :
    Calls Try.prog 5 #[.int .i64 which, .int .i64 x] w fun e w' => e = .returned (.bool true) ∧ Below w.heap.size w w' := by
  have hU : 0 ≤ IntKind.u64.wrap which := by
    have : IntKind.u64.wrap which = which % 18446744073709551616 := by simp [IntKind.wrap, IntKind.bits, IntKind.signed]
    rw [this]; omega
  have hm := Int.tmod_eq_emod_of_nonneg (b := 7) hU
  obtain ⟨m, hm2⟩ : ∃ m, IntKind.u64.wrap which % 7 = m := ⟨_, rfl⟩
  have hm3 : m = 0 ∨ m = 1 ∨ m = 2 ∨ m = 3 ∨ m = 4 ∨ m = 5 ∨ m = 6 := by omega
  rw [hm2] at hm
  clear hm2
  have k63 := mask x 6 (by decide)
  have k7 := mask x 3 (by decide)
  obtain ⟨N, hN⟩ : ∃ N : Nat, x % ((2 ^ 3 : Nat) : Int) = (N : Int) := ⟨(x % ((2 ^ 3 : Nat) : Int)).toNat, by omega⟩
  rw [hN] at k7
  rcases hm3 with rfl | rfl | rfl | rfl | rfl | rfl | rfl
  · exact Ou.tf0 which x _ _ N w rfl hm k63 (by omega) (by omega) k7 (by omega)
  · exact Ou.tf1 which x _ _ N w rfl hm k63 (by omega) (by omega) k7 (by omega)
  · exact Ou.tf2 which x _ _ N w rfl hm k63 (by omega) (by omega) k7 (by omega)
  · exact Ou.tf3 which x _ _ N w rfl hm k63 (by omega) (by omega) k7 (by omega)
  · exact Ou.tf4 which x _ _ N w rfl hm k63 (by omega) (by omega) k7 (by omega)
  · exact Ou.tf5 which x _ _ N w rfl hm k63 (by omega) (by omega) k7 (by omega)
  · exact Ou.tf6 which x _ _ N w rfl hm k63 (by omega) (by omega) k7 (by omega)

theorem own : ownKnob Try.prog.godebug = none := by kernel_rfl

set_option maxRecDepth 100000 in
theorem lifted (os : Os) (started : os.Started) (H : Type) (enc : TypeId × Value → H) :
    ReturnsInHanded {} Try.checked os 5 .any (Rows.tableFormsSpec.pre6 enc Try.prog Try.f5 Rows.tableFormsRow.domain false) (Rows.tableFormsSpec.post enc Try.prog Try.f5 false true false false) := by
  refine returnsInHanded_of_change (C := Try.checked) own started (by kernel_rfl) Try.func5
    (ChangeSpec.witness6 (enc := enc) (C := Try.checked) false ⟨#[], #[.int .i64 0, .int .i64 0], []⟩ 8 (by kernel_rfl) (by kernel_rfl) (by kernel_rfl) (by kernel_rfl)) ?_
  intro W base args ds gs before hval0 hW _ _
  have hval : ∀ (j : Nat) t v, Try.f5.params[j]? = some t → args[j]? = some v → Value.okWide Try.prog W .any base t v := hval0
  have hW' := hW
  obtain ⟨p, q, hA0, hV, rfl, hfz, hnd⟩ := hW
  have hA : DataW.TrodAll enc Try.prog W 0 (fun _ => true) true Try.f5.params.toList args.toList ds p := hA0
  rw [Try.params5] at hA hval
  obtain ⟨v0, vs0, d0, ds0, p0, q0, hargs, rfl, rfl, h0, r0⟩ := trodAll_cons hA
  obtain ⟨v1, vs1, d1, ds1, p1, q1, rfl, rfl, rfl, h1, r1⟩ := trodAll_cons r0
  obtain ⟨rfl, rfl, rfl⟩ := trodAll_nil r1
  obtain rfl : args = #[v0, v1] := by cases args; simp_all
  obtain ⟨rfl, rfl⟩ := trodVars_none hV
  obtain ⟨a0, rfl, rfl, rfl, w0⟩ := open_int Try.underlying3 (hval 0 3 v0 rfl rfl) h0
  obtain ⟨a1, rfl, rfl, rfl, w1⟩ := open_int Try.underlying3 (hval 1 3 v1 rfl rfl) h1
  clear hA0 hval0
  simp only [List.append_nil] at hW'
  refine (walk a0 a1 w0 w1 W ).mono fun e W' ⟨he, bel⟩ => ?_
  subst he
  exact ⟨_, rfl, _, _, _, [], [], [], hW', trodAll_mk1 (shut_bool Try.underlying4 _), (trodAll_cons_mk (shut_int Try.underlying3 w0) (trodAll_cons_mk (shut_int Try.underlying3 w1) trodAll_mk0)), rfl, bel.frame _, fun h => by cases h⟩

/-- The statement. -/
theorem proved : Rows.TableFormsSaid :=
  OpenClaim.holds_of_wide 5 Try.f5 rfl rfl rfl rfl rfl rfl rfl ⟨rfl, rfl, rfl, rfl, rfl⟩ rfl rfl rfl rfl rfl (by kernel_rfl) Try.func5 (by kernel_rfl)
    (of_decide_eq_true (by kernel_rfl)) (by unfold Func.isWrapper; first | (rw [if_pos (by decide +kernel)]; kernel_rfl) | (rw [if_neg (by decide +kernel)]; exact ⟨rfl, rfl⟩))
    (fun os started H enc _ => lifted os started H enc)
#print axioms proved


end Go.Proofs.Ytbldoplemfjcjaa.tableForms
