/- PadForms holds: for every number, every type and every text, a query is made if all three may be, and is as long as it must; else there is none, and the error says so. -/
import Derived.Test.YtcapankhobnfeaaXP14
import Derived.ProofKit
import Derived.OpenShut
import Derived.ShutString
import Derived.SizedLaws
namespace Go.Proofs.Ytcapankhobnfeaa.padForms
open Go.ChangeShapes Go.WideShapes Go.ChangeAt Go.RowKit
open Go.ChangeMaps (open_string shut_string)
open Pl

set_option maxRecDepth 20000 in
set_option maxHeartbeats 1000000 in
theorem walk (id t : Int) (n : ByteArray) (_ : (Lit.int .i64 id).wf = true) (_ : (Lit.int .i64 t).wf = true) (hs : n.size ≤ maxLen) (z : n.size ≤ 140737488351232) (w : World) :
    Calls Try.prog 8 #[.int .i64 id, .int .i64 t, .string n] w fun e w' => e = .returned (.bool true) ∧ Below w.heap.size w w' := by
  have Q := fun u => query_any id n t (queT id n t) (queE id n t) u hs rfl rfl
  obtain ⟨bn, hbn⟩ : ∃ b, isName n.data.toList = b := ⟨_, rfl⟩
  have MY := fun u => refMay_at n bn u hs hbn
  by_cases f : mayQu id n t = true
  · obtain ⟨e1, e2, _⟩ := que_yes f
    unfold mayQu at f
    simp only [Bool.and_eq_true, inB, decide_eq_true_eq] at f
    obtain ⟨⟨f1, f2⟩, f3⟩ := f
    rw [hbn] at f2
    subst f2
    rw [e1] at Q
    obtain ⟨S, hS⟩ : ∃ S, S = queT id n t := ⟨_, rfl⟩
    rw [← hS] at Q e2
    obtain ⟨N, hN⟩ : ∃ N, N = n.size := ⟨_, rfl⟩
    have hSz : (S.size : Int) = (12 + (n.size : Int) + 4 + 15 + 127) / 128 * 128 := by omega
    have hSz2 : (S.size : Int) = (12 + (n.size : Int) + 4 + 15 + 127).tdiv 128 * 128 := by rw [Int.tdiv_eq_ediv_of_nonneg (by omega)]; exact hSz
    have hle : (12 + (n.size : Int) + 4 + 15 + 127) / 128 * 128 ≤ 140737488351232 + 1000 := by omega
    clear hS hbn e1 hN
    have HS : Hid ((S.size : Int) = (12 + (n.size : Int) + 4 + 15 + 127) / 128 * 128) := hSz
    clear hSz hSz2 e2
    go_enter Try.func8, Try.ntmps8
    go_wp2_with (first
      | (go_at_call 18; go_must (refine (awake_any _).mono ?_); rintro e w0 ⟨rfl, b0⟩)
      | (go_at_call 9; go_must (refine (Q _).mono ?_); rintro e w1 ⟨rfl, b1⟩)
      | (go_at_call 24; go_must (refine (MY _).mono ?_); rintro e w2 ⟨rfl, b2⟩)
      | (go_at_call 14; refine (num_any _ _).mono ?_; rintro e w' ⟨rfl, hw⟩; obtain rfl := hw.symm))
    go_ret
    first | exact ⟨ret_bool (by simp), next (next b0 b1) b2⟩ | exact ⟨ret_bool (by simp), next b0 b1⟩ | exact ⟨ret_bool (by simp [HS.out]), next (next b0 b1) b2⟩
  · have f' : mayQu id n t = false := by simpa using f
    obtain ⟨e1, e2⟩ := que_no f'
    rw [e1, e2] at Q
    unfold mayQu at f'
    rw [hbn] at f'
    have hle : (12 + (n.size : Int) + 4 + 15 + 127) / 128 * 128 ≤ 140737488351232 + 1000 := by omega
    clear hbn f
    have f1 : 0 ≤ id → id ≤ 65535 → 1 ≤ t → t ≤ 65535 → bn = false := fun a1 a2 a3 a4 => by
      cases bn with
      | false => rfl
      | true =>
        simp only [Bool.and_eq_false_iff, inB, decide_eq_false_iff_not] at f'
        simp at f'
        omega
    clear f' e1 e2
    by_cases g0 : id < 0
    · clear f1
      go_enter Try.func8, Try.ntmps8
      go_wp2_with (first
        | (go_at_call 18; go_must (refine (awake_any _).mono ?_); rintro e w0 ⟨rfl, b0⟩)
        | (go_at_call 9; go_must (refine (Q _).mono ?_); rintro e w1 ⟨rfl, b1⟩)
        | (go_at_call 24; go_must (refine (MY _).mono ?_); rintro e w2 ⟨rfl, b2⟩)
        | (go_at_call 14; refine (num_any _ _).mono ?_; rintro e w' ⟨rfl, hw⟩; obtain rfl := hw.symm))
      go_ret
      first | exact ⟨ret_bool (by simp), next (next b0 b1) b2⟩ | exact ⟨ret_bool (by simp), next b0 b1⟩
    by_cases g1 : 65535 < id
    · clear f1
      go_enter Try.func8, Try.ntmps8
      go_wp2_with (first
        | (go_at_call 18; go_must (refine (awake_any _).mono ?_); rintro e w0 ⟨rfl, b0⟩)
        | (go_at_call 9; go_must (refine (Q _).mono ?_); rintro e w1 ⟨rfl, b1⟩)
        | (go_at_call 24; go_must (refine (MY _).mono ?_); rintro e w2 ⟨rfl, b2⟩)
        | (go_at_call 14; refine (num_any _ _).mono ?_; rintro e w' ⟨rfl, hw⟩; obtain rfl := hw.symm))
      go_ret
      first | exact ⟨ret_bool (by simp), next (next b0 b1) b2⟩ | exact ⟨ret_bool (by simp), next b0 b1⟩
    by_cases g2 : t < 1
    · clear f1
      go_enter Try.func8, Try.ntmps8
      go_wp2_with (first
        | (go_at_call 18; go_must (refine (awake_any _).mono ?_); rintro e w0 ⟨rfl, b0⟩)
        | (go_at_call 9; go_must (refine (Q _).mono ?_); rintro e w1 ⟨rfl, b1⟩)
        | (go_at_call 24; go_must (refine (MY _).mono ?_); rintro e w2 ⟨rfl, b2⟩)
        | (go_at_call 14; refine (num_any _ _).mono ?_; rintro e w' ⟨rfl, hw⟩; obtain rfl := hw.symm))
      go_ret
      first | exact ⟨ret_bool (by simp), next (next b0 b1) b2⟩ | exact ⟨ret_bool (by simp), next b0 b1⟩
    by_cases g3 : 65535 < t
    · clear f1
      go_enter Try.func8, Try.ntmps8
      go_wp2_with (first
        | (go_at_call 18; go_must (refine (awake_any _).mono ?_); rintro e w0 ⟨rfl, b0⟩)
        | (go_at_call 9; go_must (refine (Q _).mono ?_); rintro e w1 ⟨rfl, b1⟩)
        | (go_at_call 24; go_must (refine (MY _).mono ?_); rintro e w2 ⟨rfl, b2⟩)
        | (go_at_call 14; refine (num_any _ _).mono ?_; rintro e w' ⟨rfl, hw⟩; obtain rfl := hw.symm))
      go_ret
      first | exact ⟨ret_bool (by simp), next (next b0 b1) b2⟩ | exact ⟨ret_bool (by simp), next b0 b1⟩
    have g4 := f1 (by omega) (by omega) (by omega) (by omega)
    subst g4
    clear f1
    go_enter Try.func8, Try.ntmps8
    go_wp2_with (first
      | (go_at_call 18; go_must (refine (awake_any _).mono ?_); rintro e w0 ⟨rfl, b0⟩)
      | (go_at_call 9; go_must (refine (Q _).mono ?_); rintro e w1 ⟨rfl, b1⟩)
      | (go_at_call 24; go_must (refine (MY _).mono ?_); rintro e w2 ⟨rfl, b2⟩)
      | (go_at_call 14; refine (num_any _ _).mono ?_; rintro e w' ⟨rfl, hw⟩; obtain rfl := hw.symm))
    go_ret
    first | exact ⟨ret_bool (by simp), next (next b0 b1) b2⟩ | exact ⟨ret_bool (by simp), next b0 b1⟩

theorem own : ownKnob Try.prog.godebug = none := by kernel_rfl

set_option maxRecDepth 100000 in
theorem lifted (os : Os) (started : os.Started) (H : Type) (enc : TypeId × Value → H) :
    ReturnsInHanded {} Try.checked os 8 .any (Rows.padFormsSpec.pre6 enc Try.prog Try.f8 Rows.padFormsRow.domain false) (Rows.padFormsSpec.post enc Try.prog Try.f8 false true false false) := by
  refine returnsInHanded_of_change_sized (C := Try.checked) own started (by kernel_rfl) Try.func8
    (ChangeSpec.witness6 (enc := enc) (C := Try.checked) false ⟨#[], #[.int .i64 0, .int .i64 0, .string ByteArray.empty], []⟩ 8 (by kernel_rfl) (by kernel_rfl) (by kernel_rfl) (by kernel_rfl)) ?_
  intro W base args ds gs before hval0 hW _ hsz0 _
  have hval : ∀ (j : Nat) t v, Try.f8.params[j]? = some t → args[j]? = some v → Value.okWide Try.prog W .any base t v := hval0
  have hsz : (DataW.weightsEach Try.prog (Try.f8.params.toList ++ Rows.padFormsSpec.plain.varTypes Try.prog) (ds ++ gs)).all (· ≤ reachBytes) = true := hsz0
  have hW' := hW
  obtain ⟨p, q, hA0, hV, rfl, hfz, hnd⟩ := hW
  have hA : DataW.TrodAll enc Try.prog W 0 (fun _ => true) true Try.f8.params.toList args.toList ds p := hA0
  rw [Try.params8] at hA hval hsz
  obtain ⟨v0, vs0, d0, ds0, p0, q0, hargs, rfl, rfl, h0, r0⟩ := trodAll_cons hA
  obtain ⟨v1, vs1, d1, ds1, p1, q1, rfl, rfl, rfl, h1, r1⟩ := trodAll_cons r0
  obtain ⟨v2, vs2, d2, ds2, p2, q2, rfl, rfl, rfl, h2, r2⟩ := trodAll_cons r1
  obtain ⟨rfl, rfl, rfl⟩ := trodAll_nil r2
  obtain rfl : args = #[v0, v1, v2] := by cases args; simp_all
  obtain ⟨rfl, rfl⟩ := trodVars_none hV
  obtain ⟨a0, rfl, rfl, rfl, w0⟩ := open_int Try.underlying3 (hval 0 3 v0 rfl rfl) h0
  obtain ⟨a1, rfl, rfl, rfl, w1⟩ := open_int Try.underlying3 (hval 1 3 v1 rfl rfl) h1
  obtain ⟨a2, rfl, rfl, rfl, w2⟩ := open_string Try.underlying9 (hval 2 9 v2 rfl rfl) h2
  have z2 : a2.size ≤ 140737488351232 := by have := sized_string hsz (j := 2) (t := 9) rfl rfl; rw [data_len] at this; unfold reachBytes at this; omega
  clear hA0 hval0 hsz0 hsz
  simp only [List.append_nil] at hW'
  refine (walk a0 a1 a2 w0 w1 w2 z2 W ).mono fun e W' ⟨he, bel⟩ => ?_
  subst he
  exact ⟨_, rfl, _, _, _, [], [], [], hW', trodAll_mk1 (shut_bool Try.underlying4 _), (trodAll_cons_mk (shut_int Try.underlying3 w0) (trodAll_cons_mk (shut_int Try.underlying3 w1) (trodAll_cons_mk (shut_string Try.underlying9 w2) trodAll_mk0))), rfl, bel.frame _, fun h => by cases h⟩

/-- The statement. -/
theorem proved : Rows.PadFormsSaid :=
  OpenClaim.holds_of_wide 8 Try.f8 rfl rfl rfl rfl rfl rfl rfl ⟨rfl, rfl, rfl, rfl, rfl⟩ rfl rfl rfl rfl rfl (by kernel_rfl) Try.func8 (by kernel_rfl)
    (of_decide_eq_true (by kernel_rfl)) (by unfold Func.isWrapper; first | (rw [if_pos (by decide +kernel)]; kernel_rfl) | (rw [if_neg (by decide +kernel)]; exact ⟨rfl, rfl⟩))
    (fun os started H enc _ => lifted os started H enc)
#print axioms proved

end Go.Proofs.Ytcapankhobnfeaa.padForms
