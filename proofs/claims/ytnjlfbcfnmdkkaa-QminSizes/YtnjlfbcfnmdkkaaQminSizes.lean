/- QminSizes holds: for all numbers, Size says one label as long as it must or as few are left, all behind count, else as many that the rest goes in equal parts. -/
import Derived.Test.YtnjlfbcfnmdkkaaQmG
namespace Go.Proofs.Ytnjlfbcfnmdkkaa.qminSizes
open Go.ChangeShapes Go.WideShapes Go.ChangeAt Go.RowKit
open Go.ChangeMaps (open_string shut_string)
open Pl

set_option maxRecDepth 20000 in
set_option maxHeartbeats 4000000 in
theorem walk (s0 l0 c0 o0 : Int) (_ : (Lit.int .i64 s0).wf = true) (_ : (Lit.int .i64 l0).wf = true) (_ : (Lit.int .i64 c0).wf = true) (_ : (Lit.int .i64 o0).wf = true) (w : World) :
    Calls Try.prog 6 #[.int .i64 s0, .int .i64 l0, .int .i64 c0, .int .i64 o0] w fun e w' => e = .returned (.bool true) ∧ Below w.heap.size w w' := by
  have m1 : bits .and .i64 s0 31 = s0 % 32 := mask s0 5 (by decide)
  have m2 : bits .and .i64 l0 127 = l0 % 128 := mask l0 7 (by decide)
  have m3 : bits .and .i64 c0 31 = c0 % 32 := mask c0 5 (by decide)
  have m4 : bits .and .i64 o0 31 = o0 % 32 := mask o0 5 (by decide)
  obtain ⟨s, hs⟩ : ∃ s, s = s0 % 32 := ⟨_, rfl⟩
  obtain ⟨L, hL⟩ : ∃ L, L = l0 % 128 := ⟨_, rfl⟩
  obtain ⟨c, hc⟩ : ∃ c, c = c0 % 32 := ⟨_, rfl⟩
  obtain ⟨o, ho⟩ : ∃ o, o = o0 % 32 := ⟨_, rfl⟩
  have s1 : 0 ≤ s ∧ s < 32 := by omega
  have l1 : 0 ≤ L ∧ L < 128 := by omega
  have c1 : 0 ≤ c ∧ c < 32 := by omega
  have o1 : 0 ≤ o ∧ o < 32 := by omega
  rw [← hs] at m1
  rw [← hL] at m2
  rw [← hc] at m3
  rw [← ho] at m4
  clear hs hL hc ho
  obtain ⟨z1, z2⟩ := Qm.szI_in (s := s) (l := 1 + L) (c := c) (o := o) (by omega)
  obtain ⟨Z, hZ⟩ : ∃ Z, Z = Qm.szI s (1 + L) c o := ⟨_, rfl⟩
  have HS : Hid (Qm.sizeV s (1 + L) c o = .tuple #[.int .i64 Z, .int .i64 0]) := by
    unfold Hid
    rw [hZ]
    exact Qm.sizeV_yes (Qm.mayS_iff.2 (by omega))
  rw [← hZ] at z1 z2
  have z3 : decide (Z < 1) = false := by simp; omega
  have z4 : decide (1 + L < Z) = false := by simp; omega
  unfold Qm.szI at hZ
  by_cases h1 : s < o
  · rw [if_pos (.inl h1)] at hZ
    subst hZ
    go_enter Try.func6, Try.ntmps6
    go_wp2_with (first
      | (go_at_call 14; go_must (refine (Qm.awake_any _).mono ?_); rintro e w1 ⟨rfl, b1⟩)
      | (go_at_call 9; go_must (refine (Qm.size_as _ _ _ _ _ _ HS.out).mono ?_); rintro e w2 ⟨rfl, b2⟩)
      | (go_at_call 13; refine (num_any _ _).mono ?_; rintro e w' ⟨rfl, hw⟩; obtain rfl := hw.symm))
    go_ret
    exact ⟨rfl, next b1 b2⟩
  · have h1' : decide (s < o) = false := by simpa using h1
    by_cases h2 : 1 + L ≤ c - s
    · rw [if_pos (.inr h2)] at hZ
      subst hZ
      clear h1
      go_enter Try.func6, Try.ntmps6
      go_wp2_with (first
        | (go_at_call 14; go_must (refine (Qm.awake_any _).mono ?_); rintro e w1 ⟨rfl, b1⟩)
        | (go_at_call 9; go_must (refine (Qm.size_as _ _ _ _ _ _ HS.out).mono ?_); rintro e w2 ⟨rfl, b2⟩)
        | (go_at_call 13; refine (num_any _ _).mono ?_; rintro e w' ⟨rfl, hw⟩; obtain rfl := hw.symm))
      go_ret
      exact ⟨rfl, next b1 b2⟩
    · have h2' : decide (1 + L ≤ c - s) = false := by simpa using h2
      rw [if_neg (by omega)] at hZ
      by_cases h3 : c ≤ s
      · rw [if_pos h3] at hZ
        subst hZ
        clear h1 h2
        go_enter Try.func6, Try.ntmps6
        go_wp2_with (first
          | (go_at_call 14; go_must (refine (Qm.awake_any _).mono ?_); rintro e w1 ⟨rfl, b1⟩)
          | (go_at_call 9; go_must (refine (Qm.size_as _ _ _ _ _ _ HS.out).mono ?_); rintro e w2 ⟨rfl, b2⟩)
          | (go_at_call 13; refine (num_any _ _).mono ?_; rintro e w' ⟨rfl, hw⟩; obtain rfl := hw.symm))
        go_ret
        exact ⟨rfl, next b1 b2⟩
      · have h3' : decide (c ≤ s) = false := by simpa using h3
        rw [if_neg h3] at hZ
        obtain ⟨q1, q2, q3, q4⟩ := Qm.ceil_in (l := 1 + L) (d := c - s) (by omega) (by omega)
        rw [← hZ] at q3 q4
        have q5 : Z * (c - s) ≤ 128 * 31 := by
          have e1 : Z * (c - s) ≤ 128 * (c - s) := Int.mul_le_mul_of_nonneg_right (by omega) (by omega)
          have e2 : 128 * (c - s) ≤ 128 * 31 := Int.mul_le_mul_of_nonneg_left (by omega) (by omega)
          omega
        have q6 : 0 ≤ (Z - 1) * (c - s) := Int.mul_nonneg (by omega) (by omega)
        clear h1 h2 h3 hZ q1 q2
        go_enter Try.func6, Try.ntmps6
        go_wp2_with (first
          | (go_at_call 14; go_must (refine (Qm.awake_any _).mono ?_); rintro e w1 ⟨rfl, b1⟩)
          | (go_at_call 9; go_must (refine (Qm.size_as _ _ _ _ _ _ HS.out).mono ?_); rintro e w2 ⟨rfl, b2⟩)
          | (go_at_call 13; refine (num_any _ _).mono ?_; rintro e w' ⟨rfl, hw⟩; obtain rfl := hw.symm))
        go_ret
        exact ⟨rfl, next b1 b2⟩

theorem own : ownKnob Try.prog.godebug = none := by kernel_rfl

set_option maxRecDepth 100000 in
theorem lifted (os : Os) (started : os.Started) (H : Type) (enc : TypeId × Value → H) :
    ReturnsInHanded {} Try.checked os 6 .any (Rows.qminSizesSpec.pre6 enc Try.prog Try.f6 Rows.qminSizesRow.domain false) (Rows.qminSizesSpec.post enc Try.prog Try.f6 false true false false) := by
  refine returnsInHanded_of_change (C := Try.checked) own started (by kernel_rfl) Try.func6
    (ChangeSpec.witness6 (enc := enc) (C := Try.checked) false ⟨#[], #[.int .i64 0, .int .i64 0, .int .i64 0, .int .i64 0], []⟩ 8 (by kernel_rfl) (by kernel_rfl) (by kernel_rfl) (by kernel_rfl)) ?_
  intro W base args ds gs before hval0 hW _ _
  have hval : ∀ (j : Nat) t v, Try.f6.params[j]? = some t → args[j]? = some v → Value.okWide Try.prog W .any base t v := hval0
  have hW' := hW
  obtain ⟨p, q, hA0, hV, rfl, hfz, hnd⟩ := hW
  have hA : DataW.TrodAll enc Try.prog W 0 (fun _ => true) true Try.f6.params.toList args.toList ds p := hA0
  rw [Try.params6] at hA hval
  obtain ⟨v0, vs0, d0, ds0, p0, q0, hargs, rfl, rfl, h0, r0⟩ := trodAll_cons hA
  obtain ⟨v1, vs1, d1, ds1, p1, q1, rfl, rfl, rfl, h1, r1⟩ := trodAll_cons r0
  obtain ⟨v2, vs2, d2, ds2, p2, q2, rfl, rfl, rfl, h2, r2⟩ := trodAll_cons r1
  obtain ⟨v3, vs3, d3, ds3, p3, q3, rfl, rfl, rfl, h3, r3⟩ := trodAll_cons r2
  obtain ⟨rfl, rfl, rfl⟩ := trodAll_nil r3
  obtain rfl : args = #[v0, v1, v2, v3] := by cases args; simp_all
  obtain ⟨rfl, rfl⟩ := trodVars_none hV
  obtain ⟨a0, rfl, rfl, rfl, w0⟩ := open_int Try.underlying3 (hval 0 3 v0 rfl rfl) h0
  obtain ⟨a1, rfl, rfl, rfl, w1⟩ := open_int Try.underlying3 (hval 1 3 v1 rfl rfl) h1
  obtain ⟨a2, rfl, rfl, rfl, w2⟩ := open_int Try.underlying3 (hval 2 3 v2 rfl rfl) h2
  obtain ⟨a3, rfl, rfl, rfl, w3⟩ := open_int Try.underlying3 (hval 3 3 v3 rfl rfl) h3
  clear hA0 hval0
  simp only [List.append_nil] at hW'
  refine (walk a0 a1 a2 a3 w0 w1 w2 w3 W ).mono fun e W' ⟨he, bel⟩ => ?_
  subst he
  exact ⟨_, rfl, _, _, _, [], [], [], hW', trodAll_mk1 (shut_bool Try.underlying4 _), (trodAll_cons_mk (shut_int Try.underlying3 w0) (trodAll_cons_mk (shut_int Try.underlying3 w1) (trodAll_cons_mk (shut_int Try.underlying3 w2) (trodAll_cons_mk (shut_int Try.underlying3 w3) trodAll_mk0)))), rfl, bel.frame _, fun h => by cases h⟩

/-- The statement. -/
theorem proved : Rows.QminSizesSaid :=
  OpenClaim.holds_of_wide 6 Try.f6 rfl rfl rfl rfl rfl rfl rfl ⟨rfl, rfl, rfl, rfl, rfl⟩ rfl rfl rfl rfl rfl (by kernel_rfl) Try.func6 (by kernel_rfl)
    (of_decide_eq_true (by kernel_rfl)) (by unfold Func.isWrapper; first | (rw [if_pos (by decide +kernel)]; kernel_rfl) | (rw [if_neg (by decide +kernel)]; exact ⟨rfl, rfl⟩))
    (fun os started H enc _ => lifted os started H enc)
#print axioms proved


end Go.Proofs.Ytnjlfbcfnmdkkaa.qminSizes
