/- NegEnds holds: what is said not to be there is so up to its end, of its name and type alone. -/
import Derived.Test.YtphhljbeaklikaaXNgO
import Derived.ProofKit
import Derived.OpenShut
import Derived.ShutString
namespace Go.Proofs.Ytphhljbeaklikaa.negEnds
open Go.ChangeShapes Go.WideShapes Go.ChangeAt Go.RowKit
open Go.ChangeMaps (open_string shut_string)
open Pl
open Ng

set_option maxRecDepth 20000 in
theorem no (n m : ByteArray) (a b c : Int) (w : World) (hn : n.size ≤ maxLen) (h : isName n.data.toList = false) :
    Calls Try.prog 4 #[.string n, .string m, .int .i64 a, .int .i64 b, .int .i64 c] w fun e w' => e = .returned (.bool true) ∧ Below w.heap.size w w' := by
  go_enter Try.func4, Try.ntmps4
  go_wp2_with (first
    | (go_at_call 11; go_must (refine (awake_any _).mono ?_); rintro e w1 ⟨rfl, b1⟩)
    | (go_at_call 21; go_must (refine (refMay_as _ false _ hn h).mono ?_); rintro e w2 ⟨rfl, b2⟩))
  go_ret
  exact ⟨rfl, next b1 b2⟩
set_option maxRecDepth 20000 in
theorem no2 (n m : ByteArray) (a b c : Int) (w : World) (hn : n.size ≤ maxLen) (hm : m.size ≤ maxLen) (h : isName n.data.toList = true) (h2 : isName m.data.toList = false) :
    Calls Try.prog 4 #[.string n, .string m, .int .i64 a, .int .i64 b, .int .i64 c] w fun e w' => e = .returned (.bool true) ∧ Below w.heap.size w w' := by
  have t1 : True := trivial
  go_enter Try.func4, Try.ntmps4
  go_wp2_with (first
    | (go_at_call 11; go_must (refine (awake_any _).mono ?_); rintro e w1 ⟨rfl, b1⟩)
    | (go_at_call 21; have _t := t1; go_must (refine (refMay_as n true _ hn h).mono ?_); rintro e w2 ⟨rfl, b2⟩; clear t1)
    | (go_at_call 21; go_must (refine (refMay_as m false _ hm h2).mono ?_); rintro e w3 ⟨rfl, b3⟩))
  go_ret
  exact ⟨rfl, next (next b1 b2) b3⟩

def fF (n : ByteArray) (K U : Int) : List En := [nE (fdB n) (1 + K) (10 + U), nE (fdB n) 0 (10 + U + 7)]
theorem fF_has (n : ByteArray) (K U : Int) (x : ByteArray) (t now : Int) : hasN (fF n K U) x t now = ((decide (fdB n = fdB x) && decide (1 + K = t) && decide (now < 10 + U)) || (decide (fdB n = fdB x) && decide (0 = t) && decide (now < 10 + U + 7))) := by
  show hasN ([_] ++ [_]) x t now = _
  rw [has_app, has_one, has_one]

set_option maxRecDepth 20000 in
set_option maxHeartbeats 4000000 in
theorem yes (n m : ByteArray) (a b c K U M : Int) (w : World) (h : isName n.data.toList = true) (h2 : isName m.data.toList = true) (hK : bits .and .i64 a 1023 = K) (K0 : 0 ≤ K) (K1 : K < 1024) (hU : bits .and .i64 b 1023 = U) (U0 : 0 ≤ U) (U1 : U < 1024) (hM : bits .and .i64 c 2047 = M) (_M0 : 0 ≤ M) (_M1 : M < 2048)
    (p1 p2 sm : Bool) (hp1 : decide (M < 10 + U) = p1) (hp2 : decide (M < 10 + U + 7) = p2) (hsm : sameB n.data.toList m.data.toList = sm) :
    Calls Try.prog 4 #[.string n, .string m, .int .i64 a, .int .i64 b, .int .i64 c] w fun e w' => e = .returned (.bool true) ∧ Below w.heap.size w w' := by
  have hn := max_name h
  have hm := max_name h2
  have hf : decide (fdB n = fdB m) = sm := by rw [fd_same h h2]; exact hsm
  have hm1 : mayN (nE n (1 + K) (10 + U)) 5 = true := may_yes h (by show 0 ≤ 1 + K; omega) (by show 1 + K ≤ 65535; omega) (by show 5 < 10 + U; omega) (by decide) (by decide)
  have hm2 : mayN (nE n 0 (10 + U + 7)) 5 = true := may_yes h (by show (0 : Int) ≤ 0; omega) (by show (0 : Int) ≤ 65535; omega) (by show 5 < 10 + U + 7; omega) (by decide) (by decide)
  have HE1 : Hid (errN (nE n (1 + K) (10 + U)) 5 = 0) := err_yes hm1
  have HP1 : Hid (putN 3 [] (nE n (1 + K) (10 + U)) 5 = [nE (fdB n) (1 + K) (10 + U)]) := by unfold Hid; rw [put_yes hm1]; rfl
  have HE2 : Hid (errN (nE n 0 (10 + U + 7)) 5 = 0) := err_yes hm2
  have HP2 : Hid (putN 3 [nE (fdB n) (1 + K) (10 + U)] (nE n 0 (10 + U + 7)) 5 = fF n K U) := by
    unfold Hid
    rw [put_yes hm2]
    have e1 : leftP [nE (fdB n) (1 + K) (10 + U)] (fdB (nE n 0 (10 + U + 7)).n) (nE n 0 (10 + U + 7)).t 5 = [nE (fdB n) (1 + K) (10 + U)] := by
      unfold leftP sameK nE
      have : ¬ (1 + K = 0) := by omega
      have : (5 : Int) < 10 + U := by omega
      simp [*]
    rw [e1]
    rfl
  have q1 : (!decide (1 + K = 0) && hasN (fF n K U) n (1 + K) M) = p1 := by rw [fF_has, hp1]; have : ¬ (1 + K = 0) := by omega
                                                                            have : ¬ (0 = 1 + K) := by omega
                                                                            simp [*]
  have q2 : hasN (fF n K U) n 0 M = p2 := by rw [fF_has, hp2]; have : ¬ (1 + K = 0) := by omega
                                             simp [*]
  have q3 : hasN (fF n K U) m 0 M = (sm && p2) := by rw [fF_has, hp2, hf]; have : ¬ (1 + K = 0) := by omega
                                                     simp [*]
  have q4 : (!decide (1 + K + 1 = 0) && hasN (fF n K U) n (1 + K + 1) M) = false := by rw [fF_has]; have : ¬ (1 + K = 1 + K + 1) := by omega
                                                                                       have : ¬ (0 = 1 + K + 1) := by omega
                                                                                       simp [*]
  have q5 : (!decide ((0 : Int) = 0) && hasN (fF n K U) n 0 M) = false := by simp
  have q6 : (!decide (1 + K = 0) && hasN (fF n K U) m (1 + K) M) = (sm && p1) := by rw [fF_has, hp1, hf]; have : ¬ (1 + K = 0) := by omega
                                                                                    have : ¬ (0 = 1 + K) := by omega
                                                                                    simp [*]
  have wf1 : (Lit.int .i64 (1 + K)).wf = true := WalkArith.wf_i64 (by omega)
  have wf2 : (Lit.int .i64 (1 + K + 1)).wf = true := WalkArith.wf_i64 (by omega)
  have Q1 : Hid ((!decide (1 + K = 0) && hasN (fF n K U) n (1 + K) M) = p1) := q1
  have Q2 : Hid (hasN (fF n K U) n 0 M = p2) := q2
  have Q3 : Hid (hasN (fF n K U) m 0 M = (sm && p2)) := q3
  have Q4 : Hid ((!decide (1 + K + 1 = 0) && hasN (fF n K U) n (1 + K + 1) M) = false) := q4
  have Q5 : Hid ((!decide ((0 : Int) = 0) && hasN (fF n K U) n 0 M) = false) := q5
  have Q6 : Hid ((!decide (1 + K = 0) && hasN (fF n K U) m (1 + K) M) = (sm && p1)) := q6
  have HSM : Hid (sameB n.data.toList m.data.toList = sm) := hsm
  clear q1 q2 q3 q4 q5 q6 hm1 hm2 hf hsm
  have t1 : True := trivial
  have t2 : True := trivial
  have t3 : True := trivial
  have t4 : True := trivial
  have t5 : True := trivial
  have t6 : True := trivial
  cases sm
  all_goals (
    go_enter Try.func4, Try.ntmps4
    go_wp2_with (first
      | (go_at_call 10; refine (num_any _ _).mono ?_; rintro e w' ⟨rfl, hw⟩; obtain rfl := hw.symm)
      | (go_at_call 11; go_must (refine (awake_any _).mono ?_); rintro e w1 ⟨rfl, b1⟩)
      | (go_at_call 21; have _t := t1; go_must (refine (refMay_as n true _ hn h).mono ?_); rintro e w2 ⟨rfl, b2⟩; clear t1)
      | (go_at_call 21; go_must (refine (refMay_as m true _ hm h2).mono ?_); rintro e w3 ⟨rfl, b3⟩)
      | (go_at_call 8; go_must (refine (lw_new (next (next b1 b2) b3) 3 (by decide) (by decide)).mono ?_); rintro e w4 ⟨gs, rfl, s4, _, _⟩; have hp1 := lw_put s4 n (1 + K) (10 + U) 5 hn 0 HE1.out _ HP1.out)
      | (go_at_call 12; have _t := t2; go_must (refine hp1.mono ?_); rintro e w5 ⟨rfl, mb5, s5, _, _⟩; have hp2 := lw_put s5 n 0 (10 + U + 7) 5 hn 0 HE2.out _ HP2.out; clear t2 hp1)
      | (go_at_call 12; go_must (refine hp2.mono ?_); rintro e w6 ⟨rfl, mb6, s6, _, _⟩; clear hp2)
      | (go_at_call 22; go_must (refine (refSame_as n m _ _ hn hm HSM.out).mono ?_); rintro e w7 ⟨rfl, b7⟩; have s7 := s6.below b7; clear b7)
      | (go_at_call 16; have _t := t3; go_must (refine (s7.nodata n (1 + K) M hn wf1 _ Q1.out).mono ?_); rintro e w8 ⟨rfl, s8, _⟩; clear t3)
      | (go_at_call 14; have _t := t4; go_must (refine (s8.nx n M hn _ Q2.out).mono ?_); rintro e w9 ⟨rfl, s9, _⟩; clear t4)
      | (go_at_call 14; go_must (refine (s9.nx m M hm _ Q3.out).mono ?_); rintro e w10 ⟨rfl, s10, _⟩)
      | (go_at_call 16; have _t := t5; go_must (refine (s10.nodata n (1 + K + 1) M hn wf2 _ Q4.out).mono ?_); rintro e w11 ⟨rfl, s11, _⟩; clear t5)
      | (go_at_call 16; have _t := t6; go_must (refine (s11.nodata n 0 M hn (by decide) _ Q5.out).mono ?_); rintro e w12 ⟨rfl, s12, _⟩; clear t6)
      | (go_at_call 16; go_must (refine (s12.nodata m (1 + K) M hm wf1 _ Q6.out).mono ?_); rintro e w13 ⟨rfl, s13, _⟩))
    go_ret
    exact ⟨rfl, s13.bel⟩)

theorem walk (n m : ByteArray) (a b c : Int) (hn : n.size ≤ maxLen) (hm : m.size ≤ maxLen) (_ : (Lit.int .i64 a).wf = true) (_ : (Lit.int .i64 b).wf = true) (_ : (Lit.int .i64 c).wf = true) (w : World) :
    Calls Try.prog 4 #[.string n, .string m, .int .i64 a, .int .i64 b, .int .i64 c] w fun e w' => e = .returned (.bool true) ∧ Below w.heap.size w w' := by
  cases h : isName n.data.toList with
  | false => exact no n m a b c w hn h
  | true =>
    cases h2 : isName m.data.toList with
    | false => exact no2 n m a b c w hn hm h h2
    | true =>
      have k1 := mask a 10 (by decide)
      have k2 := mask b 10 (by decide)
      have k3 := mask c 11 (by decide)
      exact yes n m a b c _ _ _ w h h2 k1 (by omega) (by omega) k2 (by omega) (by omega) k3 (by omega) (by omega) _ _ _ rfl rfl rfl

theorem own : ownKnob Try.prog.godebug = none := by kernel_rfl

set_option maxRecDepth 100000 in
theorem lifted (os : Os) (started : os.Started) (H : Type) (enc : TypeId × Value → H) :
    ReturnsInHanded {} Try.checked os 4 .any (Rows.negEndsSpec.pre6 enc Try.prog Try.f4 Rows.negEndsRow.domain false) (Rows.negEndsSpec.post enc Try.prog Try.f4 false true false false) := by
  refine returnsInHanded_of_change (C := Try.checked) own started (by kernel_rfl) Try.func4
    (ChangeSpec.witness6 (enc := enc) (C := Try.checked) false ⟨#[], #[.string ByteArray.empty, .string ByteArray.empty, .int .i64 0, .int .i64 0, .int .i64 0], []⟩ 8 (by kernel_rfl) (by kernel_rfl) (by kernel_rfl) (by kernel_rfl)) ?_
  intro W base args ds gs before hval0 hW _ _
  have hval : ∀ (j : Nat) t v, Try.f4.params[j]? = some t → args[j]? = some v → Value.okWide Try.prog W .any base t v := hval0
  have hW' := hW
  obtain ⟨p, q, hA0, hV, rfl, hfz, hnd⟩ := hW
  have hA : DataW.TrodAll enc Try.prog W 0 (fun _ => true) true Try.f4.params.toList args.toList ds p := hA0
  rw [Try.params4] at hA hval
  obtain ⟨v0, vs0, d0, ds0, p0, q0, hargs, rfl, rfl, h0, r0⟩ := trodAll_cons hA
  obtain ⟨v1, vs1, d1, ds1, p1, q1, rfl, rfl, rfl, h1, r1⟩ := trodAll_cons r0
  obtain ⟨v2, vs2, d2, ds2, p2, q2, rfl, rfl, rfl, h2, r2⟩ := trodAll_cons r1
  obtain ⟨v3, vs3, d3, ds3, p3, q3, rfl, rfl, rfl, h3, r3⟩ := trodAll_cons r2
  obtain ⟨v4, vs4, d4, ds4, p4, q4, rfl, rfl, rfl, h4, r4⟩ := trodAll_cons r3
  obtain ⟨rfl, rfl, rfl⟩ := trodAll_nil r4
  obtain rfl : args = #[v0, v1, v2, v3, v4] := by cases args; simp_all
  obtain ⟨rfl, rfl⟩ := trodVars_none hV
  obtain ⟨a0, rfl, rfl, rfl, w0⟩ := open_string Try.underlying9 (hval 0 9 v0 rfl rfl) h0
  obtain ⟨a1, rfl, rfl, rfl, w1⟩ := open_string Try.underlying9 (hval 1 9 v1 rfl rfl) h1
  obtain ⟨a2, rfl, rfl, rfl, w2⟩ := open_int Try.underlying3 (hval 2 3 v2 rfl rfl) h2
  obtain ⟨a3, rfl, rfl, rfl, w3⟩ := open_int Try.underlying3 (hval 3 3 v3 rfl rfl) h3
  obtain ⟨a4, rfl, rfl, rfl, w4⟩ := open_int Try.underlying3 (hval 4 3 v4 rfl rfl) h4
  clear hA0 hval0
  simp only [List.append_nil] at hW'
  refine (walk a0 a1 a2 a3 a4 w0 w1 w2 w3 w4 W ).mono fun e W' ⟨he, bel⟩ => ?_
  subst he
  exact ⟨_, rfl, _, _, _, [], [], [], hW', trodAll_mk1 (shut_bool Try.underlying4 _), (trodAll_cons_mk (shut_string Try.underlying9 w0) (trodAll_cons_mk (shut_string Try.underlying9 w1) (trodAll_cons_mk (shut_int Try.underlying3 w2) (trodAll_cons_mk (shut_int Try.underlying3 w3) (trodAll_cons_mk (shut_int Try.underlying3 w4) trodAll_mk0))))), rfl, bel.frame _, fun h => by cases h⟩

/-- The statement. -/
theorem proved : Rows.NegEndsSaid :=
  OpenClaim.holds_of_wide 4 Try.f4 rfl rfl rfl rfl rfl rfl rfl ⟨rfl, rfl, rfl, rfl, rfl⟩ rfl rfl rfl rfl rfl (by kernel_rfl) Try.func4 (by kernel_rfl)
    (of_decide_eq_true (by kernel_rfl)) (by unfold Func.isWrapper; first | (rw [if_pos (by decide +kernel)]; kernel_rfl) | (rw [if_neg (by decide +kernel)]; exact ⟨rfl, rfl⟩))
    (fun os started H enc _ => lifted os started H enc)
#print axioms proved


end Go.Proofs.Ytphhljbeaklikaa.negEnds
