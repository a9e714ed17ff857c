/- PadAlike holds: for every two names and types, the datagrams of their questions are as long as the names' lengths let be, and names that fill as many blocks make datagrams as long. -/
import Derived.Test.YtcapankhobnfeabXP14
import Derived.ProofKit
import Derived.OpenShut
import Derived.ShutString
import Derived.SizedLaws
namespace Go.Proofs.Ytcapankhobnfeab.padAlike
open Go.ChangeShapes Go.WideShapes Go.ChangeAt Go.RowKit
open Go.ChangeMaps (open_string shut_string)
open Pl

set_option maxRecDepth 20000 in
set_option maxHeartbeats 2000000 in
theorem walk (a b : ByteArray) (t u : Int) (ha : a.size ≤ maxLen) (hb : b.size ≤ maxLen) (_ : (Lit.int .i64 t).wf = true) (_ : (Lit.int .i64 u).wf = true) (w : World) :
    Calls Try.prog 3 #[.string a, .string b, .int .i64 t, .int .i64 u] w fun e w' => e = .returned (.bool true) ∧ Below w.heap.size w w' := by
  have m1 : bits .and .i64 t 1023 = t % 1024 := mask t 10 (by decide)
  have m2 : bits .and .i64 u 1023 = u % 1024 := mask u 10 (by decide)
  obtain ⟨p, hp⟩ : ∃ p, p = t % 1024 := ⟨_, rfl⟩
  obtain ⟨q, hq⟩ : ∃ q, q = u % 1024 := ⟨_, rfl⟩
  have p1 : 0 ≤ p ∧ p < 1024 := by omega
  have q1 : 0 ≤ q ∧ q < 1024 := by omega
  rw [← hp] at m1
  rw [← hq] at m2
  clear hp hq
  obtain ⟨ba, hba⟩ : ∃ x, isName a.data.toList = x := ⟨_, rfl⟩
  obtain ⟨bb, hbb⟩ : ∃ x, isName b.data.toList = x := ⟨_, rfl⟩
  have MA := fun v => refMay_at a ba v ha hba
  have MB := fun v => refMay_at b bb v hb hbb
  have t1 : True := trivial
  cases ba with
  | false =>
    clear hba hbb
    go_enter Try.func3, Try.ntmps3
    go_wp2_with (first
      | (go_at_call 4; go_must (refine (awake_any _).mono ?_); rintro e w0 ⟨rfl, b0⟩)
      | (go_at_call 5; go_must (refine (MA _).mono ?_); rintro e w1 ⟨rfl, b1⟩))
    go_ret
    exact ⟨rfl, next b0 b1⟩
  | true =>
  cases bb with
  | false =>
    clear hba hbb
    go_enter Try.func3, Try.ntmps3
    go_wp2_with (first
      | (go_at_call 4; go_must (refine (awake_any _).mono ?_); rintro e w0 ⟨rfl, b0⟩)
      | (go_at_call 5; have _t := t1; go_must (refine (MA _).mono ?_); rintro e w1 ⟨rfl, b1⟩; clear t1 _t)
      | (go_at_call 5; go_must (refine (MB _).mono ?_); rintro e w2 ⟨rfl, b2⟩))
    go_ret
    exact ⟨rfl, next (next b0 b1) b2⟩
  | true =>
    have la := (name_some hba).1
    have lb := (name_some hbb).1
    rw [data_len] at la lb
    have la0 : 1 ≤ a.size := by
      rcases Nat.eq_zero_or_pos a.size with h | h
      · have : a.data.toList = [] := List.eq_nil_of_length_eq_zero (by rw [data_len]; exact h)
        rw [this] at hba
        exact absurd hba (by decide)
      · exact h
    have lb0 : 1 ≤ b.size := by
      rcases Nat.eq_zero_or_pos b.size with h | h
      · have : b.data.toList = [] := List.eq_nil_of_length_eq_zero (by rw [data_len]; exact h)
        rw [this] at hbb
        exact absurd hbb (by decide)
      · exact h
    have fa : mayQu 1 a (1 + p) = true := by unfold mayQu; rw [hba, show inB 65535 (1 : Int) = true from by decide]; simp; omega
    have fb : mayQu 2 b (1 + q) = true := by unfold mayQu; rw [hbb, show inB 65535 (2 : Int) = true from by decide]; simp; omega
    obtain ⟨ea, za, _⟩ := que_yes fa
    obtain ⟨eb, zb, _⟩ := que_yes fb
    have QA' := fun v => query_any 1 a (1 + p) _ 0 v ha rfl ea
    have QB' := fun v => query_any 2 b (1 + q) _ 0 v hb rfl eb
    obtain ⟨S, hS⟩ : ∃ S, S = queT 1 a (1 + p) := ⟨_, rfl⟩
    obtain ⟨V, hV⟩ : ∃ V, V = queT 2 b (1 + q) := ⟨_, rfl⟩
    rw [← hS] at za QA'
    rw [← hV] at zb QB'
    obtain ⟨n, hn⟩ : ∃ n, n = a.size := ⟨_, rfl⟩
    obtain ⟨m, hm⟩ : ∃ m, m = b.size := ⟨_, rfl⟩
    rw [← hn] at za la la0
    rw [← hm] at zb lb lb0
    have hn' : (a.size : Int) = (n : Int) := by omega
    have hm' : (b.size : Int) = (m : Int) := by omega
    have hs1 : (S.size : Int) = 128 * (((n : Int) + 31 + 127) / 128) := by omega
    have hv1 : (V.size : Int) = 128 * (((m : Int) + 31 + 127) / 128) := by omega
    clear hba hbb fa fb ea eb hS hV hn hm za zb
    obtain ⟨X, hX⟩ : ∃ X : Int, X = ((n : Int) + 31 + 127) / 128 := ⟨_, rfl⟩
    obtain ⟨Y, hY⟩ : ∃ Y : Int, Y = ((m : Int) + 31 + 127) / 128 := ⟨_, rfl⟩
    obtain ⟨P, hP⟩ : ∃ P : Int, P = ((n : Int) + 30) / 128 := ⟨_, rfl⟩
    obtain ⟨R, hR⟩ : ∃ R : Int, R = ((m : Int) + 30) / 128 := ⟨_, rfl⟩
    have x1 : ((n : Int) + 31 + 127) / 128 = X := hX.symm
    have y1 : ((m : Int) + 31 + 127) / 128 = Y := hY.symm
    have x2 : ((n : Int) + 30) / 128 = P := hP.symm
    have y2 : ((m : Int) + 30) / 128 = R := hR.symm
    rw [x1] at hs1
    rw [y1] at hv1
    have t2 : True := trivial
    have xb : 1 ≤ X ∧ X ≤ 3 := by omega
    have yb : 1 ≤ Y ∧ Y ≤ 3 := by omega
    have pb : 0 ≤ P ∧ P ≤ 3 := by omega
    have rb : 0 ≤ R ∧ R ≤ 3 := by omega
    by_cases sm : P = R
    · have e : X = Y := by omega
      subst sm e
      clear hX hY hP hR
      go_enter Try.func3, Try.ntmps3
      go_wp2_with (first
        | (go_at_call 4; go_must (refine (awake_any _).mono ?_); rintro e w0 ⟨rfl, b0⟩)
        | (go_at_call 5; have _t := t1; go_must (refine (MA _).mono ?_); rintro e w1 ⟨rfl, b1⟩; clear t1 _t)
        | (go_at_call 5; go_must (refine (MB _).mono ?_); rintro e w2 ⟨rfl, b2⟩)
        | (go_at_call 6; have _t := t2; go_must (refine (QA' _).mono ?_); rintro e w3 ⟨rfl, b3⟩; clear t2 _t)
        | (go_at_call 6; go_must (refine (QB' _).mono ?_); rintro e w4 ⟨rfl, b4⟩)
        | (go_at_call 7; refine (num_any _ _).mono ?_; rintro e w' ⟨rfl, hw⟩; obtain rfl := hw.symm))
      go_ret
      exact ⟨ret_bool (by simp), next (next (next (next b0 b1) b2) b3) b4⟩
    · by_cases n97 : n ≤ 97
      · have m97 : ¬ m ≤ 97 := by omega
        clear hX hY hP hR
        go_enter Try.func3, Try.ntmps3
        go_wp2_with (first
          | (go_at_call 4; go_must (refine (awake_any _).mono ?_); rintro e w0 ⟨rfl, b0⟩)
          | (go_at_call 5; have _t := t1; go_must (refine (MA _).mono ?_); rintro e w1 ⟨rfl, b1⟩; clear t1 _t)
          | (go_at_call 5; go_must (refine (MB _).mono ?_); rintro e w2 ⟨rfl, b2⟩)
          | (go_at_call 6; have _t := t2; go_must (refine (QA' _).mono ?_); rintro e w3 ⟨rfl, b3⟩; clear t2 _t)
          | (go_at_call 6; go_must (refine (QB' _).mono ?_); rintro e w4 ⟨rfl, b4⟩)
          | (go_at_call 7; refine (num_any _ _).mono ?_; rintro e w' ⟨rfl, hw⟩; obtain rfl := hw.symm))
        go_ret
        exact ⟨ret_bool (by simp), next (next (next (next b0 b1) b2) b3) b4⟩
      · clear hX hY hP hR
        go_enter Try.func3, Try.ntmps3
        go_wp2_with (first
          | (go_at_call 4; go_must (refine (awake_any _).mono ?_); rintro e w0 ⟨rfl, b0⟩)
          | (go_at_call 5; have _t := t1; go_must (refine (MA _).mono ?_); rintro e w1 ⟨rfl, b1⟩; clear t1 _t)
          | (go_at_call 5; go_must (refine (MB _).mono ?_); rintro e w2 ⟨rfl, b2⟩)
          | (go_at_call 6; have _t := t2; go_must (refine (QA' _).mono ?_); rintro e w3 ⟨rfl, b3⟩; clear t2 _t)
          | (go_at_call 6; go_must (refine (QB' _).mono ?_); rintro e w4 ⟨rfl, b4⟩)
          | (go_at_call 7; refine (num_any _ _).mono ?_; rintro e w' ⟨rfl, hw⟩; obtain rfl := hw.symm))
        go_ret
        exact ⟨ret_bool (by simp), next (next (next (next b0 b1) b2) b3) b4⟩

theorem own : ownKnob Try.prog.godebug = none := by kernel_rfl

set_option maxRecDepth 100000 in
theorem lifted (os : Os) (started : os.Started) (H : Type) (enc : TypeId × Value → H) :
    ReturnsInHanded {} Try.checked os 3 .any (Rows.padAlikeSpec.pre6 enc Try.prog Try.f3 Rows.padAlikeRow.domain false) (Rows.padAlikeSpec.post enc Try.prog Try.f3 false true false false) := by
  refine returnsInHanded_of_change (C := Try.checked) own started (by kernel_rfl) Try.func3
    (ChangeSpec.witness6 (enc := enc) (C := Try.checked) false ⟨#[], #[.string ByteArray.empty, .string ByteArray.empty, .int .i64 0, .int .i64 0], []⟩ 8 (by kernel_rfl) (by kernel_rfl) (by kernel_rfl) (by kernel_rfl)) ?_
  intro W base args ds gs before hval0 hW _ _
  have hval : ∀ (j : Nat) t v, Try.f3.params[j]? = some t → args[j]? = some v → Value.okWide Try.prog W .any base t v := hval0
  have hW' := hW
  obtain ⟨p, q, hA0, hV, rfl, hfz, hnd⟩ := hW
  have hA : DataW.TrodAll enc Try.prog W 0 (fun _ => true) true Try.f3.params.toList args.toList ds p := hA0
  rw [Try.params3] at hA hval
  obtain ⟨v0, vs0, d0, ds0, p0, q0, hargs, rfl, rfl, h0, r0⟩ := trodAll_cons hA
  obtain ⟨v1, vs1, d1, ds1, p1, q1, rfl, rfl, rfl, h1, r1⟩ := trodAll_cons r0
  obtain ⟨v2, vs2, d2, ds2, p2, q2, rfl, rfl, rfl, h2, r2⟩ := trodAll_cons r1
  obtain ⟨v3, vs3, d3, ds3, p3, q3, rfl, rfl, rfl, h3, r3⟩ := trodAll_cons r2
  obtain ⟨rfl, rfl, rfl⟩ := trodAll_nil r3
  obtain rfl : args = #[v0, v1, v2, v3] := by cases args; simp_all
  obtain ⟨rfl, rfl⟩ := trodVars_none hV
  obtain ⟨a0, rfl, rfl, rfl, w0⟩ := open_string Try.underlying9 (hval 0 9 v0 rfl rfl) h0
  obtain ⟨a1, rfl, rfl, rfl, w1⟩ := open_string Try.underlying9 (hval 1 9 v1 rfl rfl) h1
  obtain ⟨a2, rfl, rfl, rfl, w2⟩ := open_int Try.underlying3 (hval 2 3 v2 rfl rfl) h2
  obtain ⟨a3, rfl, rfl, rfl, w3⟩ := open_int Try.underlying3 (hval 3 3 v3 rfl rfl) h3
  clear hA0 hval0
  simp only [List.append_nil] at hW'
  refine (walk a0 a1 a2 a3 w0 w1 w2 w3 W ).mono fun e W' ⟨he, bel⟩ => ?_
  subst he
  exact ⟨_, rfl, _, _, _, [], [], [], hW', trodAll_mk1 (shut_bool Try.underlying4 _), (trodAll_cons_mk (shut_string Try.underlying9 w0) (trodAll_cons_mk (shut_string Try.underlying9 w1) (trodAll_cons_mk (shut_int Try.underlying3 w2) (trodAll_cons_mk (shut_int Try.underlying3 w3) trodAll_mk0)))), rfl, bel.frame _, fun h => by cases h⟩

/-- The statement. -/
theorem proved : Rows.PadAlikeSaid :=
  OpenClaim.holds_of_wide 3 Try.f3 rfl rfl rfl rfl rfl rfl rfl ⟨rfl, rfl, rfl, rfl, rfl⟩ rfl rfl rfl rfl rfl (by kernel_rfl) Try.func3 (by kernel_rfl)
    (of_decide_eq_true (by kernel_rfl)) (by unfold Func.isWrapper; first | (rw [if_pos (by decide +kernel)]; kernel_rfl) | (rw [if_neg (by decide +kernel)]; exact ⟨rfl, rfl⟩))
    (fun os started H enc _ => lifted os started H enc)
#print axioms proved

end Go.Proofs.Ytcapankhobnfeab.padAlike
