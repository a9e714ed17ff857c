/- RdataNumbers holds: numbers that do not fit are refused. -/
import Derived.Test.YtoeaogbeifkliaaRdG
import Derived.ProofKit
import Derived.OpenShut
import Derived.ShutString
namespace Go.Proofs.Ytoeaogbeifkliaa.rdataNumbers
open Go.ChangeShapes Go.WideShapes Go.ChangeAt Go.RowKit
open Go.ChangeMaps (open_string shut_string)
open Pl

theorem n1 : ∃ Y : ByteArray, Y.size = 24 ∧ ∀ w, Calls Try.prog 19 #[.agg #[.string ⟨#[0]⟩, .string ⟨#[1, 97, 0]⟩, .int .i64 1, .int .i64 2, .int .i64 3, .int .i64 4, .int .i64 5]] w fun e w' => e = .returned (.tuple #[.string Y, .int .i64 0]) ∧ Below w.heap.size w w' :=
  ⟨_, by simp [soaS, ByteArray.size_append, size4]; rfl, fun w => soa_yes ⟨#[0]⟩ ⟨#[1, 97, 0]⟩ 1 2 3 4 5 w (by decide) (by decide) (by decide)⟩
theorem out_no {x : Int} (h : x < 0 ∨ 4294967295 < x) : inB 4294967295 x = false := by unfold inB; rw [decide_eq_false_iff_not]; omega
theorem all_no {a b c d e : Int} (h : (a < 0 ∨ 4294967295 < a) ∨ (b < 0 ∨ 4294967295 < b) ∨ (c < 0 ∨ 4294967295 < c) ∨ (d < 0 ∨ 4294967295 < d) ∨ (e < 0 ∨ 4294967295 < e)) : allIn 4294967295 [a, b, c, d, e] = false := by
  unfold allIn
  rw [List.all_eq_false]
  rcases h with h | h | h | h | h
  · exact ⟨a, by simp, by simp; omega⟩
  · exact ⟨b, by simp, by simp; omega⟩
  · exact ⟨c, by simp, by simp; omega⟩
  · exact ⟨d, by simp, by simp; omega⟩
  · exact ⟨e, by simp, by simp; omega⟩
theorem soa_bad (h m : ByteArray) (a b c d e : Int) (w : World) (s1 : h.size ≤ 100) (s2 : m.size ≤ 100) (hn : isName h.data.toList = false ∨ isName m.data.toList = false ∨ allIn 4294967295 [a, b, c, d, e] = false) :
    Calls Try.prog 19 #[.agg #[.string h, .string m, .int .i64 a, .int .i64 b, .int .i64 c, .int .i64 d, .int .i64 e]] w fun r w' => r = .returned (.tuple #[.string ⟨#[]⟩, .int .i64 400]) ∧ Below w.heap.size w w' :=
  soa_no h m a b c d e w (max9 s1) (max9 s2) (by rcases hn with hn | hn | hn <;> rw [hn] <;> simp)
theorem mx_far (r : Int) (w : World) (h : 0 ≤ r) : Calls Try.prog 12 #[.int .i64 (65536 + r), .string ⟨#[0]⟩] w fun e w' => e = .returned (.tuple #[.string ⟨#[]⟩, .int .i64 400]) ∧ Below w.heap.size w w' :=
  mx_no (65536 + r) ⟨#[0]⟩ w (max9 (by decide)) (by rw [show inB 65535 (65536 + r) = false from by unfold inB; rw [decide_eq_false_iff_not]; omega]; rfl)
theorem host_txt (w : World) : Calls Try.prog 14 #[.int .i64 16, .string ⟨#[0]⟩] w fun e w' => e = .returned (.tuple #[.string ⟨#[]⟩, .int .i64 400]) ∧ Below w.heap.size w w' :=
  host_any 16 ⟨#[0]⟩ w (max9 (by decide))

set_option maxRecDepth 20000 in
set_option maxHeartbeats 2000000 in
theorem walk (y x : Int) (_ : (Lit.int .i64 y).wf = true) (_ : (Lit.int .i64 x).wf = true) (w : World) :
    Calls Try.prog 7 #[.int .i64 y, .int .i64 x] w fun e w' => e = .returned (.bool true) ∧ Below w.heap.size w w' := by
  obtain ⟨Y, zY, hY⟩ := n1
  have m10 : bits .and .i64 x 1023 = x % 1024 := mask x 10 (by decide)
  have hr0 : 0 ≤ x % 1024 := Int.emod_nonneg _ (by decide)
  have hr1 : x % 1024 < 1024 := Int.emod_lt_of_pos _ (by decide)
  obtain ⟨r, hr⟩ : ∃ r, r = x % 1024 := ⟨_, rfl⟩
  rw [← hr] at m10 hr0 hr1
  clear hr
  have mj := mask1 (x / 1024)
  have hj2 : x / 1024 % 2 = 0 ∨ x / 1024 % 2 = 1 := by omega
  have hb : Below w.heap.size w w := Below.refl _ _
  rcases hj2 with hj | hj
  all_goals
    rw [hj] at mj
    clear hj
    go_enter Try.func7, Try.ntmps7
    go_wp2_with (first
      | (go_at_call 27; go_must (refine (awake_any _).mono ?_); rintro e w0 ⟨rfl, b0⟩; replace hb := next hb b0; have hle := hb.size; clear b0)
      | (go_at_call_of 19 (#[Value.agg #[Value.string ⟨#[0]⟩, Value.string ⟨#[1, 97, 0]⟩, Value.int IntKind.i64 1, Value.int IntKind.i64 2, Value.int IntKind.i64 3, Value.int IntKind.i64 4, Value.int IntKind.i64 5]]); go_must (refine (hY _).mono ?_); rintro e w1 ⟨rfl, b1⟩; have kb := (Blk.new w0 (soaV ⟨#[0]⟩ ⟨#[1, 97, 0]⟩ 1 2 3 4 5) 23).below b1; have klt := kb.lt; obtain ⟨f0, f1, f2, f3, f4, f5, f6⟩ := Blk.seven kb; obtain ⟨e0, e1, e2, e3, e4, e5, e6⟩ := Blk.open7 kb; replace hb := next (lay hb _) b1; clear b1)
      | (go_at_call 19; go_must (refine (soa_bad _ _ _ _ _ _ _ _ (by decide) (by decide) (by first | exact .inl (by decide) | exact .inr (.inl (by decide)) | exact .inr (.inr (all_no (by omega))))).mono ?_); rintro e w2 ⟨rfl, b1⟩; replace hb := next (lay (hb.setCell (by exact hle) _) _) b1; clear b1 kb klt f0 f1 f2 f3 f4 f5 f6 e0 e1 e2 e3 e4 e5 e6)
      | (go_at_call 8; go_must (refine (a_no _ _ (out_no (by omega))).mono ?_); rintro e w3 ⟨rfl, b1⟩; replace hb := next hb b1; clear b1)
      | (go_at_call 12; go_must (refine (mx_far r _ hr0).mono ?_); rintro e w4 ⟨rfl, b1⟩; replace hb := next hb b1; clear b1)
      | (go_at_call 14; go_must (refine (host_txt _).mono ?_); rintro e w5 ⟨rfl, b1⟩; replace hb := next hb b1; clear b1)
      | (go_at_call 16; refine (num_any _ _).mono ?_; rintro e w' ⟨rfl, hw⟩; obtain rfl := hw.symm))
    all_goals go_ret
    all_goals exact ⟨rfl, hb⟩

theorem own : ownKnob Try.prog.godebug = none := by kernel_rfl

set_option maxRecDepth 100000 in
theorem lifted (os : Os) (started : os.Started) (H : Type) (enc : TypeId × Value → H) :
    ReturnsInHanded {} Try.checked os 7 .any (Rows.rdataNumbersSpec.pre6 enc Try.prog Try.f7 Rows.rdataNumbersRow.domain false) (Rows.rdataNumbersSpec.post enc Try.prog Try.f7 false true false false) := by
  refine returnsInHanded_of_change (C := Try.checked) own started (by kernel_rfl) Try.func7
    (ChangeSpec.witness6 (enc := enc) (C := Try.checked) false ⟨#[], #[.int .i64 0, .int .i64 0], []⟩ 8 (by kernel_rfl) (by kernel_rfl) (by kernel_rfl) (by kernel_rfl)) ?_
  intro W base args ds gs before hval0 hW _ _
  have hval : ∀ (j : Nat) t v, Try.f7.params[j]? = some t → args[j]? = some v → Value.okWide Try.prog W .any base t v := hval0
  have hW' := hW
  obtain ⟨p, q, hA0, hV, rfl, hfz, hnd⟩ := hW
  have hA : DataW.TrodAll enc Try.prog W 0 (fun _ => true) true Try.f7.params.toList args.toList ds p := hA0
  rw [Try.params7] at hA hval
  obtain ⟨v0, vs0, d0, ds0, p0, q0, hargs, rfl, rfl, h0, r0⟩ := trodAll_cons hA
  obtain ⟨v1, vs1, d1, ds1, p1, q1, rfl, rfl, rfl, h1, r1⟩ := trodAll_cons r0
  obtain ⟨rfl, rfl, rfl⟩ := trodAll_nil r1
  obtain rfl : args = #[v0, v1] := by cases args; simp_all
  obtain ⟨rfl, rfl⟩ := trodVars_none hV
  obtain ⟨a0, rfl, rfl, rfl, w0⟩ := open_int Try.underlying3 (hval 0 3 v0 rfl rfl) h0
  obtain ⟨a1, rfl, rfl, rfl, w1⟩ := open_int Try.underlying3 (hval 1 3 v1 rfl rfl) h1
  clear hA0 hval0
  simp only [List.append_nil] at hW'
  refine (walk a0 a1 w0 w1 W ).mono fun e W' ⟨he, bel⟩ => ?_
  subst he
  exact ⟨_, rfl, _, _, _, [], [], [], hW', trodAll_mk1 (shut_bool Try.underlying4 _), (trodAll_cons_mk (shut_int Try.underlying3 w0) (trodAll_cons_mk (shut_int Try.underlying3 w1) trodAll_mk0)), rfl, bel.frame _, fun h => by cases h⟩

/-- The statement. -/
theorem proved : Rows.RdataNumbersSaid :=
  OpenClaim.holds_of_wide 7 Try.f7 rfl rfl rfl rfl rfl rfl rfl ⟨rfl, rfl, rfl, rfl, rfl⟩ rfl rfl rfl rfl rfl (by kernel_rfl) Try.func7 (by kernel_rfl)
    (of_decide_eq_true (by kernel_rfl)) (by unfold Func.isWrapper; first | (rw [if_pos (by decide +kernel)]; kernel_rfl) | (rw [if_neg (by decide +kernel)]; exact ⟨rfl, rfl⟩))
    (fun os started H enc _ => lifted os started H enc)
#print axioms proved

end Go.Proofs.Ytoeaogbeifkliaa.rdataNumbers
