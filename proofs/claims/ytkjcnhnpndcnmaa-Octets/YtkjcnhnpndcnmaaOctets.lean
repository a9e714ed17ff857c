/- Octets holds: for every string, every place and every number, U16, U32, Put16 and Put32 answer as the document's Num and Be. -/
import Derived.Test.YtkjcnhnpndcnmaaOctE
import Derived.ProofKit
import Derived.OpenShut
import Derived.ShutString
namespace Go.Proofs.Ytkjcnhnpndcnmaa.octets
open Go.ChangeShapes Go.WideShapes Go.ChangeAt Go.RowKit
open Go.ChangeMaps (open_string shut_string)

/-- What a call that gives a number gives: three numbers, and it lays nothing. -/
def Gives (f : Nat) (args : Array Value) (a b e : Int) : Prop :=
  ∀ w, Calls Try.prog f args w fun e' w' => e' = .returned (.tuple #[.int .i64 a, .int .i64 b, .int .i64 e]) ∧ ∃ m, w' = w.drewN m

theorem Gives.of_same {f : Nat} {args : Array Value} {a b e : Int} (h : ∀ w, Calls Try.prog f args w fun e' w' => e' = .returned (.tuple #[.int .i64 a, .int .i64 b, .int .i64 e]) ∧ w' = w) : Gives f args a b e :=
  fun w => (h w).mono fun _ _ ⟨h1, h2⟩ => ⟨h1, 0, h2⟩

theorem both2 (s : ByteArray) (x : Int) (hs : s.size ≤ maxLen) : ∃ a b e : Int, Gives 7 #[.string s, .int .i64 x] a b e ∧ Gives 8 #[.string s, .int .i64 x, .int .i64 2] a b e := by
  by_cases h : x < 0 ∨ (s.size : Int) < x + 2
  · exact ⟨0, 0, 300, .of_same fun w => u16_no s x w hs h, .of_same fun w => refNum_no s x 2 w hs (by decide) (by simpa using h)⟩
  · obtain ⟨k, rfl⟩ := Int.eq_ofNat_of_zero_le (a := x) (by omega)
    have hk : k + 2 ≤ s.size := by omega
    refine ⟨two s[k] s[k + 1], (k : Int) + 2, 0, fun w => u16_yes s k w hs hk, .of_same fun w => ?_⟩
    rw [← val_two s k hk]
    exact refNum_yes s k 2 w hs (by decide) hk
theorem both4 (s : ByteArray) (x : Int) (hs : s.size ≤ maxLen) : ∃ a b e : Int, Gives 9 #[.string s, .int .i64 x] a b e ∧ Gives 8 #[.string s, .int .i64 x, .int .i64 4] a b e := by
  by_cases h : x < 0 ∨ (s.size : Int) < x + 4
  · exact ⟨0, 0, 300, .of_same fun w => u32_no s x w hs h, .of_same fun w => refNum_no s x 4 w hs (by decide) (by simpa using h)⟩
  · obtain ⟨k, rfl⟩ := Int.eq_ofNat_of_zero_le (a := x) (by omega)
    have hk : k + 4 ≤ s.size := by omega
    refine ⟨four s[k] s[k + 1] s[k + 2] s[k + 3], (k : Int) + 4, 0, fun w => u32_yes s k w hs hk, .of_same fun w => ?_⟩
    rw [← val_four s k hk]
    exact refNum_yes s k 4 w hs (by decide) hk

theorem walk (s : ByteArray) (y x : Int) (hs : s.size ≤ maxLen) (_ : (Lit.int .i64 y).wf = true) (_ : (Lit.int .i64 x).wf = true) (w : World) :
    Calls Try.prog 3 #[.string s, .int .i64 y, .int .i64 x] w fun e w' => e = .returned (.bool true) ∧ Below w.heap.size w w' := by
  obtain ⟨a, b, e1, c1, c2⟩ := both2 s y hs
  obtain ⟨c, d, e2, c3, c4⟩ := both4 s y hs
  have hb : Below w.heap.size w w := Below.refl _ _
  go_enter Try.func3, Try.ntmps3
  go_wp2_with (first
    | (go_at_call 7; go_must (refine (c1 _).mono ?_); rintro e w1 ⟨rfl, b1⟩; replace hb := next hb (below_drew b1); clear b1)
    | (go_at_call_of 8 (#[Value.string s, Value.int IntKind.i64 y, Value.int IntKind.i64 2]); go_must (refine (c2 _).mono ?_); rintro e w1 ⟨rfl, b1⟩; replace hb := next hb (below_drew b1); clear b1)
    | (go_at_call 9; go_must (refine (c3 _).mono ?_); rintro e w1 ⟨rfl, b1⟩; replace hb := next hb (below_drew b1); clear b1)
    | (go_at_call 8; go_must (refine (c4 _).mono ?_); rintro e w1 ⟨rfl, b1⟩; replace hb := next hb (below_drew b1); clear b1)
    | (go_at_call 11; go_must (refine (put16_any x _).mono ?_); rintro e w1 ⟨rfl, b1⟩; replace hb := next hb b1; clear b1)
    | (go_at_call_of 12 (#[Value.int IntKind.i64 x, Value.int IntKind.i64 2]); go_must (refine (be_two x _).mono ?_); rintro e w1 ⟨rfl, b1⟩; replace hb := next hb b1; clear b1)
    | (go_at_call 13; go_must (refine (put32_any x _).mono ?_); rintro e w1 ⟨rfl, b1⟩; replace hb := next hb b1; clear b1)
    | (go_at_call 12; go_must (refine (be_four x _).mono ?_); rintro e w1 ⟨rfl, b1⟩; replace hb := next hb b1; clear b1)
    | (go_at_call 14; go_must (refine (awake_any _).mono ?_); rintro e w1 ⟨rfl, b1⟩; replace hb := next hb b1; clear b1)
    | (go_at_call 10; refine (num_any _ _).mono ?_; rintro e w' ⟨rfl, hw⟩; obtain rfl := hw.symm))
  go_ret
  exact ⟨rfl, hb⟩

theorem own : ownKnob Try.prog.godebug = none := by kernel_rfl

set_option maxRecDepth 100000 in
theorem lifted (os : Os) (started : os.Started) (H : Type) (enc : TypeId × Value → H) :
    ReturnsInHanded {} Try.checked os 3 .any (Rows.octetsSpec.pre6 enc Try.prog Try.f3 Rows.octetsRow.domain false) (Rows.octetsSpec.post enc Try.prog Try.f3 false true false false) := by
  refine returnsInHanded_of_change (C := Try.checked) own started (by kernel_rfl) Try.func3
    (ChangeSpec.witness6 (enc := enc) (C := Try.checked) false ⟨#[], #[.string ByteArray.empty, .int .i64 0, .int .i64 0], []⟩ 8 (by kernel_rfl) (by kernel_rfl) (by kernel_rfl) (by kernel_rfl)) ?_
  intro W base args ds gs before hval0 hW _ _
  have hval : ∀ (j : Nat) t v, Try.f3.params[j]? = some t → args[j]? = some v → Value.okWide Try.prog W .any base t v := hval0
  have hW' := hW
  obtain ⟨p, q, hA0, hV, rfl, hfz, hnd⟩ := hW
  have hA : DataW.TrodAll enc Try.prog W 0 (fun _ => true) true Try.f3.params.toList args.toList ds p := hA0
  rw [Try.params3] at hA hval
  obtain ⟨v0, vs0, d0, ds0, p0, q0, hargs, rfl, rfl, h0, r0⟩ := trodAll_cons hA
  obtain ⟨v1, vs1, d1, ds1, p1, q1, rfl, rfl, rfl, h1, r1⟩ := trodAll_cons r0
  obtain ⟨v2, vs2, d2, ds2, p2, q2, rfl, rfl, rfl, h2, r2⟩ := trodAll_cons r1
  obtain ⟨rfl, rfl, rfl⟩ := trodAll_nil r2
  obtain rfl : args = #[v0, v1, v2] := by cases args; simp_all
  obtain ⟨rfl, rfl⟩ := trodVars_none hV
  obtain ⟨a0, rfl, rfl, rfl, w0⟩ := open_string Try.underlying9 (hval 0 9 v0 rfl rfl) h0
  obtain ⟨a1, rfl, rfl, rfl, w1⟩ := open_int Try.underlying3 (hval 1 3 v1 rfl rfl) h1
  obtain ⟨a2, rfl, rfl, rfl, w2⟩ := open_int Try.underlying3 (hval 2 3 v2 rfl rfl) h2
  clear hA0 hval0
  simp only [List.append_nil] at hW'
  refine (walk a0 a1 a2 w0 w1 w2 W).mono fun e W' ⟨he, bel⟩ => ?_
  subst he
  exact ⟨_, rfl, _, _, _, [], [], [], hW', trodAll_mk1 (shut_bool Try.underlying4 _), (trodAll_cons_mk (shut_string Try.underlying9 w0) (trodAll_cons_mk (shut_int Try.underlying3 w1) (trodAll_cons_mk (shut_int Try.underlying3 w2) trodAll_mk0))), rfl, bel.frame _, fun h => by cases h⟩

/-- The statement. -/
theorem proved : Rows.OctetsSaid :=
  OpenClaim.holds_of_wide 3 Try.f3 rfl rfl rfl rfl rfl rfl rfl ⟨rfl, rfl, rfl, rfl, rfl⟩ rfl rfl rfl rfl rfl (by kernel_rfl) Try.func3 (by kernel_rfl)
    (of_decide_eq_true (by kernel_rfl)) (by unfold Func.isWrapper; first | (rw [if_pos (by decide +kernel)]; kernel_rfl) | (rw [if_neg (by decide +kernel)]; exact ⟨rfl, rfl⟩))
    (fun os started H enc _ => lifted os started H enc)
#print axioms proved

end Go.Proofs.Ytkjcnhnpndcnmaa.octets
