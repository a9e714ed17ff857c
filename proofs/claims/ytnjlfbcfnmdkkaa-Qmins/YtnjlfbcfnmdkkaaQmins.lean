/- Qmins holds: for all numbers and every task, Size and Next answer as the document says. -/
import Derived.Test.YtnjlfbcfnmdkkaaQmF
import Derived.Test.YtnjlfbcfnmdkkaaQmG
namespace Go.Proofs.Ytnjlfbcfnmdkkaa.qmins
open Go.ChangeShapes Go.WideShapes Go.ChangeAt Go.RowKit
open Go.ChangeMaps (open_string shut_string)
open Pl

set_option maxRecDepth 20000 in
set_option maxHeartbeats 4000000 in
theorem walk (s l c o : Int) (x : Qm.Tk) (_ : (Lit.int .i64 s).wf = true) (_ : (Lit.int .i64 l).wf = true) (_ : (Lit.int .i64 c).wf = true) (_ : (Lit.int .i64 o).wf = true) (hn : x.n.size ≤ maxLen) (hkn : x.known.size ≤ maxLen) (w : World) :
    Calls Try.prog 3 #[.int .i64 s, .int .i64 l, .int .i64 c, .int .i64 o, .agg (Qm.tkC x)] w fun e w' => e = .returned (.bool true) ∧ Below w.heap.size w w' := by
  obtain ⟨a, e1, hS⟩ := Qm.size_form s l c o
  obtain ⟨N, T, E, hN⟩ := Qm.next_form x c o
  have HS : Hid (Qm.sizeV s l c o = .tuple #[.int .i64 a, .int .i64 e1]) := hS
  have HA : Hid (∀ u, Calls Try.prog 11 #[.agg (Qm.tkC x), .int .i64 c, .int .i64 o] u fun e w' => e = .returned (.tuple #[.agg #[.string N, .int .i64 T], .int .i64 E]) ∧ Below u.heap.size u w') := fun u => Qm.next_as x c o _ u hn hkn hN
  have HB : Hid (∀ u, Calls Try.prog 12 #[.agg (Qm.tkC x), .int .i64 c, .int .i64 o] u fun e w' => e = .returned (.tuple #[.agg #[.string N, .int .i64 T], .int .i64 E]) ∧ Below u.heap.size u w') := fun u => by have := Qm.refNext_any x c o u hn hkn; rw [hN] at this; exact this
  clear hS hN
  obtain ⟨n, t, cut, known, steps, fb, server, tries⟩ := x
  simp only [Qm.tkC] at HA HB ⊢
  clear hn hkn
  have hk0 := Blk.new w #[.string n, .int .i64 t, .string cut, .string known, .int .i64 steps, .bool fb, .int .i64 server, .int .i64 tries] 23
  have hb0 := lay (Below.refl w.heap.size w) (.cells #[.string n, .int .i64 t, .string cut, .string known, .int .i64 steps, .bool fb, .int .i64 server, .int .i64 tries] 23)
  have HK0 : Hid (Blk (w.alloc (.cells #[.string n, .int .i64 t, .string cut, .string known, .int .i64 steps, .bool fb, .int .i64 server, .int .i64 tries] 23)) w.heap.size #[.string n, .int .i64 t, .string cut, .string known, .int .i64 steps, .bool fb, .int .i64 server, .int .i64 tries] 23) := hk0
  have HB0 : Hid (Below w.heap.size w (w.alloc (.cells #[.string n, .int .i64 t, .string cut, .string known, .int .i64 steps, .bool fb, .int .i64 server, .int .i64 tries] 23))) := hb0
  clear hk0 hb0
  go_enter Try.func3, Try.ntmps3
  go_wp2_with (first
    | (go_at_call 9; go_must (refine (Qm.size_as _ _ _ _ _ _ HS.out).mono ?_); rintro e w1 ⟨rfl, b1⟩; have HK1 : Hid (Blk w1 w.heap.size #[.string n, .int .i64 t, .string cut, .string known, .int .i64 steps, .bool fb, .int .i64 server, .int .i64 tries] 23) := HK0.out.below b1; have HB1 : Hid (Below w.heap.size w w1) := next HB0.out b1; obtain ⟨c0, c1, c2, c3, c4, c5, c6, c7⟩ := Qm.tk8 HK1.out; clear b1 HK0 HB0)
    | (go_at_call 10; go_must (refine (Qm.refSize_as _ _ _ _ _ _ HS.out).mono ?_); rintro e w' ⟨rfl, hw⟩; obtain rfl := hw.symm)
    | (go_at_call 11; go_must (refine (HA.out _).mono ?_); rintro e w2 ⟨rfl, b2⟩; obtain ⟨c0, c1, c2, c3, c4, c5, c6, c7⟩ := Qm.tk8 ((HK1.out.below b2).alloc (.cells #[.string N, .int .i64 T] 30)); have HN2 : Hid (Blk (w2.alloc (.cells #[.string N, .int .i64 T] 30)) w2.heap.size #[.string N, .int .i64 T] 30) := Blk.new w2 _ _; have HB2 : Hid (Below w.heap.size w (w2.alloc (.cells #[.string N, .int .i64 T] 30))) := lay (next HB1.out b2) _; clear b2 HK1 HB1)
    | (go_at_call 12; go_must (refine (HB.out _).mono ?_); rintro e w3 ⟨rfl, b3⟩; obtain ⟨d0, d1⟩ := Qm.st2 ((HN2.out.below b3).alloc (.cells #[.string N, .int .i64 T] 30)); have HB3 : Hid (Below w.heap.size w (w3.alloc (.cells #[.string N, .int .i64 T] 30))) := lay (next HB2.out b3) _; clear b3 HN2 HB2)
    | (go_at_call 13; refine (num_any _ _).mono ?_; rintro e w' ⟨rfl, hw⟩; obtain rfl := hw.symm)
    | (go_at_call 14; go_must (refine (Qm.awake_any _).mono ?_); rintro e w4 ⟨rfl, b4⟩))
  go_ret
  exact ⟨rfl, next HB3.out b4⟩

theorem own : ownKnob Try.prog.godebug = none := by kernel_rfl
theorem laidOut : laidOutB Try.prog = true := by kernel_rfl

set_option maxRecDepth 100000 in
theorem lifted (os : Os) (started : os.Started) (H : Type) (enc : TypeId × Value → H) :
    ReturnsInHanded {} Try.checked os 3 .any (Rows.qminsSpec.pre6 enc Try.prog Try.f3 Rows.qminsRow.domain false) (Rows.qminsSpec.post enc Try.prog Try.f3 false true false false) := by
  refine returnsInHanded_of_change (C := Try.checked) own started (by kernel_rfl) Try.func3
    (ChangeSpec.witness6 (enc := enc) (C := Try.checked) false ⟨#[], #[.int .i64 0, .int .i64 0, .int .i64 0, .int .i64 0, .agg (Qm.tkC Qm.tkZ)], []⟩ 8 (by kernel_rfl) (by kernel_rfl) (by kernel_rfl) (by kernel_rfl)) ?_
  intro W base args ds gs before hval0 hW _ _
  have hval : ∀ (j : Nat) t v, Try.f3.params[j]? = some t → args[j]? = some v → Value.okWide Try.prog W .any base t v := hval0
  have hW' := hW
  obtain ⟨p, q, hA0, hV, rfl, hfz, hnd⟩ := hW
  have hA : DataW.TrodAll enc Try.prog W 0 (fun _ => true) true Try.f3.params.toList args.toList ds p := hA0
  rw [Try.params3] at hA hval
  obtain ⟨v0, vs0, d0, ds0, p0, q0, hargs, rfl, rfl, h0, r0⟩ := trodAll_cons hA
  obtain ⟨v1, vs1, d1, ds1, p1, q1, rfl, rfl, rfl, h1, r1⟩ := trodAll_cons r0
  obtain ⟨v2, vs2, d2, ds2, p2, q2, rfl, rfl, rfl, h2, r2⟩ := trodAll_cons r1
  obtain ⟨v3, vs3, d3, ds3, p3, q3, rfl, rfl, rfl, h3, r3⟩ := trodAll_cons r2
  obtain ⟨v4, vs4, d4, ds4, p4, q4, rfl, rfl, rfl, h4, r4⟩ := trodAll_cons r3
  obtain ⟨rfl, rfl, rfl⟩ := trodAll_nil r4
  obtain rfl : args = #[v0, v1, v2, v3, v4] := by cases args; simp_all
  obtain ⟨rfl, rfl⟩ := trodVars_none hV
  obtain ⟨a0, rfl, rfl, rfl, w0⟩ := open_int Try.underlying3 (hval 0 3 v0 rfl rfl) h0
  obtain ⟨a1, rfl, rfl, rfl, w1⟩ := open_int Try.underlying3 (hval 1 3 v1 rfl rfl) h1
  obtain ⟨a2, rfl, rfl, rfl, w2⟩ := open_int Try.underlying3 (hval 2 3 v2 rfl rfl) h2
  obtain ⟨a3, rfl, rfl, rfl, w3⟩ := open_int Try.underlying3 (hval 3 3 v3 rfl rfl) h3
  obtain ⟨a4, rfl, rfl, w4n, w4k⟩ := Qm.open_task (hval 4 23 v4 rfl rfl) h4
  clear hA0 hval0
  simp only [List.append_nil] at hW'
  refine (walk a0 a1 a2 a3 a4 w0 w1 w2 w3 w4n w4k W ).mono fun e W' ⟨he, bel⟩ => ?_
  subst he
  exact ⟨_, rfl, _, _, _, [], [], [], hW', trodAll_mk1 (shut_bool Try.underlying4 _), (trodAll_cons_mk (shut_int Try.underlying3 w0) (trodAll_cons_mk (shut_int Try.underlying3 w1) (trodAll_cons_mk (shut_int Try.underlying3 w2) (trodAll_cons_mk (shut_int Try.underlying3 w3) (trodAll_cons_mk (Below.trod laidOut (by kernel_rfl) (of_decide_eq_true (by kernel_rfl)) h4 bel (by simp)) trodAll_mk0))))), rfl, bel.frame _, fun h => by cases h⟩

/-- The statement. -/
theorem proved : Rows.QminsSaid :=
  OpenClaim.holds_of_wide 3 Try.f3 rfl rfl rfl rfl rfl rfl rfl ⟨rfl, rfl, rfl, rfl, rfl⟩ rfl rfl rfl rfl rfl (by kernel_rfl) Try.func3 (by kernel_rfl)
    (of_decide_eq_true (by kernel_rfl)) (by unfold Func.isWrapper; first | (rw [if_pos (by decide +kernel)]; kernel_rfl) | (rw [if_neg (by decide +kernel)]; exact ⟨rfl, rfl⟩))
    (fun os started H enc _ => lifted os started H enc)
#print axioms proved


end Go.Proofs.Ytnjlfbcfnmdkkaa.qmins
