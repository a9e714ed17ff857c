/- OctetEnds holds: for every string, every place and every number, U16 and U32 tell what is cut, and Put16 and Put32 go round modulo their width. -/
import Derived.Test.YtkjcnhnpndcnmaaOctC
import Derived.ProofKit
import Derived.OpenShut
import Derived.ShutString
namespace Go.Proofs.Ytkjcnhnpndcnmaa.octetEnds
open Go.ChangeShapes Go.WideShapes Go.ChangeAt Go.RowKit
open Go.ChangeMaps (open_string shut_string)

/-- A world in which all that w holds lies as it lay. -/
structure Bel (w : World) where
  to : World
  h : Below w.heap.size w to

/-- A region that draws its order, whose calls lay new blocks alone: one walk, in the order of the text. -/
theorem wp_region_bel {P : Program} {id : Nat} {Q : Exit → Act → World → Prop} {a : Act} {w : World} {l : List Oper} (hm : P.follows .mixedOrders = true) (hB : Region.lexB .any l.toArray = true)
    (h : Nonempty (Bel w) → wpQuiet P l.toArray (fun w' => ∃ n : Bel w, w' = n.to) (fun a' => ∀ w', (∃ n : Bel w, w' = n.to) → Q .normal a' w') l a) : (Code.region id l.toArray true).wp P Q a w :=
  wp_region_quiet (C := fun w' => ∃ n : Bel w, w' = n.to) hm hB ⟨⟨_, below_drew ⟨1, rfl⟩⟩, rfl⟩ (h ⟨⟨w, Below.refl _ _⟩⟩)

theorem bel_same {P : Program} {f : FuncId} {args : Array Value} {w : World} {n : Bel w} {v : Value}
    (h : Calls P f args n.to fun e w' => e = .returned v ∧ w' = n.to) : Calls P f args n.to fun e w'' => e = .returned v ∧ ∃ m : Bel w, w'' = m.to :=
  h.mono fun _ _ ⟨he, hm⟩ => ⟨he, n, hm⟩
theorem bel_lays {P : Program} {f : FuncId} {args : Array Value} {w : World} {n : Bel w} {v : Value}
    (h : Calls P f args n.to fun e w' => e = .returned v ∧ Below n.to.heap.size n.to w') : Calls P f args n.to fun e w'' => e = .returned v ∧ ∃ m : Bel w, w'' = m.to :=
  h.mono fun _ w' ⟨he, hm⟩ => ⟨he, ⟨w', next n.h hm⟩, rfl⟩

theorem be2_mask (x : Int) : be2 (x % 65536) = be2 x := by
  unfold be2 oct
  rw [show x % 65536 / 256 % 256 = x / 256 % 256 from by omega, show x % 65536 / 1 % 256 = x / 1 % 256 from by omega]
theorem put16_mask (x : Int) (w : World) :
    Calls Try.prog 11 #[.int .i64 (x % 65536)] w fun e w' => e = .returned (.string (be2 x)) ∧ Below w.heap.size w w' := by
  rw [← be2_mask x]; exact put16_any _ w
theorem be4_tail (x : Int) : (be4 x).extract 2 (be4 x).size = be2 x := by
  unfold be4 be2
  rfl

theorem walk_in (s : ByteArray) (y x e1 e2 : Int) (T2 T4 : Bool) (w : World) (hs : s.size ≤ maxLen) (h0 : 0 ≤ y) (h1 : y ≤ (s.size : Int))
    (c1 : ∀ w, ∃ a b : Int, Calls Try.prog 7 #[.string s, .int .i64 y] w fun e w' => e = .returned (.tuple #[.int .i64 a, .int .i64 b, .int .i64 e1]) ∧ ∃ m, w' = w.drewN m)
    (c2 : ∀ w, ∃ a b : Int, Calls Try.prog 9 #[.string s, .int .i64 y] w fun e w' => e = .returned (.tuple #[.int .i64 a, .int .i64 b, .int .i64 e2]) ∧ ∃ m, w' = w.drewN m)
    (t1 : (e1 == 0) = T2) (t2 : decide (2 ≤ (s.size : Int) - y) = T2) (t3 : (e2 == 0) = T4) (t4 : decide (4 ≤ (s.size : Int) - y) = T4) :
    Calls Try.prog 5 #[.string s, .int .i64 y, .int .i64 x] w fun e w' => e = .returned (.bool true) ∧ Below w.heap.size w w' := by
  unfold maxLen at hs
  have m16 := mask16 x
  have z4 : (be4 x).size = 4 := rfl
  have hb : Below w.heap.size w w := Below.refl _ _
  go_enter Try.func5, Try.ntmps5
  go_wp2_with (first
    | (go_at_call 14; go_must (refine (awake_any _).mono ?_); rintro e w0 ⟨rfl, b0⟩; replace hb := next hb b0; clear b0)
    | (go_at_call 7; obtain ⟨a1, b1, d1⟩ := c1 w0; go_must (refine d1.mono ?_); rintro e w1 ⟨rfl, d⟩; replace hb := next hb (below_drew d); clear d d1)
    | (go_at_call 9; obtain ⟨a2, b2, d2⟩ := c2 w1; go_must (refine d2.mono ?_); rintro e w2 ⟨rfl, d⟩; replace hb := next hb (below_drew d); clear d d2))
  refine wp_region_bel (by kernel_rfl) (by kernel_rfl) (fun _ => ?_)
  have w64 : IntKind.i64.wrap ((s.size : Int) - y) = (s.size : Int) - y := by rw [IntKind.wrap_i64]; omega

  have hcut : ∀ u : World, (Instr.slice 9 (.string (be4 x)) (some (.int .i64 2)) none none).run Try.prog u = .ok (.string (be2 x)) u := fun u => by
    rw [← be4_tail]; exact cut_from (be4 x) 2 (by show 2 ≤ 4; decide) u
  repeat (go_big_quiet_step (first
    | (go_at_call 10; exact bel_same (num_any _ _))
    | (go_at_call_of 11 (#[Value.int IntKind.i64 x]); exact bel_lays (put16_any _ _))
    | (go_at_call 11; go_must (exact bel_lays (put16_mask x _)))
    | (go_at_call 13; exact bel_lays (put32_any _ _))))
  refine wpQuiet_nil ?_
  rintro _ ⟨nb, rfl⟩
  go_wp2
  go_ret
  exact ⟨rfl, next hb nb.h⟩

theorem walk_out (s : ByteArray) (y x : Int) (w : World) (hs : s.size ≤ maxLen) (h : decide (0 ≤ y) = false ∨ (0 ≤ y ∧ decide (y ≤ (s.size : Int)) = false)) :
    Calls Try.prog 5 #[.string s, .int .i64 y, .int .i64 x] w fun e w' => e = .returned (.bool true) ∧ Below w.heap.size w w' := by
  have hno : Hid (y < 0 ∨ (s.size : Int) < y) := by
    rcases h with h | ⟨_, h⟩
    · simp at h; exact .inl h
    · simp at h; exact .inr h
  have m16 := mask16 x
  have z4 : (be4 x).size = 4 := rfl
  have hb : Below w.heap.size w w := Below.refl _ _
  have HS : Hid (s.size ≤ maxLen) := hs
  have hcut : ∀ u : World, (Instr.slice 9 (.string (be4 x)) (some (.int .i64 2)) none none).run Try.prog u = .ok (.string (be2 x)) u := fun u => by
    rw [← be4_tail]; exact cut_from (be4 x) 2 (by show 2 ≤ 4; decide) u
  unfold maxLen at hs
  rcases h with h | ⟨h1, h⟩
  all_goals
    go_enter Try.func5, Try.ntmps5
    go_wp2_with (first
      | (go_at_call 14; go_must (refine (awake_any _).mono ?_); rintro e w0 ⟨rfl, b0⟩; replace hb := next hb b0; clear b0)
      | (go_at_call 7; go_must (refine (u16_no s y _ HS.out (hno.out.imp id (fun h => by omega))).mono ?_); rintro e w' ⟨rfl, hw⟩; obtain rfl := hw.symm)
      | (go_at_call 9; go_must (refine (u32_no s y _ HS.out (hno.out.imp id (fun h => by omega))).mono ?_); rintro e w' ⟨rfl, hw⟩; obtain rfl := hw.symm))
    refine wp_region_bel (by kernel_rfl) (by kernel_rfl) (fun _ => ?_)
    repeat (go_big_quiet_step (first
      | (go_at_call 10; exact bel_same (num_any _ _))
      | (go_at_call_of 11 (#[Value.int IntKind.i64 x]); exact bel_lays (put16_any _ _))
      | (go_at_call 11; go_must (exact bel_lays (put16_mask x _)))
      | (go_at_call 13; exact bel_lays (put32_any _ _))))
    refine wpQuiet_nil ?_
    rintro _ ⟨nb, rfl⟩
    go_wp2
    go_ret
    exact ⟨rfl, next hb nb.h⟩

theorem walk (s : ByteArray) (y x : Int) (hs : s.size ≤ maxLen) (_ : (Lit.int .i64 y).wf = true) (_ : (Lit.int .i64 x).wf = true) (w : World) :
    Calls Try.prog 5 #[.string s, .int .i64 y, .int .i64 x] w fun e w' => e = .returned (.bool true) ∧ Below w.heap.size w w' := by
  by_cases h0 : 0 ≤ y
  · by_cases h1 : y ≤ (s.size : Int)
    · obtain ⟨k, rfl⟩ := Int.eq_ofNat_of_zero_le h0
      by_cases h2 : k + 2 ≤ s.size
      · by_cases h4 : k + 4 ≤ s.size
        · exact walk_in s k x 0 0 true true w hs h0 h1 (fun w => ⟨_, _, u16_yes s k w hs h2⟩) (fun w => ⟨_, _, u32_yes s k w hs h4⟩) rfl (by simp; omega) rfl (by simp; omega)
        · exact walk_in s k x 0 300 true false w hs h0 h1 (fun w => ⟨_, _, u16_yes s k w hs h2⟩) (fun w => ⟨_, _, (u32_no s k w hs (.inr (by omega))).mono fun _ _ ⟨a, b⟩ => ⟨a, 0, b⟩⟩) rfl (by simp; omega) rfl (by simp; omega)
      · exact walk_in s k x 300 300 false false w hs h0 h1 (fun w => ⟨_, _, (u16_no s k w hs (.inr (by omega))).mono fun _ _ ⟨a, b⟩ => ⟨a, 0, b⟩⟩) (fun w => ⟨_, _, (u32_no s k w hs (.inr (by omega))).mono fun _ _ ⟨a, b⟩ => ⟨a, 0, b⟩⟩) rfl (by simp; omega) rfl (by simp; omega)
    · exact walk_out s y x w hs (.inr ⟨h0, by simp; omega⟩)
  · exact walk_out s y x w hs (.inl (by simp; omega))

theorem own : ownKnob Try.prog.godebug = none := by kernel_rfl

set_option maxRecDepth 100000 in
theorem lifted (os : Os) (started : os.Started) (H : Type) (enc : TypeId × Value → H) :
    ReturnsInHanded {} Try.checked os 5 .any (Rows.octetEndsSpec.pre6 enc Try.prog Try.f5 Rows.octetEndsRow.domain false) (Rows.octetEndsSpec.post enc Try.prog Try.f5 false true false false) := by
  refine returnsInHanded_of_change (C := Try.checked) own started (by kernel_rfl) Try.func5
    (ChangeSpec.witness6 (enc := enc) (C := Try.checked) false ⟨#[], #[.string ByteArray.empty, .int .i64 0, .int .i64 0], []⟩ 8 (by kernel_rfl) (by kernel_rfl) (by kernel_rfl) (by kernel_rfl)) ?_
  intro W base args ds gs before hval0 hW _ _
  have hval : ∀ (j : Nat) t v, Try.f5.params[j]? = some t → args[j]? = some v → Value.okWide Try.prog W .any base t v := hval0
  have hW' := hW
  obtain ⟨p, q, hA0, hV, rfl, hfz, hnd⟩ := hW
  have hA : DataW.TrodAll enc Try.prog W 0 (fun _ => true) true Try.f5.params.toList args.toList ds p := hA0
  rw [Try.params5] at hA hval
  obtain ⟨v0, vs0, d0, ds0, p0, q0, hargs, rfl, rfl, h0, r0⟩ := trodAll_cons hA
  obtain ⟨v1, vs1, d1, ds1, p1, q1, rfl, rfl, rfl, h1, r1⟩ := trodAll_cons r0
  obtain ⟨v2, vs2, d2, ds2, p2, q2, rfl, rfl, rfl, h2, r2⟩ := trodAll_cons r1
  obtain ⟨rfl, rfl, rfl⟩ := trodAll_nil r2
  obtain rfl : args = #[v0, v1, v2] := by cases args; simp_all
  obtain ⟨rfl, rfl⟩ := trodVars_none hV
  obtain ⟨a0, rfl, rfl, rfl, w0⟩ := open_string Try.underlying9 (hval 0 9 v0 rfl rfl) h0
  obtain ⟨a1, rfl, rfl, rfl, w1⟩ := open_int Try.underlying3 (hval 1 3 v1 rfl rfl) h1
  obtain ⟨a2, rfl, rfl, rfl, w2⟩ := open_int Try.underlying3 (hval 2 3 v2 rfl rfl) h2
  clear hA0 hval0
  simp only [List.append_nil] at hW'
  refine (walk a0 a1 a2 w0 w1 w2 W).mono fun e W' ⟨he, bel⟩ => ?_
  subst he
  exact ⟨_, rfl, _, _, _, [], [], [], hW', trodAll_mk1 (shut_bool Try.underlying4 _), (trodAll_cons_mk (shut_string Try.underlying9 w0) (trodAll_cons_mk (shut_int Try.underlying3 w1) (trodAll_cons_mk (shut_int Try.underlying3 w2) trodAll_mk0))), rfl, bel.frame _, fun h => by cases h⟩

/-- The statement. -/
theorem proved : Rows.OctetEndsSaid :=
  OpenClaim.holds_of_wide 5 Try.f5 rfl rfl rfl rfl rfl rfl rfl ⟨rfl, rfl, rfl, rfl, rfl⟩ rfl rfl rfl rfl rfl (by kernel_rfl) Try.func5 (by kernel_rfl)
    (of_decide_eq_true (by kernel_rfl)) (by unfold Func.isWrapper; first | (rw [if_pos (by decide +kernel)]; kernel_rfl) | (rw [if_neg (by decide +kernel)]; exact ⟨rfl, rfl⟩))
    (fun os started H enc _ => lifted os started H enc)
#print axioms proved

end Go.Proofs.Ytkjcnhnpndcnmaa.octetEnds
