/- Heads holds: for every header, every four numbers and every string, Put and Get answer as the document's own PutHead and GetHead do. -/
import Derived.Test.YteonoplbmceekaaHdK
namespace Go.Proofs.Yteonoplbmceekaa.heads
open Go.ChangeShapes Go.WideShapes Go.ChangeAt Go.RowKit
open Go.ChangeMaps (open_string shut_string)

/-- What Get gives, as letters. -/
theorem get_form (s : ByteArray) : ∃ (id : Int) (qr : Bool) (op : Int) (aa tc rd ra : Bool) (z rc a b c d F : Int), getT s = .tuple #[.agg #[.int .i64 id, .bool qr, .int .i64 op, .bool aa, .bool tc, .bool rd, .bool ra, .int .i64 z, .int .i64 rc], .agg #[.int .i64 a, .int .i64 b, .int .i64 c, .int .i64 d], .int .i64 F] := by
  unfold getT
  split
  · exact ⟨_, _, _, _, _, _, _, _, _, _, _, _, _, 0, rfl⟩
  · exact ⟨_, _, _, _, _, _, _, _, _, _, _, _, _, 600, rfl⟩
/-- What Put gives, as letters. -/
theorem put_form (id : Int) (qr : Bool) (op : Int) (aa tc rd ra : Bool) (z rc a b c d : Int) : ∃ (S : ByteArray) (E : Int), putT id qr op aa tc rd ra z rc a b c d = .tuple #[.string S, .int .i64 E] := by
  unfold putT
  split
  · exact ⟨_, _, rfl⟩
  · exact ⟨_, _, rfl⟩

set_option maxRecDepth 20000 in
set_option maxHeartbeats 8000000 in
theorem walk (id : Int) (qr : Bool) (op : Int) (aa tc rd ra : Bool) (z rc a b c d : Int) (s : ByteArray) (_ : (Lit.int .i64 a).wf = true) (_ : (Lit.int .i64 b).wf = true) (_ : (Lit.int .i64 c).wf = true) (_ : (Lit.int .i64 d).wf = true) (hs : s.size ≤ maxLen) (w : World) :
    Calls Try.prog 3 #[.agg (headV id qr op aa tc rd ra z rc), .int .i64 a, .int .i64 b, .int .i64 c, .int .i64 d, .string s] w fun e w' => e = .returned (.bool true) ∧ Below w.heap.size w w' := by
  have hb : Below w.heap.size w w := Below.refl _ _
  have p1 := fun u => put_any id qr op aa tc rd ra z rc a b c d u
  have p2 := fun u => refPut_any id qr op aa tc rd ra z rc a b c d u
  obtain ⟨S, E, hp⟩ := put_form id qr op aa tc rd ra z rc a b c d
  have g1 := fun u => get_any s u hs
  have g2 := fun u => refGet_any s u hs
  obtain ⟨i0, i1, i2, i3, i4, i5, i6, i7, i8, y0, y1, y2, y3, F, hg⟩ := get_form s
  simp only [hp] at p1 p2
  simp only [hg] at g1 g2
  clear hp hg
  have q4 := eq4
  unfold headV cntV at p1 p2
  unfold headV
  have kh := (Blk.new w #[.int .i64 id, .bool qr, .int .i64 op, .bool aa, .bool tc, .bool rd, .bool ra, .int .i64 z, .int .i64 rc] 23).alloc (.cells #[.int .i64 a, .int .i64 b, .int .i64 c, .int .i64 d] 24)
  have kc := Blk.new (w.alloc (.cells #[.int .i64 id, .bool qr, .int .i64 op, .bool aa, .bool tc, .bool rd, .bool ra, .int .i64 z, .int .i64 rc] 23)) #[.int .i64 a, .int .i64 b, .int .i64 c, .int .i64 d] 24
  rw [show (w.alloc (.cells #[.int .i64 id, .bool qr, .int .i64 op, .bool aa, .bool tc, .bool rd, .bool ra, .int .i64 z, .int .i64 rc] 23)).heap.size = w.heap.size + 1 from by simp] at kc
  go_enter Try.func3, Try.ntmps3
  go_wp2_with (first
    | (go_at_call 7; go_must (refine (p1 _).mono ?_); rintro e w1 ⟨rfl, b1⟩; replace hb := next (lay (lay hb _) _) b1; replace kh := kh.below b1; replace kc := kc.below b1; obtain ⟨c0, c1, c2, c3, c4, c5, c6, c7, c8⟩ := Blk.nine kh; obtain ⟨d0, d1, d2, d3⟩ := Blk.four kc; clear b1)
    | (go_at_call 8; go_must (refine (p2 _).mono ?_); rintro e w2 ⟨rfl, b2⟩; replace hb := next hb b2; clear b2 kh kc c0 c1 c2 c3 c4 c5 c6 c7 c8 d0 d1 d2 d3)
    | (go_at_call 9; go_must (refine (g1 _).mono ?_); rintro e w3 ⟨rfl, b3⟩; replace hb := next hb b3; clear b3)
    | (go_at_call 10; go_must (refine (g2 _).mono ?_); rintro e w4 ⟨rfl, b4⟩; replace hb := next (lay (lay hb _) _) b4; have kh := ((Blk.new w3 (headV i0 i1 i2 i3 i4 i5 i6 i7 i8) 23).alloc _).below b4; have kc := (Blk.new (w3.alloc (.cells (headV i0 i1 i2 i3 i4 i5 i6 i7 i8) 23)) (cntV y0 y1 y2 y3) 24).below b4; have zz : (w3.alloc (.cells (headV i0 i1 i2 i3 i4 i5 i6 i7 i8) 23)).heap.size = w3.heap.size + 1 := (by simp); rw [zz] at kc; have l1 := kh.lt; have l2 := kc.lt; obtain ⟨c0, c1, c2, c3, c4, c5, c6, c7, c8⟩ := Blk.nine kh; obtain ⟨d0, d1, d2, d3⟩ := Blk.four kc; clear b4 zz)
    | (go_at_call 12; go_must (refine (awake_any _).mono ?_); rintro e w5 ⟨rfl, b5⟩; replace hb := next (lay (lay hb _) _) b5; clear b5)
    | (go_at_call 11; refine (num_any _ _).mono ?_; rintro e w' ⟨rfl, hw⟩; obtain rfl := hw.symm))
  go_ret
  exact ⟨ret_bool (by simp), hb⟩

theorem own : ownKnob Try.prog.godebug = none := by kernel_rfl
theorem laidOut : laidOutB Try.prog = true := by kernel_rfl

set_option maxRecDepth 100000 in
theorem lifted (os : Os) (started : os.Started) (H : Type) (enc : TypeId × Value → H) :
    ReturnsInHanded {} Try.checked os 3 .any (Rows.headsSpec.pre6 enc Try.prog Try.f3 Rows.headsRow.domain false) (Rows.headsSpec.post enc Try.prog Try.f3 false true false false) := by
  refine returnsInHanded_of_change (C := Try.checked) own started (by kernel_rfl) Try.func3
    (ChangeSpec.witness6 (enc := enc) (C := Try.checked) false ⟨#[], #[.agg headZ, .int .i64 0, .int .i64 0, .int .i64 0, .int .i64 0, .string ByteArray.empty], []⟩ 8 (by kernel_rfl) (by kernel_rfl) (by kernel_rfl) (by kernel_rfl)) ?_
  intro W base args ds gs before hval0 hW _ _
  have hval : ∀ (j : Nat) t v, Try.f3.params[j]? = some t → args[j]? = some v → Value.okWide Try.prog W .any base t v := hval0
  have hW' := hW
  obtain ⟨p, q, hA0, hV, rfl, hfz, hnd⟩ := hW
  have hA : DataW.TrodAll enc Try.prog W 0 (fun _ => true) true Try.f3.params.toList args.toList ds p := hA0
  rw [Try.params3] at hA hval
  obtain ⟨v0, vs0, d0, ds0, p0, q0, hargs, rfl, rfl, h0, r0⟩ := trodAll_cons hA
  obtain ⟨v1, vs1, d1, ds1, p1, q1, rfl, rfl, rfl, h1, r1⟩ := trodAll_cons r0
  obtain ⟨v2, vs2, d2, ds2, p2, q2, rfl, rfl, rfl, h2, r2⟩ := trodAll_cons r1
  obtain ⟨v3, vs3, d3, ds3, p3, q3, rfl, rfl, rfl, h3, r3⟩ := trodAll_cons r2
  obtain ⟨v4, vs4, d4, ds4, p4, q4, rfl, rfl, rfl, h4, r4⟩ := trodAll_cons r3
  obtain ⟨v5, vs5, d5, ds5, p5, q5, rfl, rfl, rfl, h5, r5⟩ := trodAll_cons r4
  obtain ⟨rfl, rfl, rfl⟩ := trodAll_nil r5
  obtain rfl : args = #[v0, v1, v2, v3, v4, v5] := by cases args; simp_all
  obtain ⟨rfl, rfl⟩ := trodVars_none hV
  obtain ⟨a0i, a0q, a0o, a0a, a0t, a0d, a0r, a0z, a0c, rfl, rfl⟩ := open_head (hval 0 23 v0 rfl rfl) h0
  obtain ⟨a1, rfl, rfl, rfl, w1⟩ := open_int Try.underlying3 (hval 1 3 v1 rfl rfl) h1
  obtain ⟨a2, rfl, rfl, rfl, w2⟩ := open_int Try.underlying3 (hval 2 3 v2 rfl rfl) h2
  obtain ⟨a3, rfl, rfl, rfl, w3⟩ := open_int Try.underlying3 (hval 3 3 v3 rfl rfl) h3
  obtain ⟨a4, rfl, rfl, rfl, w4⟩ := open_int Try.underlying3 (hval 4 3 v4 rfl rfl) h4
  obtain ⟨a5, rfl, rfl, rfl, w5⟩ := open_string Try.underlying9 (hval 5 9 v5 rfl rfl) h5
  clear hA0 hval0
  simp only [List.append_nil] at hW'
  refine (walk a0i a0q a0o a0a a0t a0d a0r a0z a0c a1 a2 a3 a4 a5 w1 w2 w3 w4 w5 W ).mono fun e W' ⟨he, bel⟩ => ?_
  subst he
  exact ⟨_, rfl, _, _, _, [], [], [], hW', trodAll_mk1 (shut_bool Try.underlying4 _), (trodAll_cons_mk (Below.trod laidOut (by kernel_rfl) (of_decide_eq_true (by kernel_rfl)) h0 bel (by simp)) (trodAll_cons_mk (shut_int Try.underlying3 w1) (trodAll_cons_mk (shut_int Try.underlying3 w2) (trodAll_cons_mk (shut_int Try.underlying3 w3) (trodAll_cons_mk (shut_int Try.underlying3 w4) (trodAll_cons_mk (shut_string Try.underlying9 w5) trodAll_mk0)))))), rfl, bel.frame _, fun h => by cases h⟩

/-- The statement. -/
theorem proved : Rows.HeadsSaid :=
  OpenClaim.holds_of_wide 3 Try.f3 rfl rfl rfl rfl rfl rfl rfl ⟨rfl, rfl, rfl, rfl, rfl⟩ rfl rfl rfl rfl rfl (by kernel_rfl) Try.func3 (by kernel_rfl)
    (of_decide_eq_true (by kernel_rfl)) (by unfold Func.isWrapper; first | (rw [if_pos (by decide +kernel)]; kernel_rfl) | (rw [if_neg (by decide +kernel)]; exact ⟨rfl, rfl⟩))
    (fun os started H enc _ => lifted os started H enc)
#print axioms proved

end Go.Proofs.Yteonoplbmceekaa.heads
