/- Pads holds: for every number, step, message, size and block, what Query, Answer and Room give is the document's own answer; the message that was handed in stays as it was. The rows of the message are within the form's reach. -/
import Derived.Test.YtcapankhobnfeaaXP14
import Derived.Test.YtcapankhobnfeaaXPdN
import Derived.Test.YtcapankhobnfeaaXPeE
import Derived.Test.YtcapankhobnfeaaXP7
import Derived.Test.YtcapankhobnfeaaXWiV
import Derived.ProofKit
import Derived.OpenShut
import Derived.ShutString
import Derived.SizedLaws
namespace Go.Proofs.Ytcapankhobnfeaa.pads
open Go.ChangeShapes Go.WideShapes Go.ChangeAt Go.RowKit
open Go.ChangeMaps (open_string shut_string)
open Pl

set_option maxRecDepth 20000 in
set_option maxHeartbeats 4000000 in
theorem w_all (id0 : Int) (n : ByteArray) (t : Int) (id : Int) (qr : Bool) (op : Int) (aa tc rd ra : Bool) (z rc : Int) (qs : List Qn) (an ns ar : List Rc) (v0 v1 v2 v3 : Value) (edns : Bool) (most size block : Int) (hn : n.size ≤ maxLen) (hs : size ≤ 9223372036854775807) (hbl : block ≤ 9223372036854775807) (w : World) (h0 : QRow w v0 qs) (h1 : RRow w v1 an) (h2 : RRow w v2 ns) (h3 : RRow w v3 ar)
    (zz : qs.length * 32 ≤ 140737488351232 ∧ an.length * 56 ≤ 140737488351232 ∧ ns.length * 56 ≤ 140737488351232 ∧ ar.length * 56 ≤ 140737488351232) :
    Calls Try.prog 3 #[.int .i64 id0, .agg #[.string n, .int .i64 t], .agg #[.int .i64 id, .bool qr, .int .i64 op, .bool aa, .bool tc, .bool rd, .bool ra, .int .i64 z, .int .i64 rc, v0, v1, v2, v3], .bool edns, .int .i64 most, .int .i64 size, .int .i64 block] w fun e w' => e = .returned (.bool true) ∧ Below w.heap.size w w' := by
  obtain ⟨x0, c0, rfl⟩ := row_slice h0.1
  obtain ⟨x1, c1, rfl⟩ := row_slice h1.1
  obtain ⟨x2, c2, rfl⟩ := row_slice h2.1
  obtain ⟨x3, c3, rfl⟩ := row_slice h3.1
  have H0 : Hid (QRow w (.slice x0 qs.length c0) qs) := h0
  have H1 : Hid (RRow w (.slice x1 an.length c1) an) := h1
  have H2 : Hid (RRow w (.slice x2 ns.length c2) ns) := h2
  have H3 : Hid (RRow w (.slice x3 ar.length c3) ar) := h3
  have ZZ : Hid (qs.length * 32 ≤ 140737488351232 ∧ an.length * 56 ≤ 140737488351232 ∧ ns.length * 56 ≤ 140737488351232 ∧ ar.length * 56 ≤ 140737488351232) := zz
  obtain ⟨T, hT⟩ : ∃ T, queT id0 n t = T := ⟨_, rfl⟩
  obtain ⟨E, hE⟩ : ∃ E, queE id0 n t = E := ⟨_, rfl⟩
  have Q1 := fun u => query_any id0 n t T E u hn hT hE
  have Q2 := fun u => refQuery_any id0 n t u hn
  rw [hT, hE] at Q2
  obtain ⟨TA, hTA⟩ : ∃ T, ansT ⟨⟨id, qr, op, aa, tc, rd, ra, z, rc⟩, qs, an, ns, ar⟩ edns most = T := ⟨_, rfl⟩
  obtain ⟨EA, hEA⟩ : ∃ E, ansE ⟨⟨id, qr, op, aa, tc, rd, ra, z, rc⟩, qs, an, ns, ar⟩ edns most = E := ⟨_, rfl⟩
  have A1 : ∀ (u : World) (u0 u1 u2 u3 : Value), Hid (QRow u u0 qs ∧ RRow u u1 an ∧ RRow u u2 ns ∧ RRow u u3 ar) → _ := fun u u0 u1 u2 u3 r => answer_any ⟨⟨id, qr, op, aa, tc, rd, ra, z, rc⟩, qs, an, ns, ar⟩ edns most u0 u1 u2 u3 TA EA u r.out.1 r.out.2.1 r.out.2.2.1 r.out.2.2.2 hTA hEA
  have A2 : ∀ (u : World) (u0 u1 u2 u3 : Value), Hid (QRow u u0 qs ∧ RRow u u1 an ∧ RRow u u2 ns ∧ RRow u u3 ar) → _ := fun u u0 u1 u2 u3 r => refAnswer_any ⟨⟨id, qr, op, aa, tc, rd, ra, z, rc⟩, qs, an, ns, ar⟩ edns most u0 u1 u2 u3 u r.out.1 r.out.2.1 r.out.2.2.1 r.out.2.2.2
  rw [hTA, hEA] at A2
  have R1 := fun u => pdRoom_any size block u hs hbl
  have R2 := fun u => refRoom_any size block u hs hbl
  obtain ⟨R, hR⟩ : ∃ R, roomI size block = R := ⟨_, rfl⟩
  rw [hR] at R1 R2
  unfold msgC at A1 A2
  simp only at A1 A2
  clear h0 h1 h2 h3 zz hT hE hTA hEA hR hn hs hbl
  have KS := Blk.new w #[.string n, .int .i64 t] 23
  have KB := Blk.new (w.alloc (.cells #[.string n, .int .i64 t] 23)) #[.int .i64 id, .bool qr, .int .i64 op, .bool aa, .bool tc, .bool rd, .bool ra, .int .i64 z, .int .i64 rc, .slice x0 qs.length c0, .slice x1 an.length c1, .slice x2 ns.length c2, .slice x3 ar.length c3] 29
  rw [World.size_alloc] at KB
  have hb := lay (lay (Below.refl w.heap.size w) (.cells #[.string n, .int .i64 t] 23)) (.cells #[.int .i64 id, .bool qr, .int .i64 op, .bool aa, .bool tc, .bool rd, .bool ra, .int .i64 z, .int .i64 rc, .slice x0 qs.length c0, .slice x1 an.length c1, .slice x2 ns.length c2, .slice x3 ar.length c3] 29)
  replace KS := KS.alloc (.cells #[.int .i64 id, .bool qr, .int .i64 op, .bool aa, .bool tc, .bool rd, .bool ra, .int .i64 z, .int .i64 rc, .slice x0 qs.length c0, .slice x1 an.length c1, .slice x2 ns.length c2, .slice x3 ar.length c3] 29)
  go_enter Try.func3, Try.ntmps3
  go_wp2_with (first
    | (go_at_call 9; go_must (refine (Q1 _).mono ?_); rintro e w1 ⟨rfl, bb⟩; replace KS := KS.below bb; replace KB := KB.below bb; replace hb := next hb bb; have s0 : w1.cell? ⟨w.heap.size, 0, none⟩ = some (.string n) := KS.cell 0; have s1 : w1.cell? ⟨w.heap.size, 1, none⟩ = some (.int .i64 t) := KS.cell 1; clear bb)
    | (go_at_call 10; go_must (refine (Q2 _).mono ?_); rintro e w2 ⟨rfl, bb⟩; replace KB := KB.below bb; replace hb := next hb bb; obtain ⟨d0, d1, d2, d3, d4, d5, d6, d7, d8, d9, d10, d11, d12⟩ := blk13 (h := ⟨id, qr, op, aa, tc, rd, ra, z, rc⟩) KB; simp only at d0 d1 d2 d3 d4 d5 d6 d7 d8; clear bb s0 s1 KS)
    | (go_at_call 11; go_must (refine (copyMsg_any id qr op aa tc rd ra z rc qs an ns ar _ _ _ _ _ (H0.out.below hb) (H1.out.below hb) (H2.out.below hb) (H3.out.below hb) ZZ.out.1 ZZ.out.2.1 ZZ.out.2.2.1 ZZ.out.2.2.2).mono ?_); rintro e w3 ⟨a0, a1, a2, a3, k0, k1, k2, k3, rfl, q0, q1, q2, q3, bb⟩; replace KB := (KB.below bb).alloc (.cells #[.int .i64 id, .bool qr, .int .i64 op, .bool aa, .bool tc, .bool rd, .bool ra, .int .i64 z, .int .i64 rc, .slice a0 qs.length k0, .slice a1 an.length k1, .slice a2 ns.length k2, .slice a3 ar.length k3] 29); replace hb := lay (next hb bb) (.cells #[.int .i64 id, .bool qr, .int .i64 op, .bool aa, .bool tc, .bool rd, .bool ra, .int .i64 z, .int .i64 rc, .slice a0 qs.length k0, .slice a1 an.length k1, .slice a2 ns.length k2, .slice a3 ar.length k3] 29); have KX := Blk.new w3 #[.int .i64 id, .bool qr, .int .i64 op, .bool aa, .bool tc, .bool rd, .bool ra, .int .i64 z, .int .i64 rc, .slice a0 qs.length k0, .slice a1 an.length k1, .slice a2 ns.length k2, .slice a3 ar.length k3] 29; have XX : Hid (QRow (w3.alloc (.cells #[.int .i64 id, .bool qr, .int .i64 op, .bool aa, .bool tc, .bool rd, .bool ra, .int .i64 z, .int .i64 rc, .slice a0 qs.length k0, .slice a1 an.length k1, .slice a2 ns.length k2, .slice a3 ar.length k3] 29)) (.slice a0 qs.length k0) qs ∧ RRow (w3.alloc (.cells #[.int .i64 id, .bool qr, .int .i64 op, .bool aa, .bool tc, .bool rd, .bool ra, .int .i64 z, .int .i64 rc, .slice a0 qs.length k0, .slice a1 an.length k1, .slice a2 ns.length k2, .slice a3 ar.length k3] 29)) (.slice a1 an.length k1) an ∧ RRow (w3.alloc (.cells #[.int .i64 id, .bool qr, .int .i64 op, .bool aa, .bool tc, .bool rd, .bool ra, .int .i64 z, .int .i64 rc, .slice a0 qs.length k0, .slice a1 an.length k1, .slice a2 ns.length k2, .slice a3 ar.length k3] 29)) (.slice a2 ns.length k2) ns ∧ RRow (w3.alloc (.cells #[.int .i64 id, .bool qr, .int .i64 op, .bool aa, .bool tc, .bool rd, .bool ra, .int .i64 z, .int .i64 rc, .slice a0 qs.length k0, .slice a1 an.length k1, .slice a2 ns.length k2, .slice a3 ar.length k3] 29)) (.slice a3 ar.length k3) ar) := ⟨q0.below (lay (Below.refl _ _) _), q1.below (lay (Below.refl _ _) _), q2.below (lay (Below.refl _ _) _), q3.below (lay (Below.refl _ _) _)⟩; clear bb q0 q1 q2 q3 d0 d1 d2 d3 d4 d5 d6 d7 d8 d9 d10 d11 d12)
    | (go_at_call 12; go_must (refine (A1 _ _ _ _ _ XX).mono ?_); rintro e w4 ⟨rfl, bb⟩; replace KB := KB.below bb; replace KX := KX.below bb; replace hb := next hb bb; have XY : Hid (QRow w4 (.slice a0 qs.length k0) qs ∧ RRow w4 (.slice a1 an.length k1) an ∧ RRow w4 (.slice a2 ns.length k2) ns ∧ RRow w4 (.slice a3 ar.length k3) ar) := ⟨XX.out.1.below bb, XX.out.2.1.below bb, XX.out.2.2.1.below bb, XX.out.2.2.2.below bb⟩; have YY : Hid (QRow w4 (.slice x0 qs.length c0) qs ∧ RRow w4 (.slice x1 an.length c1) an ∧ RRow w4 (.slice x2 ns.length c2) ns ∧ RRow w4 (.slice x3 ar.length c3) ar) := ⟨H0.out.below hb, H1.out.below hb, H2.out.below hb, H3.out.below hb⟩; obtain ⟨d0, d1, d2, d3, d4, d5, d6, d7, d8, d9, d10, d11, d12⟩ := blk13 (h := ⟨id, qr, op, aa, tc, rd, ra, z, rc⟩) KB; simp only at d0 d1 d2 d3 d4 d5 d6 d7 d8; clear bb XX)
    | (go_at_call 13; go_must (refine (A2 _ _ _ _ _ YY).mono ?_); rintro e w5 ⟨rfl, bb⟩; replace KB := KB.below bb; replace KX := KX.below bb; replace hb := next hb bb; have MA : Hid (MR w5 (.slice a0 qs.length k0) (.slice a1 an.length k1) (.slice a2 ns.length k2) (.slice a3 ar.length k3) ⟨⟨id, qr, op, aa, tc, rd, ra, z, rc⟩, qs, an, ns, ar⟩) := MRow.mr (m := ⟨⟨id, qr, op, aa, tc, rd, ra, z, rc⟩, qs, an, ns, ar⟩) (XY.out.1.below bb) (XY.out.2.1.below bb) (XY.out.2.2.1.below bb) (XY.out.2.2.2.below bb); have MB : Hid (MR w5 (.slice x0 qs.length c0) (.slice x1 an.length c1) (.slice x2 ns.length c2) (.slice x3 ar.length c3) ⟨⟨id, qr, op, aa, tc, rd, ra, z, rc⟩, qs, an, ns, ar⟩) := MRow.mr (m := ⟨⟨id, qr, op, aa, tc, rd, ra, z, rc⟩, qs, an, ns, ar⟩) (YY.out.1.below bb) (YY.out.2.1.below bb) (YY.out.2.2.1.below bb) (YY.out.2.2.2.below bb); clear d0 d1 d2 d3 d4 d5 d6 d7 d8 d9 d10 d11 d12; obtain ⟨d0, d1, d2, d3, d4, d5, d6, d7, d8, d9, d10, d11, d12⟩ := blk13 (h := ⟨id, qr, op, aa, tc, rd, ra, z, rc⟩) KB; simp only at d0 d1 d2 d3 d4 d5 d6 d7 d8; obtain ⟨e0, e1, e2, e3, e4, e5, e6, e7, e8, e9, e10, e11, e12⟩ := blk13 (h := ⟨id, qr, op, aa, tc, rd, ra, z, rc⟩) KX; simp only at e0 e1 e2 e3 e4 e5 e6 e7 e8; clear bb XY YY)
    | (go_at_call 15; go_must (refine (same_h id qr op aa tc rd ra z rc qs an ns ar _ _ _ _ _ _ _ _ _ MA.out MB.out).mono ?_); rintro e w6 ⟨rfl, bb⟩; replace hb := next hb bb; clear bb)
    | (go_at_call 16; go_must (refine (R1 _).mono ?_); rintro e w' ⟨rfl, hw⟩; obtain rfl := hw.symm)
    | (go_at_call 17; go_must (refine (R2 _).mono ?_); rintro e w7 ⟨rfl, bb⟩; replace hb := next hb bb; clear bb)
    | (go_at_call 18; go_must (refine (awake_any _).mono ?_); rintro e w8 ⟨rfl, bb⟩; replace hb := next hb bb; clear bb)
    | (go_at_call 14; refine (num_any _ _).mono ?_; rintro e w' ⟨rfl, hw⟩; obtain rfl := hw.symm))
  go_ret
  exact ⟨ret_bool (by simp), hb⟩

theorem int_top {x : Int} (h : (Lit.int .i64 x).wf = true) : x ≤ 9223372036854775807 := by
  simp [Lit.wf] at h
  omega
theorem walk (id0 : Int) (n : ByteArray) (t : Int) (m : Ms) (v0 v1 v2 v3 : Value) (edns : Bool) (most size block : Int) (_ : (Lit.int .i64 id0).wf = true) (hn : n.size ≤ maxLen) (_ : (Lit.int .i64 most).wf = true) (hs : (Lit.int .i64 size).wf = true) (hbl : (Lit.int .i64 block).wf = true) (zz : m.qs.length * 32 ≤ 140737488351232 ∧ m.an.length * 56 ≤ 140737488351232 ∧ m.ns.length * 56 ≤ 140737488351232 ∧ m.ar.length * 56 ≤ 140737488351232) (w : World) (h0 : QRow w v0 m.qs) (h1 : RRow w v1 m.an) (h2 : RRow w v2 m.ns) (h3 : RRow w v3 m.ar) :
    Calls Try.prog 3 #[.int .i64 id0, .agg #[.string n, .int .i64 t], .agg (msgC m.h v0 v1 v2 v3), .bool edns, .int .i64 most, .int .i64 size, .int .i64 block] w fun e w' => e = .returned (.bool true) ∧ Below w.heap.size w w' := by
  obtain ⟨⟨id, qr, op, aa, tc, rd, ra, z, rc⟩, qs, an, ns, ar⟩ := m
  exact w_all id0 n t id qr op aa tc rd ra z rc qs an ns ar v0 v1 v2 v3 edns most size block hn (int_top hs) (int_top hbl) w h0 h1 h2 h3 zz

theorem own : ownKnob Try.prog.godebug = none := by kernel_rfl
theorem laidOut : laidOutB Try.prog = true := by kernel_rfl

set_option maxRecDepth 100000 in
theorem lifted (os : Os) (started : os.Started) (H : Type) (enc : TypeId × Value → H) :
    ReturnsInHanded {} Try.checked os 3 .any (Rows.padsSpec.pre6 enc Try.prog Try.f3 Rows.padsRow.domain false) (Rows.padsSpec.post enc Try.prog Try.f3 false true false false) := by
  refine returnsInHanded_of_change_sized (C := Try.checked) own started (by kernel_rfl) Try.func3
    (ChangeSpec.witness6 (enc := enc) (C := Try.checked) false ⟨#[], #[.int .i64 0, .agg #[.string ByteArray.empty, .int .i64 0], .agg (msgC hdZ (.slice none 0 0) (.slice none 0 0) (.slice none 0 0) (.slice none 0 0)), .bool false, .int .i64 0, .int .i64 0, .int .i64 0], []⟩ 8 (by kernel_rfl) (by kernel_rfl) (by kernel_rfl) (by kernel_rfl)) ?_
  intro W base args ds gs before hval0 hW _ hsz0 _
  have hval : ∀ (j : Nat) t v, Try.f3.params[j]? = some t → args[j]? = some v → Value.okWide Try.prog W .any base t v := hval0
  have hsz : (DataW.weightsEach Try.prog (Try.f3.params.toList ++ Rows.padsSpec.plain.varTypes Try.prog) (ds ++ gs)).all (· ≤ reachBytes) = true := hsz0
  have hW' := hW
  obtain ⟨p, q, hA0, hV, rfl, hfz, hnd⟩ := hW
  have hA : DataW.TrodAll enc Try.prog W 0 (fun _ => true) true Try.f3.params.toList args.toList ds p := hA0
  rw [Try.params3] at hA hval hsz
  obtain ⟨v0, vs0, d0, ds0, p0, q0, hargs, rfl, rfl, h0, r0⟩ := trodAll_cons hA
  obtain ⟨v1, vs1, d1, ds1, p1, q1, rfl, rfl, rfl, h1, r1⟩ := trodAll_cons r0
  obtain ⟨v2, vs2, d2, ds2, p2, q2, rfl, rfl, rfl, h2, r2⟩ := trodAll_cons r1
  obtain ⟨v3, vs3, d3, ds3, p3, q3, rfl, rfl, rfl, h3, r3⟩ := trodAll_cons r2
  obtain ⟨v4, vs4, d4, ds4, p4, q4, rfl, rfl, rfl, h4, r4⟩ := trodAll_cons r3
  obtain ⟨v5, vs5, d5, ds5, p5, q5, rfl, rfl, rfl, h5, r5⟩ := trodAll_cons r4
  obtain ⟨v6, vs6, d6, ds6, p6, q6, rfl, rfl, rfl, h6, r6⟩ := trodAll_cons r5
  obtain ⟨rfl, rfl, rfl⟩ := trodAll_nil r6
  obtain rfl : args = #[v0, v1, v2, v3, v4, v5, v6] := by cases args; simp_all
  obtain ⟨rfl, rfl⟩ := trodVars_none hV
  obtain ⟨a0, rfl, rfl, rfl, w0⟩ := open_int Try.underlying3 (hval 0 3 v0 rfl rfl) h0
  obtain ⟨a1n, a1t, rfl, rfl, w1, y1⟩ := open_step (hval 1 23 v1 rfl rfl) h1
  obtain ⟨a2, b20, b21, b22, b23, rfl, w20, w21, w22, w23⟩ := open_msg (hval 2 29 v2 rfl rfl) h2
  obtain ⟨a3, rfl, rfl, rfl⟩ := open_bool Try.underlying4 (hval 3 4 v3 rfl rfl) h3
  obtain ⟨a4, rfl, rfl, rfl, w4⟩ := open_int Try.underlying3 (hval 4 3 v4 rfl rfl) h4
  obtain ⟨a5, rfl, rfl, rfl, w5⟩ := open_int Try.underlying3 (hval 5 3 v5 rfl rfl) h5
  obtain ⟨a6, rfl, rfl, rfl, w6⟩ := open_int Try.underlying3 (hval 6 3 v6 rfl rfl) h6
  have hlt2 : ∀ x ∈ p2, x.block < W.heap.size := fun x hx => by
    have := hW'.lt x (by simp [hx])
    simpa using this
  have z2 := msg_sized h2 (weights_all hsz (j := 2) rfl rfl) w20 w21 w22 w23
  clear hA0 hval0 hsz0 hsz
  simp only [List.append_nil] at hW'
  refine (walk a0 a1n a1t a2 b20 b21 b22 b23 a3 a4 a5 a6 w0 w1 w4 w5 w6 z2 W w20 w21 w22 w23).mono fun e W' ⟨he, bel⟩ => ?_
  subst he
  exact ⟨_, rfl, _, _, _, [], _, [], hW', trodAll_mk1 (shut_bool Try.underlying4 _), (trodAll_cons_mk (shut_int Try.underlying3 w0) (trodAll_cons_mk (Below.trod laidOut (by kernel_rfl) (of_decide_eq_true (by kernel_rfl)) h1 bel (by simp)) (trodAll_cons_mk (Below.trod laidOut (by kernel_rfl) (of_decide_eq_true (by kernel_rfl)) h2 bel hlt2) (trodAll_cons_mk (shut_bool Try.underlying4 _) (trodAll_cons_mk (shut_int Try.underlying3 w4) (trodAll_cons_mk (shut_int Try.underlying3 w5) (trodAll_cons_mk (shut_int Try.underlying3 w6) trodAll_mk0))))))), rfl, bel.frame _, fun h => by cases h⟩

/-- The statement. -/
theorem proved : Rows.PadsSaid :=
  OpenClaim.holds_of_wide 3 Try.f3 rfl rfl rfl rfl rfl rfl rfl ⟨rfl, rfl, rfl, rfl, rfl⟩ rfl rfl rfl rfl rfl (by kernel_rfl) Try.func3 (by kernel_rfl)
    (of_decide_eq_true (by kernel_rfl)) (by unfold Func.isWrapper; first | (rw [if_pos (by decide +kernel)]; kernel_rfl) | (rw [if_neg (by decide +kernel)]; exact ⟨rfl, rfl⟩))
    (fun os started H enc _ => lifted os started H enc)
#print axioms proved

end Go.Proofs.Ytcapankhobnfeaa.pads
