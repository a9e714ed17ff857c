/- WireBack holds: for every message, text and number, what was written is read again, what is cut is not, and what was read is written again, or is too long, and read alike. -/
import Derived.Test.YtdogjbblnjjaaaaXP15
import Derived.ProofKit
import Derived.OpenShut
import Derived.ShutString
namespace Go.Proofs.Ytdogjbblnjjaaaa.wireBack
open Go.ChangeShapes Go.WideShapes Go.ChangeAt Go.RowKit
open Go.ChangeMaps (open_string shut_string)
open Pl

set_option maxRecDepth 20000 in
set_option maxHeartbeats 4000000 in
theorem w_a1 (id : Int) (qr : Bool) (op : Int) (aa tc rd ra : Bool) (z rc : Int) (qs : List Qn) (an ns ar : List Rc) (v0 v1 v2 v3 : Value) (s : ByteArray) (y : Int) (hs : s.size ≤ maxLen) (w : World) (h0 : QRow w v0 qs) (h1 : RRow w v1 an) (h2 : RRow w v2 ns) (h3 : RRow w v3 ar) (hcase : ∃ T : ByteArray, putV ⟨⟨id, qr, op, aa, tc, rd, ra, z, rc⟩, qs, an, ns, ar⟩ = .tuple #[.string T, .int .i64 0] ∧ getM T = some ⟨⟨id, qr, op, aa, tc, rd, ra, z, rc⟩, qs, an, ns, ar⟩ ∧ T.size ≤ 4096 ∧ 12 ≤ T.size) (hgs : ∃ (x : Ms) (U : ByteArray), gM s = x ∧ gE s = 0 ∧ mayM x = true ∧ putV x = .tuple #[.string U, .int .i64 0] ∧ gM U = x ∧ gE U = 0 ∧ U.size ≤ 4096) :
    Calls Try.prog 4 #[.agg #[.int .i64 id, .bool qr, .int .i64 op, .bool aa, .bool tc, .bool rd, .bool ra, .int .i64 z, .int .i64 rc, v0, v1, v2, v3], .string s, .int .i64 y] w fun e w' => e = .returned (.bool true) ∧ Below w.heap.size w w' := by
  have hb : Below w.heap.size w w := Below.refl _ _
  obtain ⟨x0, c0, rfl⟩ := row_slice h0.1
  obtain ⟨x1, c1, rfl⟩ := row_slice h1.1
  obtain ⟨x2, c2, rfl⟩ := row_slice h2.1
  obtain ⟨x3, c3, rfl⟩ := row_slice h3.1
  have H0 : Hid (QRow w (.slice x0 qs.length c0) qs) := h0
  have H1 : Hid (RRow w (.slice x1 an.length c1) an) := h1
  have H2 : Hid (RRow w (.slice x2 ns.length c2) ns) := h2
  have H3 : Hid (RRow w (.slice x3 ar.length c3) ar) := h3
  obtain ⟨T, hp, hg, hT1, hT2⟩ := hcase
  obtain ⟨E, hE⟩ : ∃ E : Int, E = 0 := ⟨_, rfl⟩
  have HP : Hid (putV ⟨⟨id, qr, op, aa, tc, rd, ra, z, rc⟩, qs, an, ns, ar⟩ = .tuple #[.string T, .int .i64 E]) := by unfold Hid; rw [hE]; exact hp
  have HGT : Hid _ := g_some hT1 hg
  have HFEW : Hid _ := may_few (get_may hg)
  have hTm : T.size ≤ maxLen := small100 (by omega)
  obtain ⟨k, hk, hkv⟩ : ∃ k : Nat, k < T.size ∧ (IntKind.u64.wrap y).tmod (T.size : Int) = (k : Int) := by
    have h0 : 0 ≤ IntKind.u64.wrap y := by simp [IntKind.wrap, IntKind.bits, IntKind.signed]; omega
    rw [Int.tmod_eq_emod_of_nonneg h0]
    have h1 := Int.emod_nonneg (IntKind.u64.wrap y) (b := (T.size : Int)) (by omega)
    have h2 := Int.emod_lt_of_pos (IntKind.u64.wrap y) (b := (T.size : Int)) (by omega)
    exact ⟨((IntKind.u64.wrap y) % (T.size : Int)).toNat, by omega, by omega⟩
  have hkw : wrap64 (k : Int) = (k : Int) := by unfold wrap64; omega
  have hcut := cut_to T k k rfl (by omega)
  have HCUT : Hid _ := g_none (s := T.extract 0 k) (by simp; omega) (get_cut hg hk)
  have hCm : (T.extract 0 k).size ≤ maxLen := small100 (by simp; omega)
  subst hE
  clear hp hg
  obtain ⟨x, U, hx, hx0, hxm, hxp, hu1, hu2, hu3⟩ := hgs
  have hUm : U.size ≤ maxLen := small100 (by omega)
  obtain ⟨E2, hE2⟩ : ∃ E2 : Int, E2 = 0 := ⟨_, rfl⟩
  rw [← hE2] at hxp
  obtain ⟨⟨id2, qr2, op2, aa2, tc2, rd2, ra2, z2, rc2⟩, qs2, an2, ns2, ar2⟩ := x
  have HGS : Hid (gM s = ⟨⟨id2, qr2, op2, aa2, tc2, rd2, ra2, z2, rc2⟩, qs2, an2, ns2, ar2⟩ ∧ gE s = 0) := ⟨hx, hx0⟩
  have HMX : Hid (mayM ⟨⟨id2, qr2, op2, aa2, tc2, rd2, ra2, z2, rc2⟩, qs2, an2, ns2, ar2⟩ = true) := hxm
  have HFEX : Hid _ := may_few hxm
  have HPX : Hid (putV ⟨⟨id2, qr2, op2, aa2, tc2, rd2, ra2, z2, rc2⟩, qs2, an2, ns2, ar2⟩ = .tuple #[.string U, .int .i64 E2]) := hxp
  have HGU : Hid (gM U = ⟨⟨id2, qr2, op2, aa2, tc2, rd2, ra2, z2, rc2⟩, qs2, an2, ns2, ar2⟩ ∧ gE U = 0) := ⟨hu1, hu2⟩
  clear hu1 hu2
  subst hE2
  clear hx hx0 hxm hxp
  have KB := Blk.new w #[.int .i64 id, .bool qr, .int .i64 op, .bool aa, .bool tc, .bool rd, .bool ra, .int .i64 z, .int .i64 rc, .slice x0 qs.length c0, .slice x1 an.length c1, .slice x2 ns.length c2, .slice x3 ar.length c3] 27
  have t1 : True := trivial
  have t2 : True := trivial
  have t3 : True := trivial
  have t4 : True := trivial
  have t5 : True := trivial
  clear h0 h1 h2 h3
  go_enter Try.func4, Try.ntmps4
  go_wp2_with (first
    | (go_at_call 14; refine (num_any _ _).mono ?_; rintro e w' ⟨rfl, hw⟩; obtain rfl := hw.symm)
    | (go_at_call 17; go_must (refine (awake_any _).mono ?_); rintro e w0 ⟨rfl, bb⟩; replace hb := next (lay hb _) bb; replace KB := KB.below bb; have m0 : w0.cell? ⟨w.heap.size, 0, none⟩ = some (.int .i64 id) := KB.cell 0; have m1 : w0.cell? ⟨w.heap.size, 1, none⟩ = some (.bool qr) := KB.cell 1; have m2 : w0.cell? ⟨w.heap.size, 2, none⟩ = some (.int .i64 op) := KB.cell 2; have m3 : w0.cell? ⟨w.heap.size, 3, none⟩ = some (.bool aa) := KB.cell 3; have m4 : w0.cell? ⟨w.heap.size, 4, none⟩ = some (.bool tc) := KB.cell 4; have m5 : w0.cell? ⟨w.heap.size, 5, none⟩ = some (.bool rd) := KB.cell 5; have m6 : w0.cell? ⟨w.heap.size, 6, none⟩ = some (.bool ra) := KB.cell 6; have m7 : w0.cell? ⟨w.heap.size, 7, none⟩ = some (.int .i64 z) := KB.cell 7; have m8 : w0.cell? ⟨w.heap.size, 8, none⟩ = some (.int .i64 rc) := KB.cell 8; have m9 : w0.cell? ⟨w.heap.size, 9, none⟩ = some (.slice x0 qs.length c0) := KB.cell 9; have m10 : w0.cell? ⟨w.heap.size, 10, none⟩ = some (.slice x1 an.length c1) := KB.cell 10; have m11 : w0.cell? ⟨w.heap.size, 11, none⟩ = some (.slice x2 ns.length c2) := KB.cell 11; have m12 : w0.cell? ⟨w.heap.size, 12, none⟩ = some (.slice x3 ar.length c3) := KB.cell 12; clear bb)
    | (go_at_call 10; have _t := t1; go_must (refine (put_h id qr op aa tc rd ra z rc qs an ns ar T _ _ _ _ _ _ HP.out (H0.out.below hb) (H1.out.below hb) (H2.out.below hb) (H3.out.below hb)).mono ?_); rintro e w1 ⟨rfl, bb⟩; replace hb := next hb bb; replace KB := KB.below bb; clear m0 m1 m2 m3 m4 m5 m6 m7 m8 m9 m10 m11 m12; clear bb t1 _t)
    | (go_at_call 12; have _t := t2; go_must (refine (get_h T id qr op aa tc rd ra z rc qs an ns ar 0 _ hTm HGT.out).mono ?_); rintro e w2 ⟨y0, y1, y2, y3, n0, n1, n2, n3, k0, k1, k2, k3, rfl, oo, bb⟩; replace hb := next hb bb; replace KB := KB.below bb; have O2 : Hid (MR w2 (.slice y0 n0 k0) (.slice y1 n1 k1) (.slice y2 n2 k2) (.slice y3 n3 k3) ⟨⟨id, qr, op, aa, tc, rd, ra, z, rc⟩, qs, an, ns, ar⟩) := oo.mr HFEW.out; have hb2 : Below w2.heap.size w2 w2 := Below.refl _ _; have KX := Blk.new w2 #[.int .i64 id, .bool qr, .int .i64 op, .bool aa, .bool tc, .bool rd, .bool ra, .int .i64 z, .int .i64 rc, .slice y0 n0 k0, .slice y1 n1 k1, .slice y2 n2 k2, .slice y3 n3 k3] 27; clear oo; clear bb t2 _t)
    | (go_at_call 12; have _t := t3; go_must (refine (get_kz (T.extract 0 k) _ _ _ hCm HCUT.out rfl).mono ?_); rintro e w3 ⟨a0, a1, a2, a3, b0, b1, b2, b3, e0, e1, e2, e3, rfl, -, bb⟩; replace hb := next (lay hb _) bb; replace hb2 := next (lay hb2 _) bb; replace KB := (KB.alloc _).below bb; replace KX := KX.below bb; have ltB := KB.lt; have ltX := KX.lt; have m0 : w3.cell? ⟨w.heap.size, 0, none⟩ = some (.int .i64 id) := KB.cell 0; have m1 : w3.cell? ⟨w.heap.size, 1, none⟩ = some (.bool qr) := KB.cell 1; have m2 : w3.cell? ⟨w.heap.size, 2, none⟩ = some (.int .i64 op) := KB.cell 2; have m3 : w3.cell? ⟨w.heap.size, 3, none⟩ = some (.bool aa) := KB.cell 3; have m4 : w3.cell? ⟨w.heap.size, 4, none⟩ = some (.bool tc) := KB.cell 4; have m5 : w3.cell? ⟨w.heap.size, 5, none⟩ = some (.bool rd) := KB.cell 5; have m6 : w3.cell? ⟨w.heap.size, 6, none⟩ = some (.bool ra) := KB.cell 6; have m7 : w3.cell? ⟨w.heap.size, 7, none⟩ = some (.int .i64 z) := KB.cell 7; have m8 : w3.cell? ⟨w.heap.size, 8, none⟩ = some (.int .i64 rc) := KB.cell 8; have m9 : w3.cell? ⟨w.heap.size, 9, none⟩ = some (.slice x0 qs.length c0) := KB.cell 9; have m10 : w3.cell? ⟨w.heap.size, 10, none⟩ = some (.slice x1 an.length c1) := KB.cell 10; have m11 : w3.cell? ⟨w.heap.size, 11, none⟩ = some (.slice x2 ns.length c2) := KB.cell 11; have m12 : w3.cell? ⟨w.heap.size, 12, none⟩ = some (.slice x3 ar.length c3) := KB.cell 12; have xc0 : w3.cell? ⟨w2.heap.size, 0, none⟩ = some (.int .i64 id) := KX.cell 0; have xc1 : w3.cell? ⟨w2.heap.size, 1, none⟩ = some (.bool qr) := KX.cell 1; have xc2 : w3.cell? ⟨w2.heap.size, 2, none⟩ = some (.int .i64 op) := KX.cell 2; have xc3 : w3.cell? ⟨w2.heap.size, 3, none⟩ = some (.bool aa) := KX.cell 3; have xc4 : w3.cell? ⟨w2.heap.size, 4, none⟩ = some (.bool tc) := KX.cell 4; have xc5 : w3.cell? ⟨w2.heap.size, 5, none⟩ = some (.bool rd) := KX.cell 5; have xc6 : w3.cell? ⟨w2.heap.size, 6, none⟩ = some (.bool ra) := KX.cell 6; have xc7 : w3.cell? ⟨w2.heap.size, 7, none⟩ = some (.int .i64 z) := KX.cell 7; have xc8 : w3.cell? ⟨w2.heap.size, 8, none⟩ = some (.int .i64 rc) := KX.cell 8; have xc9 : w3.cell? ⟨w2.heap.size, 9, none⟩ = some (.slice y0 n0 k0) := KX.cell 9; have xc10 : w3.cell? ⟨w2.heap.size, 10, none⟩ = some (.slice y1 n1 k1) := KX.cell 10; have xc11 : w3.cell? ⟨w2.heap.size, 11, none⟩ = some (.slice y2 n2 k2) := KX.cell 11; have xc12 : w3.cell? ⟨w2.heap.size, 12, none⟩ = some (.slice y3 n3 k3) := KX.cell 12; clear bb t3 _t)
    | (go_at_call 15; have _t := t4; go_must (refine (same_h id qr op aa tc rd ra z rc qs an ns ar _ _ _ _ _ _ _ _ _ (O2.out.below (lay hb2 _)) (MRow.mr (m := ⟨⟨id, qr, op, aa, tc, rd, ra, z, rc⟩, qs, an, ns, ar⟩) (H0.out.below (lay hb _)) (H1.out.below (lay hb _)) (H2.out.below (lay hb _)) (H3.out.below (lay hb _)))).mono ?_); rintro e w4 ⟨rfl, bb⟩; replace hb := next (lay hb _) bb; replace hb2 := next (lay hb2 _) bb; clear hb2 KB KX O2 ltB ltX m0 xc0 m1 xc1 m2 xc2 m3 xc3 m4 xc4 m5 xc5 m6 xc6 m7 xc7 m8 xc8 m9 xc9 m10 xc10 m11 xc11 m12 xc12; clear bb t4 _t)
    | (go_at_call 12; have _t := t5; go_must (refine (get_h s id2 qr2 op2 aa2 tc2 rd2 ra2 z2 rc2 qs2 an2 ns2 ar2 0 _ hs HGS.out).mono ?_); rintro e w5 ⟨f0, f1, f2, f3, g0, g1, g2, g3, h0, h1, h2, h3, rfl, oo, bb⟩; replace hb := next hb bb; obtain ⟨r0, r1, r2, r3⟩ := own_q oo HMX.out; have R0 : Hid (QRow w5 (.slice f0 g0 h0) qs2) := r0; have R1 : Hid (RRow w5 (.slice f1 g1 h1) an2) := r1; have R2 : Hid (RRow w5 (.slice f2 g2 h2) ns2) := r2; have R3 : Hid (RRow w5 (.slice f3 g3 h3) ar2) := r3; have O5 : Hid (MR w5 (.slice f0 g0 h0) (.slice f1 g1 h1) (.slice f2 g2 h2) (.slice f3 g3 h3) ⟨⟨id2, qr2, op2, aa2, tc2, rd2, ra2, z2, rc2⟩, qs2, an2, ns2, ar2⟩) := oo.mr HFEX.out; have hb5 : Below w5.heap.size w5 w5 := Below.refl _ _; clear oo r0 r1 r2 r3; clear bb t5 _t)
    | (go_at_call 10; go_must (refine (put_h id2 qr2 op2 aa2 tc2 rd2 ra2 z2 rc2 qs2 an2 ns2 ar2 U _ _ _ _ _ _ HPX.out (R0.out.below (lay hb5 _)) (R1.out.below (lay hb5 _)) (R2.out.below (lay hb5 _)) (R3.out.below (lay hb5 _))).mono ?_); rintro e w6 ⟨rfl, bb⟩; replace hb := next (lay hb _) bb; replace hb5 := next (lay hb5 _) bb; have K5 := (Blk.new w5 #[.int .i64 id2, .bool qr2, .int .i64 op2, .bool aa2, .bool tc2, .bool rd2, .bool ra2, .int .i64 z2, .int .i64 rc2, .slice f0 g0 h0, .slice f1 g1 h1, .slice f2 g2 h2, .slice f3 g3 h3] 27).below bb; clear bb)
    | (go_at_call 12; go_must (refine (get_h U id2 qr2 op2 aa2 tc2 rd2 ra2 z2 rc2 qs2 an2 ns2 ar2 0 _ hUm HGU.out).mono ?_); rintro e w7 ⟨i0, i1, i2, i3, j0, j1, j2, j3, l0, l1, l2, l3, rfl, oo, bb⟩; replace hb := next hb bb; replace hb5 := next hb5 bb; replace K5 := K5.below bb; have O7 : Hid (MR w7 (.slice i0 j0 l0) (.slice i1 j1 l1) (.slice i2 j2 l2) (.slice i3 j3 l3) ⟨⟨id2, qr2, op2, aa2, tc2, rd2, ra2, z2, rc2⟩, qs2, an2, ns2, ar2⟩) := oo.mr HFEX.out; have lt5 := K5.lt; have q0 : w7.cell? ⟨w5.heap.size, 0, none⟩ = some (.int .i64 id2) := K5.cell 0; have q1 : w7.cell? ⟨w5.heap.size, 1, none⟩ = some (.bool qr2) := K5.cell 1; have q2 : w7.cell? ⟨w5.heap.size, 2, none⟩ = some (.int .i64 op2) := K5.cell 2; have q3 : w7.cell? ⟨w5.heap.size, 3, none⟩ = some (.bool aa2) := K5.cell 3; have q4 : w7.cell? ⟨w5.heap.size, 4, none⟩ = some (.bool tc2) := K5.cell 4; have q5 : w7.cell? ⟨w5.heap.size, 5, none⟩ = some (.bool rd2) := K5.cell 5; have q6 : w7.cell? ⟨w5.heap.size, 6, none⟩ = some (.bool ra2) := K5.cell 6; have q7 : w7.cell? ⟨w5.heap.size, 7, none⟩ = some (.int .i64 z2) := K5.cell 7; have q8 : w7.cell? ⟨w5.heap.size, 8, none⟩ = some (.int .i64 rc2) := K5.cell 8; have q9 : w7.cell? ⟨w5.heap.size, 9, none⟩ = some (.slice f0 g0 h0) := K5.cell 9; have q10 : w7.cell? ⟨w5.heap.size, 10, none⟩ = some (.slice f1 g1 h1) := K5.cell 10; have q11 : w7.cell? ⟨w5.heap.size, 11, none⟩ = some (.slice f2 g2 h2) := K5.cell 11; have q12 : w7.cell? ⟨w5.heap.size, 12, none⟩ = some (.slice f3 g3 h3) := K5.cell 12; clear oo; clear bb)
    | (go_at_call 15; go_must (refine (same_h id2 qr2 op2 aa2 tc2 rd2 ra2 z2 rc2 qs2 an2 ns2 ar2 _ _ _ _ _ _ _ _ _ (O7.out.below (lay (Below.refl _ _) _)) (O5.out.below (lay hb5 _))).mono ?_); rintro e w8 ⟨rfl, bb⟩; replace hb := next (lay hb _) bb; replace hb5 := next (lay hb5 _) bb; clear bb))
  go_ret
  exact ⟨ret_bool (by simp), hb⟩

set_option maxRecDepth 20000 in
set_option maxHeartbeats 4000000 in
theorem w_a2 (id : Int) (qr : Bool) (op : Int) (aa tc rd ra : Bool) (z rc : Int) (qs : List Qn) (an ns ar : List Rc) (v0 v1 v2 v3 : Value) (s : ByteArray) (y : Int) (hs : s.size ≤ maxLen) (w : World) (h0 : QRow w v0 qs) (h1 : RRow w v1 an) (h2 : RRow w v2 ns) (h3 : RRow w v3 ar) (hcase : ∃ T : ByteArray, putV ⟨⟨id, qr, op, aa, tc, rd, ra, z, rc⟩, qs, an, ns, ar⟩ = .tuple #[.string T, .int .i64 0] ∧ getM T = some ⟨⟨id, qr, op, aa, tc, rd, ra, z, rc⟩, qs, an, ns, ar⟩ ∧ T.size ≤ 4096 ∧ 12 ≤ T.size) (hgs : ∃ x : Ms, gM s = x ∧ gE s = 0 ∧ mayM x = true ∧ putV x = .tuple #[.string ⟨#[]⟩, .int .i64 701]) :
    Calls Try.prog 4 #[.agg #[.int .i64 id, .bool qr, .int .i64 op, .bool aa, .bool tc, .bool rd, .bool ra, .int .i64 z, .int .i64 rc, v0, v1, v2, v3], .string s, .int .i64 y] w fun e w' => e = .returned (.bool true) ∧ Below w.heap.size w w' := by
  have hb : Below w.heap.size w w := Below.refl _ _
  obtain ⟨x0, c0, rfl⟩ := row_slice h0.1
  obtain ⟨x1, c1, rfl⟩ := row_slice h1.1
  obtain ⟨x2, c2, rfl⟩ := row_slice h2.1
  obtain ⟨x3, c3, rfl⟩ := row_slice h3.1
  have H0 : Hid (QRow w (.slice x0 qs.length c0) qs) := h0
  have H1 : Hid (RRow w (.slice x1 an.length c1) an) := h1
  have H2 : Hid (RRow w (.slice x2 ns.length c2) ns) := h2
  have H3 : Hid (RRow w (.slice x3 ar.length c3) ar) := h3
  obtain ⟨T, hp, hg, hT1, hT2⟩ := hcase
  obtain ⟨E, hE⟩ : ∃ E : Int, E = 0 := ⟨_, rfl⟩
  have HP : Hid (putV ⟨⟨id, qr, op, aa, tc, rd, ra, z, rc⟩, qs, an, ns, ar⟩ = .tuple #[.string T, .int .i64 E]) := by unfold Hid; rw [hE]; exact hp
  have HGT : Hid _ := g_some hT1 hg
  have HFEW : Hid _ := may_few (get_may hg)
  have hTm : T.size ≤ maxLen := small100 (by omega)
  obtain ⟨k, hk, hkv⟩ : ∃ k : Nat, k < T.size ∧ (IntKind.u64.wrap y).tmod (T.size : Int) = (k : Int) := by
    have h0 : 0 ≤ IntKind.u64.wrap y := by simp [IntKind.wrap, IntKind.bits, IntKind.signed]; omega
    rw [Int.tmod_eq_emod_of_nonneg h0]
    have h1 := Int.emod_nonneg (IntKind.u64.wrap y) (b := (T.size : Int)) (by omega)
    have h2 := Int.emod_lt_of_pos (IntKind.u64.wrap y) (b := (T.size : Int)) (by omega)
    exact ⟨((IntKind.u64.wrap y) % (T.size : Int)).toNat, by omega, by omega⟩
  have hkw : wrap64 (k : Int) = (k : Int) := by unfold wrap64; omega
  have hcut := cut_to T k k rfl (by omega)
  have HCUT : Hid _ := g_none (s := T.extract 0 k) (by simp; omega) (get_cut hg hk)
  have hCm : (T.extract 0 k).size ≤ maxLen := small100 (by simp; omega)
  subst hE
  clear hp hg
  obtain ⟨x, hx, hx0, hxm, hxp⟩ := hgs
  obtain ⟨U, hU⟩ : ∃ U : ByteArray, U = ⟨#[]⟩ := ⟨_, rfl⟩
  rw [← hU] at hxp
  obtain ⟨E2, hE2⟩ : ∃ E2 : Int, E2 = 701 := ⟨_, rfl⟩
  rw [← hE2] at hxp
  obtain ⟨⟨id2, qr2, op2, aa2, tc2, rd2, ra2, z2, rc2⟩, qs2, an2, ns2, ar2⟩ := x
  have HGS : Hid (gM s = ⟨⟨id2, qr2, op2, aa2, tc2, rd2, ra2, z2, rc2⟩, qs2, an2, ns2, ar2⟩ ∧ gE s = 0) := ⟨hx, hx0⟩
  have HMX : Hid (mayM ⟨⟨id2, qr2, op2, aa2, tc2, rd2, ra2, z2, rc2⟩, qs2, an2, ns2, ar2⟩ = true) := hxm
  have HFEX : Hid _ := may_few hxm
  have HPX : Hid (putV ⟨⟨id2, qr2, op2, aa2, tc2, rd2, ra2, z2, rc2⟩, qs2, an2, ns2, ar2⟩ = .tuple #[.string U, .int .i64 E2]) := hxp
  subst hE2
  clear hx hx0 hxm hxp
  have KB := Blk.new w #[.int .i64 id, .bool qr, .int .i64 op, .bool aa, .bool tc, .bool rd, .bool ra, .int .i64 z, .int .i64 rc, .slice x0 qs.length c0, .slice x1 an.length c1, .slice x2 ns.length c2, .slice x3 ar.length c3] 27
  have t1 : True := trivial
  have t2 : True := trivial
  have t3 : True := trivial
  have t4 : True := trivial
  clear h0 h1 h2 h3
  go_enter Try.func4, Try.ntmps4
  go_wp2_with (first
    | (go_at_call 14; refine (num_any _ _).mono ?_; rintro e w' ⟨rfl, hw⟩; obtain rfl := hw.symm)
    | (go_at_call 17; go_must (refine (awake_any _).mono ?_); rintro e w0 ⟨rfl, bb⟩; replace hb := next (lay hb _) bb; replace KB := KB.below bb; have m0 : w0.cell? ⟨w.heap.size, 0, none⟩ = some (.int .i64 id) := KB.cell 0; have m1 : w0.cell? ⟨w.heap.size, 1, none⟩ = some (.bool qr) := KB.cell 1; have m2 : w0.cell? ⟨w.heap.size, 2, none⟩ = some (.int .i64 op) := KB.cell 2; have m3 : w0.cell? ⟨w.heap.size, 3, none⟩ = some (.bool aa) := KB.cell 3; have m4 : w0.cell? ⟨w.heap.size, 4, none⟩ = some (.bool tc) := KB.cell 4; have m5 : w0.cell? ⟨w.heap.size, 5, none⟩ = some (.bool rd) := KB.cell 5; have m6 : w0.cell? ⟨w.heap.size, 6, none⟩ = some (.bool ra) := KB.cell 6; have m7 : w0.cell? ⟨w.heap.size, 7, none⟩ = some (.int .i64 z) := KB.cell 7; have m8 : w0.cell? ⟨w.heap.size, 8, none⟩ = some (.int .i64 rc) := KB.cell 8; have m9 : w0.cell? ⟨w.heap.size, 9, none⟩ = some (.slice x0 qs.length c0) := KB.cell 9; have m10 : w0.cell? ⟨w.heap.size, 10, none⟩ = some (.slice x1 an.length c1) := KB.cell 10; have m11 : w0.cell? ⟨w.heap.size, 11, none⟩ = some (.slice x2 ns.length c2) := KB.cell 11; have m12 : w0.cell? ⟨w.heap.size, 12, none⟩ = some (.slice x3 ar.length c3) := KB.cell 12; clear bb)
    | (go_at_call 10; have _t := t1; go_must (refine (put_h id qr op aa tc rd ra z rc qs an ns ar T _ _ _ _ _ _ HP.out (H0.out.below hb) (H1.out.below hb) (H2.out.below hb) (H3.out.below hb)).mono ?_); rintro e w1 ⟨rfl, bb⟩; replace hb := next hb bb; replace KB := KB.below bb; clear m0 m1 m2 m3 m4 m5 m6 m7 m8 m9 m10 m11 m12; clear bb t1 _t)
    | (go_at_call 12; have _t := t2; go_must (refine (get_h T id qr op aa tc rd ra z rc qs an ns ar 0 _ hTm HGT.out).mono ?_); rintro e w2 ⟨y0, y1, y2, y3, n0, n1, n2, n3, k0, k1, k2, k3, rfl, oo, bb⟩; replace hb := next hb bb; replace KB := KB.below bb; have O2 : Hid (MR w2 (.slice y0 n0 k0) (.slice y1 n1 k1) (.slice y2 n2 k2) (.slice y3 n3 k3) ⟨⟨id, qr, op, aa, tc, rd, ra, z, rc⟩, qs, an, ns, ar⟩) := oo.mr HFEW.out; have hb2 : Below w2.heap.size w2 w2 := Below.refl _ _; have KX := Blk.new w2 #[.int .i64 id, .bool qr, .int .i64 op, .bool aa, .bool tc, .bool rd, .bool ra, .int .i64 z, .int .i64 rc, .slice y0 n0 k0, .slice y1 n1 k1, .slice y2 n2 k2, .slice y3 n3 k3] 27; clear oo; clear bb t2 _t)
    | (go_at_call 12; have _t := t3; go_must (refine (get_kz (T.extract 0 k) _ _ _ hCm HCUT.out rfl).mono ?_); rintro e w3 ⟨a0, a1, a2, a3, b0, b1, b2, b3, e0, e1, e2, e3, rfl, -, bb⟩; replace hb := next (lay hb _) bb; replace hb2 := next (lay hb2 _) bb; replace KB := (KB.alloc _).below bb; replace KX := KX.below bb; have ltB := KB.lt; have ltX := KX.lt; have m0 : w3.cell? ⟨w.heap.size, 0, none⟩ = some (.int .i64 id) := KB.cell 0; have m1 : w3.cell? ⟨w.heap.size, 1, none⟩ = some (.bool qr) := KB.cell 1; have m2 : w3.cell? ⟨w.heap.size, 2, none⟩ = some (.int .i64 op) := KB.cell 2; have m3 : w3.cell? ⟨w.heap.size, 3, none⟩ = some (.bool aa) := KB.cell 3; have m4 : w3.cell? ⟨w.heap.size, 4, none⟩ = some (.bool tc) := KB.cell 4; have m5 : w3.cell? ⟨w.heap.size, 5, none⟩ = some (.bool rd) := KB.cell 5; have m6 : w3.cell? ⟨w.heap.size, 6, none⟩ = some (.bool ra) := KB.cell 6; have m7 : w3.cell? ⟨w.heap.size, 7, none⟩ = some (.int .i64 z) := KB.cell 7; have m8 : w3.cell? ⟨w.heap.size, 8, none⟩ = some (.int .i64 rc) := KB.cell 8; have m9 : w3.cell? ⟨w.heap.size, 9, none⟩ = some (.slice x0 qs.length c0) := KB.cell 9; have m10 : w3.cell? ⟨w.heap.size, 10, none⟩ = some (.slice x1 an.length c1) := KB.cell 10; have m11 : w3.cell? ⟨w.heap.size, 11, none⟩ = some (.slice x2 ns.length c2) := KB.cell 11; have m12 : w3.cell? ⟨w.heap.size, 12, none⟩ = some (.slice x3 ar.length c3) := KB.cell 12; have xc0 : w3.cell? ⟨w2.heap.size, 0, none⟩ = some (.int .i64 id) := KX.cell 0; have xc1 : w3.cell? ⟨w2.heap.size, 1, none⟩ = some (.bool qr) := KX.cell 1; have xc2 : w3.cell? ⟨w2.heap.size, 2, none⟩ = some (.int .i64 op) := KX.cell 2; have xc3 : w3.cell? ⟨w2.heap.size, 3, none⟩ = some (.bool aa) := KX.cell 3; have xc4 : w3.cell? ⟨w2.heap.size, 4, none⟩ = some (.bool tc) := KX.cell 4; have xc5 : w3.cell? ⟨w2.heap.size, 5, none⟩ = some (.bool rd) := KX.cell 5; have xc6 : w3.cell? ⟨w2.heap.size, 6, none⟩ = some (.bool ra) := KX.cell 6; have xc7 : w3.cell? ⟨w2.heap.size, 7, none⟩ = some (.int .i64 z) := KX.cell 7; have xc8 : w3.cell? ⟨w2.heap.size, 8, none⟩ = some (.int .i64 rc) := KX.cell 8; have xc9 : w3.cell? ⟨w2.heap.size, 9, none⟩ = some (.slice y0 n0 k0) := KX.cell 9; have xc10 : w3.cell? ⟨w2.heap.size, 10, none⟩ = some (.slice y1 n1 k1) := KX.cell 10; have xc11 : w3.cell? ⟨w2.heap.size, 11, none⟩ = some (.slice y2 n2 k2) := KX.cell 11; have xc12 : w3.cell? ⟨w2.heap.size, 12, none⟩ = some (.slice y3 n3 k3) := KX.cell 12; clear bb t3 _t)
    | (go_at_call 15; have _t := t4; go_must (refine (same_h id qr op aa tc rd ra z rc qs an ns ar _ _ _ _ _ _ _ _ _ (O2.out.below (lay hb2 _)) (MRow.mr (m := ⟨⟨id, qr, op, aa, tc, rd, ra, z, rc⟩, qs, an, ns, ar⟩) (H0.out.below (lay hb _)) (H1.out.below (lay hb _)) (H2.out.below (lay hb _)) (H3.out.below (lay hb _)))).mono ?_); rintro e w4 ⟨rfl, bb⟩; replace hb := next (lay hb _) bb; replace hb2 := next (lay hb2 _) bb; clear hb2 KB KX O2 ltB ltX m0 xc0 m1 xc1 m2 xc2 m3 xc3 m4 xc4 m5 xc5 m6 xc6 m7 xc7 m8 xc8 m9 xc9 m10 xc10 m11 xc11 m12 xc12; clear bb t4 _t)
    | (go_at_call 12; go_must (refine (get_h s id2 qr2 op2 aa2 tc2 rd2 ra2 z2 rc2 qs2 an2 ns2 ar2 0 _ hs HGS.out).mono ?_); rintro e w5 ⟨f0, f1, f2, f3, g0, g1, g2, g3, h0, h1, h2, h3, rfl, oo, bb⟩; replace hb := next hb bb; obtain ⟨r0, r1, r2, r3⟩ := own_q oo HMX.out; have R0 : Hid (QRow w5 (.slice f0 g0 h0) qs2) := r0; have R1 : Hid (RRow w5 (.slice f1 g1 h1) an2) := r1; have R2 : Hid (RRow w5 (.slice f2 g2 h2) ns2) := r2; have R3 : Hid (RRow w5 (.slice f3 g3 h3) ar2) := r3; have O5 : Hid (MR w5 (.slice f0 g0 h0) (.slice f1 g1 h1) (.slice f2 g2 h2) (.slice f3 g3 h3) ⟨⟨id2, qr2, op2, aa2, tc2, rd2, ra2, z2, rc2⟩, qs2, an2, ns2, ar2⟩) := oo.mr HFEX.out; have hb5 : Below w5.heap.size w5 w5 := Below.refl _ _; clear oo r0 r1 r2 r3; clear bb)
    | (go_at_call 10; go_must (refine (put_h id2 qr2 op2 aa2 tc2 rd2 ra2 z2 rc2 qs2 an2 ns2 ar2 U _ _ _ _ _ _ HPX.out (R0.out.below (lay hb5 _)) (R1.out.below (lay hb5 _)) (R2.out.below (lay hb5 _)) (R3.out.below (lay hb5 _))).mono ?_); rintro e w6 ⟨rfl, bb⟩; replace hb := next (lay hb _) bb; replace hb5 := next (lay hb5 _) bb; have K5 := (Blk.new w5 #[.int .i64 id2, .bool qr2, .int .i64 op2, .bool aa2, .bool tc2, .bool rd2, .bool ra2, .int .i64 z2, .int .i64 rc2, .slice f0 g0 h0, .slice f1 g1 h1, .slice f2 g2 h2, .slice f3 g3 h3] 27).below bb; clear bb))
  go_ret
  exact ⟨ret_bool (by simp), hb⟩

set_option maxRecDepth 20000 in
set_option maxHeartbeats 4000000 in
theorem w_ad (id : Int) (qr : Bool) (op : Int) (aa tc rd ra : Bool) (z rc : Int) (qs : List Qn) (an ns ar : List Rc) (v0 v1 v2 v3 : Value) (s : ByteArray) (y : Int) (hs : s.size ≤ maxLen) (w : World) (h0 : QRow w v0 qs) (h1 : RRow w v1 an) (h2 : RRow w v2 ns) (h3 : RRow w v3 ar) (hcase : ∃ T : ByteArray, putV ⟨⟨id, qr, op, aa, tc, rd, ra, z, rc⟩, qs, an, ns, ar⟩ = .tuple #[.string T, .int .i64 0] ∧ getM T = some ⟨⟨id, qr, op, aa, tc, rd, ra, z, rc⟩, qs, an, ns, ar⟩ ∧ T.size ≤ 4096 ∧ 12 ≤ T.size) (hgs : gM s = msZ ∧ (gE s = 700 ∨ gE s = 701)) :
    Calls Try.prog 4 #[.agg #[.int .i64 id, .bool qr, .int .i64 op, .bool aa, .bool tc, .bool rd, .bool ra, .int .i64 z, .int .i64 rc, v0, v1, v2, v3], .string s, .int .i64 y] w fun e w' => e = .returned (.bool true) ∧ Below w.heap.size w w' := by
  have hb : Below w.heap.size w w := Below.refl _ _
  obtain ⟨x0, c0, rfl⟩ := row_slice h0.1
  obtain ⟨x1, c1, rfl⟩ := row_slice h1.1
  obtain ⟨x2, c2, rfl⟩ := row_slice h2.1
  obtain ⟨x3, c3, rfl⟩ := row_slice h3.1
  have H0 : Hid (QRow w (.slice x0 qs.length c0) qs) := h0
  have H1 : Hid (RRow w (.slice x1 an.length c1) an) := h1
  have H2 : Hid (RRow w (.slice x2 ns.length c2) ns) := h2
  have H3 : Hid (RRow w (.slice x3 ar.length c3) ar) := h3
  obtain ⟨T, hp, hg, hT1, hT2⟩ := hcase
  obtain ⟨E, hE⟩ : ∃ E : Int, E = 0 := ⟨_, rfl⟩
  have HP : Hid (putV ⟨⟨id, qr, op, aa, tc, rd, ra, z, rc⟩, qs, an, ns, ar⟩ = .tuple #[.string T, .int .i64 E]) := by unfold Hid; rw [hE]; exact hp
  have HGT : Hid _ := g_some hT1 hg
  have HFEW : Hid _ := may_few (get_may hg)
  have hTm : T.size ≤ maxLen := small100 (by omega)
  obtain ⟨k, hk, hkv⟩ : ∃ k : Nat, k < T.size ∧ (IntKind.u64.wrap y).tmod (T.size : Int) = (k : Int) := by
    have h0 : 0 ≤ IntKind.u64.wrap y := by simp [IntKind.wrap, IntKind.bits, IntKind.signed]; omega
    rw [Int.tmod_eq_emod_of_nonneg h0]
    have h1 := Int.emod_nonneg (IntKind.u64.wrap y) (b := (T.size : Int)) (by omega)
    have h2 := Int.emod_lt_of_pos (IntKind.u64.wrap y) (b := (T.size : Int)) (by omega)
    exact ⟨((IntKind.u64.wrap y) % (T.size : Int)).toNat, by omega, by omega⟩
  have hkw : wrap64 (k : Int) = (k : Int) := by unfold wrap64; omega
  have hcut := cut_to T k k rfl (by omega)
  have HCUT : Hid _ := g_none (s := T.extract 0 k) (by simp; omega) (get_cut hg hk)
  have hCm : (T.extract 0 k).size ≤ maxLen := small100 (by simp; omega)
  subst hE
  clear hp hg
  obtain ⟨E2, hE2⟩ : ∃ E2, E2 = gE s := ⟨_, rfl⟩
  have hE20 : (E2 == 0) = false := by rw [hE2]; simp; omega
  have HGS : Hid (gM s = msZ ∧ gE s = E2) := ⟨hgs.1, hE2.symm⟩
  clear hgs hE2
  have KB := Blk.new w #[.int .i64 id, .bool qr, .int .i64 op, .bool aa, .bool tc, .bool rd, .bool ra, .int .i64 z, .int .i64 rc, .slice x0 qs.length c0, .slice x1 an.length c1, .slice x2 ns.length c2, .slice x3 ar.length c3] 27
  have t1 : True := trivial
  have t2 : True := trivial
  have t3 : True := trivial
  have t4 : True := trivial
  clear h0 h1 h2 h3
  go_enter Try.func4, Try.ntmps4
  go_wp2_with (first
    | (go_at_call 14; refine (num_any _ _).mono ?_; rintro e w' ⟨rfl, hw⟩; obtain rfl := hw.symm)
    | (go_at_call 17; go_must (refine (awake_any _).mono ?_); rintro e w0 ⟨rfl, bb⟩; replace hb := next (lay hb _) bb; replace KB := KB.below bb; have m0 : w0.cell? ⟨w.heap.size, 0, none⟩ = some (.int .i64 id) := KB.cell 0; have m1 : w0.cell? ⟨w.heap.size, 1, none⟩ = some (.bool qr) := KB.cell 1; have m2 : w0.cell? ⟨w.heap.size, 2, none⟩ = some (.int .i64 op) := KB.cell 2; have m3 : w0.cell? ⟨w.heap.size, 3, none⟩ = some (.bool aa) := KB.cell 3; have m4 : w0.cell? ⟨w.heap.size, 4, none⟩ = some (.bool tc) := KB.cell 4; have m5 : w0.cell? ⟨w.heap.size, 5, none⟩ = some (.bool rd) := KB.cell 5; have m6 : w0.cell? ⟨w.heap.size, 6, none⟩ = some (.bool ra) := KB.cell 6; have m7 : w0.cell? ⟨w.heap.size, 7, none⟩ = some (.int .i64 z) := KB.cell 7; have m8 : w0.cell? ⟨w.heap.size, 8, none⟩ = some (.int .i64 rc) := KB.cell 8; have m9 : w0.cell? ⟨w.heap.size, 9, none⟩ = some (.slice x0 qs.length c0) := KB.cell 9; have m10 : w0.cell? ⟨w.heap.size, 10, none⟩ = some (.slice x1 an.length c1) := KB.cell 10; have m11 : w0.cell? ⟨w.heap.size, 11, none⟩ = some (.slice x2 ns.length c2) := KB.cell 11; have m12 : w0.cell? ⟨w.heap.size, 12, none⟩ = some (.slice x3 ar.length c3) := KB.cell 12; clear bb)
    | (go_at_call 10; have _t := t1; go_must (refine (put_h id qr op aa tc rd ra z rc qs an ns ar T _ _ _ _ _ _ HP.out (H0.out.below hb) (H1.out.below hb) (H2.out.below hb) (H3.out.below hb)).mono ?_); rintro e w1 ⟨rfl, bb⟩; replace hb := next hb bb; replace KB := KB.below bb; clear m0 m1 m2 m3 m4 m5 m6 m7 m8 m9 m10 m11 m12; clear bb t1 _t)
    | (go_at_call 12; have _t := t2; go_must (refine (get_h T id qr op aa tc rd ra z rc qs an ns ar 0 _ hTm HGT.out).mono ?_); rintro e w2 ⟨y0, y1, y2, y3, n0, n1, n2, n3, k0, k1, k2, k3, rfl, oo, bb⟩; replace hb := next hb bb; replace KB := KB.below bb; have O2 : Hid (MR w2 (.slice y0 n0 k0) (.slice y1 n1 k1) (.slice y2 n2 k2) (.slice y3 n3 k3) ⟨⟨id, qr, op, aa, tc, rd, ra, z, rc⟩, qs, an, ns, ar⟩) := oo.mr HFEW.out; have hb2 : Below w2.heap.size w2 w2 := Below.refl _ _; have KX := Blk.new w2 #[.int .i64 id, .bool qr, .int .i64 op, .bool aa, .bool tc, .bool rd, .bool ra, .int .i64 z, .int .i64 rc, .slice y0 n0 k0, .slice y1 n1 k1, .slice y2 n2 k2, .slice y3 n3 k3] 27; clear oo; clear bb t2 _t)
    | (go_at_call 12; have _t := t3; go_must (refine (get_kz (T.extract 0 k) _ _ _ hCm HCUT.out rfl).mono ?_); rintro e w3 ⟨a0, a1, a2, a3, b0, b1, b2, b3, e0, e1, e2, e3, rfl, -, bb⟩; replace hb := next (lay hb _) bb; replace hb2 := next (lay hb2 _) bb; replace KB := (KB.alloc _).below bb; replace KX := KX.below bb; have ltB := KB.lt; have ltX := KX.lt; have m0 : w3.cell? ⟨w.heap.size, 0, none⟩ = some (.int .i64 id) := KB.cell 0; have m1 : w3.cell? ⟨w.heap.size, 1, none⟩ = some (.bool qr) := KB.cell 1; have m2 : w3.cell? ⟨w.heap.size, 2, none⟩ = some (.int .i64 op) := KB.cell 2; have m3 : w3.cell? ⟨w.heap.size, 3, none⟩ = some (.bool aa) := KB.cell 3; have m4 : w3.cell? ⟨w.heap.size, 4, none⟩ = some (.bool tc) := KB.cell 4; have m5 : w3.cell? ⟨w.heap.size, 5, none⟩ = some (.bool rd) := KB.cell 5; have m6 : w3.cell? ⟨w.heap.size, 6, none⟩ = some (.bool ra) := KB.cell 6; have m7 : w3.cell? ⟨w.heap.size, 7, none⟩ = some (.int .i64 z) := KB.cell 7; have m8 : w3.cell? ⟨w.heap.size, 8, none⟩ = some (.int .i64 rc) := KB.cell 8; have m9 : w3.cell? ⟨w.heap.size, 9, none⟩ = some (.slice x0 qs.length c0) := KB.cell 9; have m10 : w3.cell? ⟨w.heap.size, 10, none⟩ = some (.slice x1 an.length c1) := KB.cell 10; have m11 : w3.cell? ⟨w.heap.size, 11, none⟩ = some (.slice x2 ns.length c2) := KB.cell 11; have m12 : w3.cell? ⟨w.heap.size, 12, none⟩ = some (.slice x3 ar.length c3) := KB.cell 12; have xc0 : w3.cell? ⟨w2.heap.size, 0, none⟩ = some (.int .i64 id) := KX.cell 0; have xc1 : w3.cell? ⟨w2.heap.size, 1, none⟩ = some (.bool qr) := KX.cell 1; have xc2 : w3.cell? ⟨w2.heap.size, 2, none⟩ = some (.int .i64 op) := KX.cell 2; have xc3 : w3.cell? ⟨w2.heap.size, 3, none⟩ = some (.bool aa) := KX.cell 3; have xc4 : w3.cell? ⟨w2.heap.size, 4, none⟩ = some (.bool tc) := KX.cell 4; have xc5 : w3.cell? ⟨w2.heap.size, 5, none⟩ = some (.bool rd) := KX.cell 5; have xc6 : w3.cell? ⟨w2.heap.size, 6, none⟩ = some (.bool ra) := KX.cell 6; have xc7 : w3.cell? ⟨w2.heap.size, 7, none⟩ = some (.int .i64 z) := KX.cell 7; have xc8 : w3.cell? ⟨w2.heap.size, 8, none⟩ = some (.int .i64 rc) := KX.cell 8; have xc9 : w3.cell? ⟨w2.heap.size, 9, none⟩ = some (.slice y0 n0 k0) := KX.cell 9; have xc10 : w3.cell? ⟨w2.heap.size, 10, none⟩ = some (.slice y1 n1 k1) := KX.cell 10; have xc11 : w3.cell? ⟨w2.heap.size, 11, none⟩ = some (.slice y2 n2 k2) := KX.cell 11; have xc12 : w3.cell? ⟨w2.heap.size, 12, none⟩ = some (.slice y3 n3 k3) := KX.cell 12; clear bb t3 _t)
    | (go_at_call 15; have _t := t4; go_must (refine (same_h id qr op aa tc rd ra z rc qs an ns ar _ _ _ _ _ _ _ _ _ (O2.out.below (lay hb2 _)) (MRow.mr (m := ⟨⟨id, qr, op, aa, tc, rd, ra, z, rc⟩, qs, an, ns, ar⟩) (H0.out.below (lay hb _)) (H1.out.below (lay hb _)) (H2.out.below (lay hb _)) (H3.out.below (lay hb _)))).mono ?_); rintro e w4 ⟨rfl, bb⟩; replace hb := next (lay hb _) bb; replace hb2 := next (lay hb2 _) bb; clear hb2 KB KX O2 ltB ltX m0 xc0 m1 xc1 m2 xc2 m3 xc3 m4 xc4 m5 xc5 m6 xc6 m7 xc7 m8 xc8 m9 xc9 m10 xc10 m11 xc11 m12 xc12; clear bb t4 _t)
    | (go_at_call 12; go_must (refine (get_kz s _ E2 _ hs HGS.out rfl).mono ?_); rintro e w5 ⟨f0, f1, f2, f3, g0, g1, g2, g3, h0, h1, h2, h3, rfl, -, bb⟩; replace hb := next hb bb; clear bb))
  go_ret
  exact ⟨ret_bool (by simp), lay hb _⟩

set_option maxRecDepth 20000 in
set_option maxHeartbeats 4000000 in
theorem w_b1 (id : Int) (qr : Bool) (op : Int) (aa tc rd ra : Bool) (z rc : Int) (qs : List Qn) (an ns ar : List Rc) (v0 v1 v2 v3 : Value) (s : ByteArray) (y : Int) (hs : s.size ≤ maxLen) (w : World) (h0 : QRow w v0 qs) (h1 : RRow w v1 an) (h2 : RRow w v2 ns) (h3 : RRow w v3 ar) (hcase : ∃ E : Int, putV ⟨⟨id, qr, op, aa, tc, rd, ra, z, rc⟩, qs, an, ns, ar⟩ = .tuple #[.string ⟨#[]⟩, .int .i64 E] ∧ (E = 700 ∨ E = 701)) (hgs : ∃ (x : Ms) (U : ByteArray), gM s = x ∧ gE s = 0 ∧ mayM x = true ∧ putV x = .tuple #[.string U, .int .i64 0] ∧ gM U = x ∧ gE U = 0 ∧ U.size ≤ 4096) :
    Calls Try.prog 4 #[.agg #[.int .i64 id, .bool qr, .int .i64 op, .bool aa, .bool tc, .bool rd, .bool ra, .int .i64 z, .int .i64 rc, v0, v1, v2, v3], .string s, .int .i64 y] w fun e w' => e = .returned (.bool true) ∧ Below w.heap.size w w' := by
  have hb : Below w.heap.size w w := Below.refl _ _
  obtain ⟨x0, c0, rfl⟩ := row_slice h0.1
  obtain ⟨x1, c1, rfl⟩ := row_slice h1.1
  obtain ⟨x2, c2, rfl⟩ := row_slice h2.1
  obtain ⟨x3, c3, rfl⟩ := row_slice h3.1
  have H0 : Hid (QRow w (.slice x0 qs.length c0) qs) := h0
  have H1 : Hid (RRow w (.slice x1 an.length c1) an) := h1
  have H2 : Hid (RRow w (.slice x2 ns.length c2) ns) := h2
  have H3 : Hid (RRow w (.slice x3 ar.length c3) ar) := h3
  obtain ⟨E, hp, hE⟩ := hcase
  obtain ⟨T, hT⟩ : ∃ T : ByteArray, T = ⟨#[]⟩ := ⟨_, rfl⟩
  have HP : Hid (putV ⟨⟨id, qr, op, aa, tc, rd, ra, z, rc⟩, qs, an, ns, ar⟩ = .tuple #[.string T, .int .i64 E]) := by unfold Hid; rw [hT]; exact hp
  have hE0 : (E == 0) = false := by simp; omega
  clear hp hE hT
  obtain ⟨x, U, hx, hx0, hxm, hxp, hu1, hu2, hu3⟩ := hgs
  have hUm : U.size ≤ maxLen := small100 (by omega)
  obtain ⟨E2, hE2⟩ : ∃ E2 : Int, E2 = 0 := ⟨_, rfl⟩
  rw [← hE2] at hxp
  obtain ⟨⟨id2, qr2, op2, aa2, tc2, rd2, ra2, z2, rc2⟩, qs2, an2, ns2, ar2⟩ := x
  have HGS : Hid (gM s = ⟨⟨id2, qr2, op2, aa2, tc2, rd2, ra2, z2, rc2⟩, qs2, an2, ns2, ar2⟩ ∧ gE s = 0) := ⟨hx, hx0⟩
  have HMX : Hid (mayM ⟨⟨id2, qr2, op2, aa2, tc2, rd2, ra2, z2, rc2⟩, qs2, an2, ns2, ar2⟩ = true) := hxm
  have HFEX : Hid _ := may_few hxm
  have HPX : Hid (putV ⟨⟨id2, qr2, op2, aa2, tc2, rd2, ra2, z2, rc2⟩, qs2, an2, ns2, ar2⟩ = .tuple #[.string U, .int .i64 E2]) := hxp
  have HGU : Hid (gM U = ⟨⟨id2, qr2, op2, aa2, tc2, rd2, ra2, z2, rc2⟩, qs2, an2, ns2, ar2⟩ ∧ gE U = 0) := ⟨hu1, hu2⟩
  clear hu1 hu2
  subst hE2
  clear hx hx0 hxm hxp
  have KB := Blk.new w #[.int .i64 id, .bool qr, .int .i64 op, .bool aa, .bool tc, .bool rd, .bool ra, .int .i64 z, .int .i64 rc, .slice x0 qs.length c0, .slice x1 an.length c1, .slice x2 ns.length c2, .slice x3 ar.length c3] 27
  have t1 : True := trivial
  have t5 : True := trivial
  clear h0 h1 h2 h3
  go_enter Try.func4, Try.ntmps4
  go_wp2_with (first
    | (go_at_call 14; refine (num_any _ _).mono ?_; rintro e w' ⟨rfl, hw⟩; obtain rfl := hw.symm)
    | (go_at_call 17; go_must (refine (awake_any _).mono ?_); rintro e w0 ⟨rfl, bb⟩; replace hb := next (lay hb _) bb; replace KB := KB.below bb; have m0 : w0.cell? ⟨w.heap.size, 0, none⟩ = some (.int .i64 id) := KB.cell 0; have m1 : w0.cell? ⟨w.heap.size, 1, none⟩ = some (.bool qr) := KB.cell 1; have m2 : w0.cell? ⟨w.heap.size, 2, none⟩ = some (.int .i64 op) := KB.cell 2; have m3 : w0.cell? ⟨w.heap.size, 3, none⟩ = some (.bool aa) := KB.cell 3; have m4 : w0.cell? ⟨w.heap.size, 4, none⟩ = some (.bool tc) := KB.cell 4; have m5 : w0.cell? ⟨w.heap.size, 5, none⟩ = some (.bool rd) := KB.cell 5; have m6 : w0.cell? ⟨w.heap.size, 6, none⟩ = some (.bool ra) := KB.cell 6; have m7 : w0.cell? ⟨w.heap.size, 7, none⟩ = some (.int .i64 z) := KB.cell 7; have m8 : w0.cell? ⟨w.heap.size, 8, none⟩ = some (.int .i64 rc) := KB.cell 8; have m9 : w0.cell? ⟨w.heap.size, 9, none⟩ = some (.slice x0 qs.length c0) := KB.cell 9; have m10 : w0.cell? ⟨w.heap.size, 10, none⟩ = some (.slice x1 an.length c1) := KB.cell 10; have m11 : w0.cell? ⟨w.heap.size, 11, none⟩ = some (.slice x2 ns.length c2) := KB.cell 11; have m12 : w0.cell? ⟨w.heap.size, 12, none⟩ = some (.slice x3 ar.length c3) := KB.cell 12; clear bb)
    | (go_at_call 10; have _t := t1; go_must (refine (put_h id qr op aa tc rd ra z rc qs an ns ar T _ _ _ _ _ _ HP.out (H0.out.below hb) (H1.out.below hb) (H2.out.below hb) (H3.out.below hb)).mono ?_); rintro e w1 ⟨rfl, bb⟩; replace hb := next hb bb; replace KB := KB.below bb; clear m0 m1 m2 m3 m4 m5 m6 m7 m8 m9 m10 m11 m12; clear bb t1 _t)
    | (go_at_call 12; have _t := t5; go_must (refine (get_h s id2 qr2 op2 aa2 tc2 rd2 ra2 z2 rc2 qs2 an2 ns2 ar2 0 _ hs HGS.out).mono ?_); rintro e w5 ⟨f0, f1, f2, f3, g0, g1, g2, g3, h0, h1, h2, h3, rfl, oo, bb⟩; replace hb := next hb bb; obtain ⟨r0, r1, r2, r3⟩ := own_q oo HMX.out; have R0 : Hid (QRow w5 (.slice f0 g0 h0) qs2) := r0; have R1 : Hid (RRow w5 (.slice f1 g1 h1) an2) := r1; have R2 : Hid (RRow w5 (.slice f2 g2 h2) ns2) := r2; have R3 : Hid (RRow w5 (.slice f3 g3 h3) ar2) := r3; have O5 : Hid (MR w5 (.slice f0 g0 h0) (.slice f1 g1 h1) (.slice f2 g2 h2) (.slice f3 g3 h3) ⟨⟨id2, qr2, op2, aa2, tc2, rd2, ra2, z2, rc2⟩, qs2, an2, ns2, ar2⟩) := oo.mr HFEX.out; have hb5 : Below w5.heap.size w5 w5 := Below.refl _ _; clear oo r0 r1 r2 r3; clear bb t5 _t)
    | (go_at_call 10; go_must (refine (put_h id2 qr2 op2 aa2 tc2 rd2 ra2 z2 rc2 qs2 an2 ns2 ar2 U _ _ _ _ _ _ HPX.out (R0.out.below (lay hb5 _)) (R1.out.below (lay hb5 _)) (R2.out.below (lay hb5 _)) (R3.out.below (lay hb5 _))).mono ?_); rintro e w6 ⟨rfl, bb⟩; replace hb := next (lay hb _) bb; replace hb5 := next (lay hb5 _) bb; have K5 := (Blk.new w5 #[.int .i64 id2, .bool qr2, .int .i64 op2, .bool aa2, .bool tc2, .bool rd2, .bool ra2, .int .i64 z2, .int .i64 rc2, .slice f0 g0 h0, .slice f1 g1 h1, .slice f2 g2 h2, .slice f3 g3 h3] 27).below bb; clear bb)
    | (go_at_call 12; go_must (refine (get_h U id2 qr2 op2 aa2 tc2 rd2 ra2 z2 rc2 qs2 an2 ns2 ar2 0 _ hUm HGU.out).mono ?_); rintro e w7 ⟨i0, i1, i2, i3, j0, j1, j2, j3, l0, l1, l2, l3, rfl, oo, bb⟩; replace hb := next hb bb; replace hb5 := next hb5 bb; replace K5 := K5.below bb; have O7 : Hid (MR w7 (.slice i0 j0 l0) (.slice i1 j1 l1) (.slice i2 j2 l2) (.slice i3 j3 l3) ⟨⟨id2, qr2, op2, aa2, tc2, rd2, ra2, z2, rc2⟩, qs2, an2, ns2, ar2⟩) := oo.mr HFEX.out; have lt5 := K5.lt; have q0 : w7.cell? ⟨w5.heap.size, 0, none⟩ = some (.int .i64 id2) := K5.cell 0; have q1 : w7.cell? ⟨w5.heap.size, 1, none⟩ = some (.bool qr2) := K5.cell 1; have q2 : w7.cell? ⟨w5.heap.size, 2, none⟩ = some (.int .i64 op2) := K5.cell 2; have q3 : w7.cell? ⟨w5.heap.size, 3, none⟩ = some (.bool aa2) := K5.cell 3; have q4 : w7.cell? ⟨w5.heap.size, 4, none⟩ = some (.bool tc2) := K5.cell 4; have q5 : w7.cell? ⟨w5.heap.size, 5, none⟩ = some (.bool rd2) := K5.cell 5; have q6 : w7.cell? ⟨w5.heap.size, 6, none⟩ = some (.bool ra2) := K5.cell 6; have q7 : w7.cell? ⟨w5.heap.size, 7, none⟩ = some (.int .i64 z2) := K5.cell 7; have q8 : w7.cell? ⟨w5.heap.size, 8, none⟩ = some (.int .i64 rc2) := K5.cell 8; have q9 : w7.cell? ⟨w5.heap.size, 9, none⟩ = some (.slice f0 g0 h0) := K5.cell 9; have q10 : w7.cell? ⟨w5.heap.size, 10, none⟩ = some (.slice f1 g1 h1) := K5.cell 10; have q11 : w7.cell? ⟨w5.heap.size, 11, none⟩ = some (.slice f2 g2 h2) := K5.cell 11; have q12 : w7.cell? ⟨w5.heap.size, 12, none⟩ = some (.slice f3 g3 h3) := K5.cell 12; clear oo; clear bb)
    | (go_at_call 15; go_must (refine (same_h id2 qr2 op2 aa2 tc2 rd2 ra2 z2 rc2 qs2 an2 ns2 ar2 _ _ _ _ _ _ _ _ _ (O7.out.below (lay (Below.refl _ _) _)) (O5.out.below (lay hb5 _))).mono ?_); rintro e w8 ⟨rfl, bb⟩; replace hb := next (lay hb _) bb; replace hb5 := next (lay hb5 _) bb; clear bb))
  go_ret
  exact ⟨ret_bool (by simp), hb⟩

set_option maxRecDepth 20000 in
set_option maxHeartbeats 4000000 in
theorem w_b2 (id : Int) (qr : Bool) (op : Int) (aa tc rd ra : Bool) (z rc : Int) (qs : List Qn) (an ns ar : List Rc) (v0 v1 v2 v3 : Value) (s : ByteArray) (y : Int) (hs : s.size ≤ maxLen) (w : World) (h0 : QRow w v0 qs) (h1 : RRow w v1 an) (h2 : RRow w v2 ns) (h3 : RRow w v3 ar) (hcase : ∃ E : Int, putV ⟨⟨id, qr, op, aa, tc, rd, ra, z, rc⟩, qs, an, ns, ar⟩ = .tuple #[.string ⟨#[]⟩, .int .i64 E] ∧ (E = 700 ∨ E = 701)) (hgs : ∃ x : Ms, gM s = x ∧ gE s = 0 ∧ mayM x = true ∧ putV x = .tuple #[.string ⟨#[]⟩, .int .i64 701]) :
    Calls Try.prog 4 #[.agg #[.int .i64 id, .bool qr, .int .i64 op, .bool aa, .bool tc, .bool rd, .bool ra, .int .i64 z, .int .i64 rc, v0, v1, v2, v3], .string s, .int .i64 y] w fun e w' => e = .returned (.bool true) ∧ Below w.heap.size w w' := by
  have hb : Below w.heap.size w w := Below.refl _ _
  obtain ⟨x0, c0, rfl⟩ := row_slice h0.1
  obtain ⟨x1, c1, rfl⟩ := row_slice h1.1
  obtain ⟨x2, c2, rfl⟩ := row_slice h2.1
  obtain ⟨x3, c3, rfl⟩ := row_slice h3.1
  have H0 : Hid (QRow w (.slice x0 qs.length c0) qs) := h0
  have H1 : Hid (RRow w (.slice x1 an.length c1) an) := h1
  have H2 : Hid (RRow w (.slice x2 ns.length c2) ns) := h2
  have H3 : Hid (RRow w (.slice x3 ar.length c3) ar) := h3
  obtain ⟨E, hp, hE⟩ := hcase
  obtain ⟨T, hT⟩ : ∃ T : ByteArray, T = ⟨#[]⟩ := ⟨_, rfl⟩
  have HP : Hid (putV ⟨⟨id, qr, op, aa, tc, rd, ra, z, rc⟩, qs, an, ns, ar⟩ = .tuple #[.string T, .int .i64 E]) := by unfold Hid; rw [hT]; exact hp
  have hE0 : (E == 0) = false := by simp; omega
  clear hp hE hT
  obtain ⟨x, hx, hx0, hxm, hxp⟩ := hgs
  obtain ⟨U, hU⟩ : ∃ U : ByteArray, U = ⟨#[]⟩ := ⟨_, rfl⟩
  rw [← hU] at hxp
  obtain ⟨E2, hE2⟩ : ∃ E2 : Int, E2 = 701 := ⟨_, rfl⟩
  rw [← hE2] at hxp
  obtain ⟨⟨id2, qr2, op2, aa2, tc2, rd2, ra2, z2, rc2⟩, qs2, an2, ns2, ar2⟩ := x
  have HGS : Hid (gM s = ⟨⟨id2, qr2, op2, aa2, tc2, rd2, ra2, z2, rc2⟩, qs2, an2, ns2, ar2⟩ ∧ gE s = 0) := ⟨hx, hx0⟩
  have HMX : Hid (mayM ⟨⟨id2, qr2, op2, aa2, tc2, rd2, ra2, z2, rc2⟩, qs2, an2, ns2, ar2⟩ = true) := hxm
  have HFEX : Hid _ := may_few hxm
  have HPX : Hid (putV ⟨⟨id2, qr2, op2, aa2, tc2, rd2, ra2, z2, rc2⟩, qs2, an2, ns2, ar2⟩ = .tuple #[.string U, .int .i64 E2]) := hxp
  subst hE2
  clear hx hx0 hxm hxp
  have KB := Blk.new w #[.int .i64 id, .bool qr, .int .i64 op, .bool aa, .bool tc, .bool rd, .bool ra, .int .i64 z, .int .i64 rc, .slice x0 qs.length c0, .slice x1 an.length c1, .slice x2 ns.length c2, .slice x3 ar.length c3] 27
  have t1 : True := trivial
  clear h0 h1 h2 h3
  go_enter Try.func4, Try.ntmps4
  go_wp2_with (first
    | (go_at_call 14; refine (num_any _ _).mono ?_; rintro e w' ⟨rfl, hw⟩; obtain rfl := hw.symm)
    | (go_at_call 17; go_must (refine (awake_any _).mono ?_); rintro e w0 ⟨rfl, bb⟩; replace hb := next (lay hb _) bb; replace KB := KB.below bb; have m0 : w0.cell? ⟨w.heap.size, 0, none⟩ = some (.int .i64 id) := KB.cell 0; have m1 : w0.cell? ⟨w.heap.size, 1, none⟩ = some (.bool qr) := KB.cell 1; have m2 : w0.cell? ⟨w.heap.size, 2, none⟩ = some (.int .i64 op) := KB.cell 2; have m3 : w0.cell? ⟨w.heap.size, 3, none⟩ = some (.bool aa) := KB.cell 3; have m4 : w0.cell? ⟨w.heap.size, 4, none⟩ = some (.bool tc) := KB.cell 4; have m5 : w0.cell? ⟨w.heap.size, 5, none⟩ = some (.bool rd) := KB.cell 5; have m6 : w0.cell? ⟨w.heap.size, 6, none⟩ = some (.bool ra) := KB.cell 6; have m7 : w0.cell? ⟨w.heap.size, 7, none⟩ = some (.int .i64 z) := KB.cell 7; have m8 : w0.cell? ⟨w.heap.size, 8, none⟩ = some (.int .i64 rc) := KB.cell 8; have m9 : w0.cell? ⟨w.heap.size, 9, none⟩ = some (.slice x0 qs.length c0) := KB.cell 9; have m10 : w0.cell? ⟨w.heap.size, 10, none⟩ = some (.slice x1 an.length c1) := KB.cell 10; have m11 : w0.cell? ⟨w.heap.size, 11, none⟩ = some (.slice x2 ns.length c2) := KB.cell 11; have m12 : w0.cell? ⟨w.heap.size, 12, none⟩ = some (.slice x3 ar.length c3) := KB.cell 12; clear bb)
    | (go_at_call 10; have _t := t1; go_must (refine (put_h id qr op aa tc rd ra z rc qs an ns ar T _ _ _ _ _ _ HP.out (H0.out.below hb) (H1.out.below hb) (H2.out.below hb) (H3.out.below hb)).mono ?_); rintro e w1 ⟨rfl, bb⟩; replace hb := next hb bb; replace KB := KB.below bb; clear m0 m1 m2 m3 m4 m5 m6 m7 m8 m9 m10 m11 m12; clear bb t1 _t)
    | (go_at_call 12; go_must (refine (get_h s id2 qr2 op2 aa2 tc2 rd2 ra2 z2 rc2 qs2 an2 ns2 ar2 0 _ hs HGS.out).mono ?_); rintro e w5 ⟨f0, f1, f2, f3, g0, g1, g2, g3, h0, h1, h2, h3, rfl, oo, bb⟩; replace hb := next hb bb; obtain ⟨r0, r1, r2, r3⟩ := own_q oo HMX.out; have R0 : Hid (QRow w5 (.slice f0 g0 h0) qs2) := r0; have R1 : Hid (RRow w5 (.slice f1 g1 h1) an2) := r1; have R2 : Hid (RRow w5 (.slice f2 g2 h2) ns2) := r2; have R3 : Hid (RRow w5 (.slice f3 g3 h3) ar2) := r3; have O5 : Hid (MR w5 (.slice f0 g0 h0) (.slice f1 g1 h1) (.slice f2 g2 h2) (.slice f3 g3 h3) ⟨⟨id2, qr2, op2, aa2, tc2, rd2, ra2, z2, rc2⟩, qs2, an2, ns2, ar2⟩) := oo.mr HFEX.out; have hb5 : Below w5.heap.size w5 w5 := Below.refl _ _; clear oo r0 r1 r2 r3; clear bb)
    | (go_at_call 10; go_must (refine (put_h id2 qr2 op2 aa2 tc2 rd2 ra2 z2 rc2 qs2 an2 ns2 ar2 U _ _ _ _ _ _ HPX.out (R0.out.below (lay hb5 _)) (R1.out.below (lay hb5 _)) (R2.out.below (lay hb5 _)) (R3.out.below (lay hb5 _))).mono ?_); rintro e w6 ⟨rfl, bb⟩; replace hb := next (lay hb _) bb; replace hb5 := next (lay hb5 _) bb; have K5 := (Blk.new w5 #[.int .i64 id2, .bool qr2, .int .i64 op2, .bool aa2, .bool tc2, .bool rd2, .bool ra2, .int .i64 z2, .int .i64 rc2, .slice f0 g0 h0, .slice f1 g1 h1, .slice f2 g2 h2, .slice f3 g3 h3] 27).below bb; clear bb))
  go_ret
  exact ⟨ret_bool (by simp), hb⟩

set_option maxRecDepth 20000 in
set_option maxHeartbeats 4000000 in
theorem w_bd (id : Int) (qr : Bool) (op : Int) (aa tc rd ra : Bool) (z rc : Int) (qs : List Qn) (an ns ar : List Rc) (v0 v1 v2 v3 : Value) (s : ByteArray) (y : Int) (hs : s.size ≤ maxLen) (w : World) (h0 : QRow w v0 qs) (h1 : RRow w v1 an) (h2 : RRow w v2 ns) (h3 : RRow w v3 ar) (hcase : ∃ E : Int, putV ⟨⟨id, qr, op, aa, tc, rd, ra, z, rc⟩, qs, an, ns, ar⟩ = .tuple #[.string ⟨#[]⟩, .int .i64 E] ∧ (E = 700 ∨ E = 701)) (hgs : gM s = msZ ∧ (gE s = 700 ∨ gE s = 701)) :
    Calls Try.prog 4 #[.agg #[.int .i64 id, .bool qr, .int .i64 op, .bool aa, .bool tc, .bool rd, .bool ra, .int .i64 z, .int .i64 rc, v0, v1, v2, v3], .string s, .int .i64 y] w fun e w' => e = .returned (.bool true) ∧ Below w.heap.size w w' := by
  have hb : Below w.heap.size w w := Below.refl _ _
  obtain ⟨x0, c0, rfl⟩ := row_slice h0.1
  obtain ⟨x1, c1, rfl⟩ := row_slice h1.1
  obtain ⟨x2, c2, rfl⟩ := row_slice h2.1
  obtain ⟨x3, c3, rfl⟩ := row_slice h3.1
  have H0 : Hid (QRow w (.slice x0 qs.length c0) qs) := h0
  have H1 : Hid (RRow w (.slice x1 an.length c1) an) := h1
  have H2 : Hid (RRow w (.slice x2 ns.length c2) ns) := h2
  have H3 : Hid (RRow w (.slice x3 ar.length c3) ar) := h3
  obtain ⟨E, hp, hE⟩ := hcase
  obtain ⟨T, hT⟩ : ∃ T : ByteArray, T = ⟨#[]⟩ := ⟨_, rfl⟩
  have HP : Hid (putV ⟨⟨id, qr, op, aa, tc, rd, ra, z, rc⟩, qs, an, ns, ar⟩ = .tuple #[.string T, .int .i64 E]) := by unfold Hid; rw [hT]; exact hp
  have hE0 : (E == 0) = false := by simp; omega
  clear hp hE hT
  obtain ⟨E2, hE2⟩ : ∃ E2, E2 = gE s := ⟨_, rfl⟩
  have hE20 : (E2 == 0) = false := by rw [hE2]; simp; omega
  have HGS : Hid (gM s = msZ ∧ gE s = E2) := ⟨hgs.1, hE2.symm⟩
  clear hgs hE2
  have KB := Blk.new w #[.int .i64 id, .bool qr, .int .i64 op, .bool aa, .bool tc, .bool rd, .bool ra, .int .i64 z, .int .i64 rc, .slice x0 qs.length c0, .slice x1 an.length c1, .slice x2 ns.length c2, .slice x3 ar.length c3] 27
  have t1 : True := trivial
  clear h0 h1 h2 h3
  go_enter Try.func4, Try.ntmps4
  go_wp2_with (first
    | (go_at_call 14; refine (num_any _ _).mono ?_; rintro e w' ⟨rfl, hw⟩; obtain rfl := hw.symm)
    | (go_at_call 17; go_must (refine (awake_any _).mono ?_); rintro e w0 ⟨rfl, bb⟩; replace hb := next (lay hb _) bb; replace KB := KB.below bb; have m0 : w0.cell? ⟨w.heap.size, 0, none⟩ = some (.int .i64 id) := KB.cell 0; have m1 : w0.cell? ⟨w.heap.size, 1, none⟩ = some (.bool qr) := KB.cell 1; have m2 : w0.cell? ⟨w.heap.size, 2, none⟩ = some (.int .i64 op) := KB.cell 2; have m3 : w0.cell? ⟨w.heap.size, 3, none⟩ = some (.bool aa) := KB.cell 3; have m4 : w0.cell? ⟨w.heap.size, 4, none⟩ = some (.bool tc) := KB.cell 4; have m5 : w0.cell? ⟨w.heap.size, 5, none⟩ = some (.bool rd) := KB.cell 5; have m6 : w0.cell? ⟨w.heap.size, 6, none⟩ = some (.bool ra) := KB.cell 6; have m7 : w0.cell? ⟨w.heap.size, 7, none⟩ = some (.int .i64 z) := KB.cell 7; have m8 : w0.cell? ⟨w.heap.size, 8, none⟩ = some (.int .i64 rc) := KB.cell 8; have m9 : w0.cell? ⟨w.heap.size, 9, none⟩ = some (.slice x0 qs.length c0) := KB.cell 9; have m10 : w0.cell? ⟨w.heap.size, 10, none⟩ = some (.slice x1 an.length c1) := KB.cell 10; have m11 : w0.cell? ⟨w.heap.size, 11, none⟩ = some (.slice x2 ns.length c2) := KB.cell 11; have m12 : w0.cell? ⟨w.heap.size, 12, none⟩ = some (.slice x3 ar.length c3) := KB.cell 12; clear bb)
    | (go_at_call 10; have _t := t1; go_must (refine (put_h id qr op aa tc rd ra z rc qs an ns ar T _ _ _ _ _ _ HP.out (H0.out.below hb) (H1.out.below hb) (H2.out.below hb) (H3.out.below hb)).mono ?_); rintro e w1 ⟨rfl, bb⟩; replace hb := next hb bb; replace KB := KB.below bb; clear m0 m1 m2 m3 m4 m5 m6 m7 m8 m9 m10 m11 m12; clear bb t1 _t)
    | (go_at_call 12; go_must (refine (get_kz s _ E2 _ hs HGS.out rfl).mono ?_); rintro e w5 ⟨f0, f1, f2, f3, g0, g1, g2, g3, h0, h1, h2, h3, rfl, -, bb⟩; replace hb := next hb bb; clear bb))
  go_ret
  exact ⟨ret_bool (by simp), lay hb _⟩

theorem walk (m : Ms) (v0 v1 v2 v3 : Value) (s : ByteArray) (y : Int) (hs : s.size ≤ maxLen) (_ : (Lit.int .i64 y).wf = true) (w : World) (h0 : QRow w v0 m.qs) (h1 : RRow w v1 m.an) (h2 : RRow w v2 m.ns) (h3 : RRow w v3 m.ar) :
    Calls Try.prog 4 #[.agg (msgC m.h v0 v1 v2 v3), .string s, .int .i64 y] w fun e w' => e = .returned (.bool true) ∧ Below w.heap.size w w' := by
  have hp := put_ways m
  obtain ⟨⟨id, qr, op, aa, tc, rd, ra, z, rc⟩, qs, an, ns, ar⟩ := m
  have hg : (gM s = msZ ∧ (gE s = 700 ∨ gE s = 701)) ∨ (∃ x : Ms, gM s = x ∧ gE s = 0 ∧ mayM x = true ∧ putV x = .tuple #[.string ⟨#[]⟩, .int .i64 701]) ∨ (∃ (x : Ms) (U : ByteArray), gM s = x ∧ gE s = 0 ∧ mayM x = true ∧ putV x = .tuple #[.string U, .int .i64 0] ∧ gM U = x ∧ gE U = 0 ∧ U.size ≤ 4096) := by
    by_cases hl : s.size ≤ 4096
    · cases hm : getM s with
      | none => obtain ⟨a, b⟩ := g_none hl hm; exact .inl ⟨a, .inl b⟩
      | some x =>
        obtain ⟨a, b⟩ := g_some hl hm
        have hx := get_may hm
        rcases put_ways x with ⟨U, u1, u2, u3, _⟩ | ⟨E, e1, _, e2⟩
        · obtain ⟨c, d⟩ := g_some u3 u2
          exact .inr (.inr ⟨x, U, a, b, hx, u1, c, d, u3⟩)
        · rw [e2 hx] at e1
          exact .inr (.inl ⟨x, a, b, hx, e1⟩)
    · obtain ⟨a, b⟩ := g_long hl; exact .inl ⟨a, .inr b⟩
  rcases hp with hp | ⟨E, e1, e2, _⟩
  · rcases hg with hg | hg | hg
    · exact w_ad id qr op aa tc rd ra z rc qs an ns ar v0 v1 v2 v3 s y hs w h0 h1 h2 h3 hp hg
    · exact w_a2 id qr op aa tc rd ra z rc qs an ns ar v0 v1 v2 v3 s y hs w h0 h1 h2 h3 hp hg
    · exact w_a1 id qr op aa tc rd ra z rc qs an ns ar v0 v1 v2 v3 s y hs w h0 h1 h2 h3 hp hg
  · rcases hg with hg | hg | hg
    · exact w_bd id qr op aa tc rd ra z rc qs an ns ar v0 v1 v2 v3 s y hs w h0 h1 h2 h3 ⟨E, e1, e2⟩ hg
    · exact w_b2 id qr op aa tc rd ra z rc qs an ns ar v0 v1 v2 v3 s y hs w h0 h1 h2 h3 ⟨E, e1, e2⟩ hg
    · exact w_b1 id qr op aa tc rd ra z rc qs an ns ar v0 v1 v2 v3 s y hs w h0 h1 h2 h3 ⟨E, e1, e2⟩ hg

theorem own : ownKnob Try.prog.godebug = none := by kernel_rfl
theorem laidOut : laidOutB Try.prog = true := by kernel_rfl

set_option maxRecDepth 100000 in
theorem lifted (os : Os) (started : os.Started) (H : Type) (enc : TypeId × Value → H) :
    ReturnsInHanded {} Try.checked os 4 .any (Rows.wireBackSpec.pre6 enc Try.prog Try.f4 Rows.wireBackRow.domain false) (Rows.wireBackSpec.post enc Try.prog Try.f4 false true false false) := by
  refine returnsInHanded_of_change (C := Try.checked) own started (by kernel_rfl) Try.func4
    (ChangeSpec.witness6 (enc := enc) (C := Try.checked) false ⟨#[], #[.agg (msgC hdZ (.slice none 0 0) (.slice none 0 0) (.slice none 0 0) (.slice none 0 0)), .string ByteArray.empty, .int .i64 0], []⟩ 8 (by kernel_rfl) (by kernel_rfl) (by kernel_rfl) (by kernel_rfl)) ?_
  intro W base args ds gs before hval0 hW _ _
  have hval : ∀ (j : Nat) t v, Try.f4.params[j]? = some t → args[j]? = some v → Value.okWide Try.prog W .any base t v := hval0
  have hW' := hW
  obtain ⟨p, q, hA0, hV, rfl, hfz, hnd⟩ := hW
  have hA : DataW.TrodAll enc Try.prog W 0 (fun _ => true) true Try.f4.params.toList args.toList ds p := hA0
  rw [Try.params4] at hA hval
  obtain ⟨v0, vs0, d0, ds0, p0, q0, hargs, rfl, rfl, h0, r0⟩ := trodAll_cons hA
  obtain ⟨v1, vs1, d1, ds1, p1, q1, rfl, rfl, rfl, h1, r1⟩ := trodAll_cons r0
  obtain ⟨v2, vs2, d2, ds2, p2, q2, rfl, rfl, rfl, h2, r2⟩ := trodAll_cons r1
  obtain ⟨rfl, rfl, rfl⟩ := trodAll_nil r2
  obtain rfl : args = #[v0, v1, v2] := by cases args; simp_all
  obtain ⟨rfl, rfl⟩ := trodVars_none hV
  obtain ⟨a0, b00, b01, b02, b03, rfl, w00, w01, w02, w03⟩ := open_msg (hval 0 27 v0 rfl rfl) h0
  obtain ⟨a1, rfl, rfl, rfl, w1⟩ := open_string Try.underlying9 (hval 1 9 v1 rfl rfl) h1
  obtain ⟨a2, rfl, rfl, rfl, w2⟩ := open_int Try.underlying3 (hval 2 3 v2 rfl rfl) h2
  have hlt0 : ∀ x ∈ p0, x.block < W.heap.size := fun x hx => by
    have := hW'.lt x (by simp [hx])
    simpa using this
  clear hA0 hval0
  simp only [List.append_nil] at hW'
  refine (walk a0 b00 b01 b02 b03 a1 a2 w1 w2 W w00 w01 w02 w03).mono fun e W' ⟨he, bel⟩ => ?_
  subst he
  exact ⟨_, rfl, _, _, _, [], _, [], hW', trodAll_mk1 (shut_bool Try.underlying4 _), (trodAll_cons_mk (Below.trod laidOut (by kernel_rfl) (of_decide_eq_true (by kernel_rfl)) h0 bel hlt0) (trodAll_cons_mk (shut_string Try.underlying9 w1) (trodAll_cons_mk (shut_int Try.underlying3 w2) trodAll_mk0))), rfl, bel.frame _, fun h => by cases h⟩

/-- The statement. -/
theorem proved : Rows.WireBackSaid :=
  OpenClaim.holds_of_wide 4 Try.f4 rfl rfl rfl rfl rfl rfl rfl ⟨rfl, rfl, rfl, rfl, rfl⟩ rfl rfl rfl rfl rfl (by kernel_rfl) Try.func4 (by kernel_rfl)
    (of_decide_eq_true (by kernel_rfl)) (by unfold Func.isWrapper; first | (rw [if_pos (by decide +kernel)]; kernel_rfl) | (rw [if_neg (by decide +kernel)]; exact ⟨rfl, rfl⟩))
    (fun os started H enc _ => lifted os started H enc)
#print axioms proved

end Go.Proofs.Ytdogjbblnjjaaaa.wireBack
