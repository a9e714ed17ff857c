/- Wires holds: for every message and text, package wire writes and reads what the document does, and what is written over changes nothing. -/
import Derived.Test.YtdogjbblnjjaaaaXWjH
import Derived.Test.YtdogjbblnjjaaaaXWlC
import Derived.Test.YtdogjbblnjjaaaaXWiV
import Derived.ProofKit
import Derived.OpenShut
import Derived.ShutString
namespace Go.Proofs.Ytdogjbblnjjaaaa.wires
open Go.ChangeShapes Go.WideShapes Go.ChangeAt Go.RowKit
open Go.ChangeMaps (open_string shut_string)
open Pl

theorem Own.turn {B : Nat} {w w' : World} {v0 v1 v2 v3 : Value} {m : Ms} {S : Nat → Prop} (h : Own B w v0 v1 v2 v3 m) (ht : Turn S w w') (hS : ∀ k, S k → k < B) : Own B w' v0 v1 v2 v3 m :=
  ⟨ht.row h.q (fun k hk e => by have := (h.q.lt k hk).1; have := hS k e; omega), ht.row h.an (fun k hk e => by have := (h.an.lt k hk).1; have := hS k e; omega), ht.row h.ns (fun k hk e => by have := (h.ns.lt k hk).1; have := hS k e; omega), ht.row h.ar (fun k hk e => by have := (h.ar.lt k hk).1; have := hS k e; omega), h.d12, h.d13, h.d23⟩

set_option maxRecDepth 20000 in
set_option maxHeartbeats 8000000 in
theorem w_all (id : Int) (qr : Bool) (op : Int) (aa tc rd ra : Bool) (z rc : Int) (qs : List Qn) (an ns ar : List Rc) (v0 v1 v2 v3 : Value) (s : ByteArray) (hs : s.size ≤ maxLen) (w : World) (h0 : QRow w v0 qs) (h1 : RRow w v1 an) (h2 : RRow w v2 ns) (h3 : RRow w v3 ar) (zz : qs.length * 32 ≤ 140737488351232 ∧ an.length * 56 ≤ 140737488351232 ∧ ns.length * 56 ≤ 140737488351232 ∧ ar.length * 56 ≤ 140737488351232) (hcase : ∃ (T : ByteArray) (E : Int), putV ⟨⟨id, qr, op, aa, tc, rd, ra, z, rc⟩, qs, an, ns, ar⟩ = .tuple #[.string T, .int .i64 E]) :
    Calls Try.prog 3 #[.agg #[.int .i64 id, .bool qr, .int .i64 op, .bool aa, .bool tc, .bool rd, .bool ra, .int .i64 z, .int .i64 rc, v0, v1, v2, v3], .string s] w fun e w' => e = .returned (.bool true) ∧ Below w.heap.size w w' := by
  have hb : Below w.heap.size w w := Below.refl _ _
  obtain ⟨x0, c0, rfl⟩ := row_slice h0.1
  obtain ⟨x1, c1, rfl⟩ := row_slice h1.1
  obtain ⟨x2, c2, rfl⟩ := row_slice h2.1
  obtain ⟨x3, c3, rfl⟩ := row_slice h3.1
  have H0 : Hid (QRow w (.slice x0 qs.length c0) qs) := h0
  have H1 : Hid (RRow w (.slice x1 an.length c1) an) := h1
  have H2 : Hid (RRow w (.slice x2 ns.length c2) ns) := h2
  have H3 : Hid (RRow w (.slice x3 ar.length c3) ar) := h3
  obtain ⟨T, E, hp⟩ := hcase
  have HP : Hid (putV ⟨⟨id, qr, op, aa, tc, rd, ra, z, rc⟩, qs, an, ns, ar⟩ = .tuple #[.string T, .int .i64 E]) := hp
  have ZZ : Hid (qs.length * 32 ≤ 140737488351232 ∧ an.length * 56 ≤ 140737488351232 ∧ ns.length * 56 ≤ 140737488351232 ∧ ar.length * 56 ≤ 140737488351232) := zz
  clear hp zz
  have KB := Blk.new w #[.int .i64 id, .bool qr, .int .i64 op, .bool aa, .bool tc, .bool rd, .bool ra, .int .i64 z, .int .i64 rc, .slice x0 qs.length c0, .slice x1 an.length c1, .slice x2 ns.length c2, .slice x3 ar.length c3] 27
  clear h0 h1 h2 h3
  have hfew := gM_few s
  obtain ⟨E2, hE2⟩ : ∃ E2, gE s = E2 := ⟨_, rfl⟩
  obtain ⟨x, hx⟩ : ∃ x, gM s = x := ⟨_, rfl⟩
  rw [hx] at hfew
  obtain ⟨⟨id2, qr2, op2, aa2, tc2, rd2, ra2, z2, rc2⟩, qs2, an2, ns2, ar2⟩ := x
  have HG : Hid (gM s = ⟨⟨id2, qr2, op2, aa2, tc2, rd2, ra2, z2, rc2⟩, qs2, an2, ns2, ar2⟩ ∧ gE s = E2) := ⟨hx, hE2⟩
  have HF : Hid (qs2.length ≤ 64 ∧ an2.length ≤ 64 ∧ ns2.length ≤ 64 ∧ ar2.length ≤ 64) := hfew
  clear hfew hE2 hx
  have u1 : True := trivial
  have u2 : True := trivial
  have u3 : True := trivial
  go_enter Try.func3, Try.ntmps3
  go_wp2_with (first
    | (go_at_call 14; refine (num_any _ _).mono ?_; rintro e w' ⟨rfl, hw⟩; obtain rfl := hw.symm)
    | (go_at_call 9; go_must (refine (copyMsg_any id qr op aa tc rd ra z rc qs an ns ar _ _ _ _ _ (H0.out.below (lay hb _)) (H1.out.below (lay hb _)) (H2.out.below (lay hb _)) (H3.out.below (lay hb _)) ZZ.out.1 ZZ.out.2.1 ZZ.out.2.2.1 ZZ.out.2.2.2).mono ?_); rintro e w1 ⟨a0, a1, a2, a3, j0, j1, j2, j3, rfl, r0, r1, r2, r3, bb⟩; replace hb := next (lay hb _) bb; replace KB := KB.below bb; have R0 : Hid (QRow w1 (.slice a0 qs.length j0) qs) := r0; have R1 : Hid (RRow w1 (.slice a1 an.length j1) an) := r1; have R2 : Hid (RRow w1 (.slice a2 ns.length j2) ns) := r2; have R3 : Hid (RRow w1 (.slice a3 ar.length j3) ar) := r3; have KX := Blk.new w1 #[.int .i64 id, .bool qr, .int .i64 op, .bool aa, .bool tc, .bool rd, .bool ra, .int .i64 z, .int .i64 rc, .slice a0 qs.length j0, .slice a1 an.length j1, .slice a2 ns.length j2, .slice a3 ar.length j3] 27; have hb1 : Below w1.heap.size w1 w1 := Below.refl _ _; clear r0 r1 r2 r3 bb)
    | (go_at_call 10; go_must (refine (put_h id qr op aa tc rd ra z rc qs an ns ar T _ _ _ _ _ _ HP.out (R0.out.below (lay hb1 _)) (R1.out.below (lay hb1 _)) (R2.out.below (lay hb1 _)) (R3.out.below (lay hb1 _))).mono ?_); rintro e w2 ⟨rfl, bb⟩; replace hb := next (lay hb _) bb; replace hb1 := next (lay hb1 _) bb; replace KB := (KB.alloc _).below bb; replace KX := KX.below bb; have m0 : w2.cell? ⟨w.heap.size, 0, none⟩ = some (.int .i64 id) := KB.cell 0; have m1 : w2.cell? ⟨w.heap.size, 1, none⟩ = some (.bool qr) := KB.cell 1; have m2 : w2.cell? ⟨w.heap.size, 2, none⟩ = some (.int .i64 op) := KB.cell 2; have m3 : w2.cell? ⟨w.heap.size, 3, none⟩ = some (.bool aa) := KB.cell 3; have m4 : w2.cell? ⟨w.heap.size, 4, none⟩ = some (.bool tc) := KB.cell 4; have m5 : w2.cell? ⟨w.heap.size, 5, none⟩ = some (.bool rd) := KB.cell 5; have m6 : w2.cell? ⟨w.heap.size, 6, none⟩ = some (.bool ra) := KB.cell 6; have m7 : w2.cell? ⟨w.heap.size, 7, none⟩ = some (.int .i64 z) := KB.cell 7; have m8 : w2.cell? ⟨w.heap.size, 8, none⟩ = some (.int .i64 rc) := KB.cell 8; have m9 : w2.cell? ⟨w.heap.size, 9, none⟩ = some (.slice x0 qs.length c0) := KB.cell 9; have m10 : w2.cell? ⟨w.heap.size, 10, none⟩ = some (.slice x1 an.length c1) := KB.cell 10; have m11 : w2.cell? ⟨w.heap.size, 11, none⟩ = some (.slice x2 ns.length c2) := KB.cell 11; have m12 : w2.cell? ⟨w.heap.size, 12, none⟩ = some (.slice x3 ar.length c3) := KB.cell 12; clear bb)
    | (go_at_call 11; go_must (refine (rput_h id qr op aa tc rd ra z rc qs an ns ar T _ _ _ _ _ _ HP.out (H0.out.below hb) (H1.out.below hb) (H2.out.below hb) (H3.out.below hb)).mono ?_); rintro e w3 ⟨rfl, bb⟩; replace hb := next hb bb; replace hb1 := next hb1 bb; replace KB := KB.below bb; replace KX := KX.below bb; clear m0 m1 m2 m3 m4 m5 m6 m7 m8 m9 m10 m11 m12; clear bb)
    | (go_at_call 12; have _t := u1; go_must (refine (get_h s id2 qr2 op2 aa2 tc2 rd2 ra2 z2 rc2 qs2 an2 ns2 ar2 E2 _ hs HG.out).mono ?_); rintro e w4 ⟨y0, y1, y2, y3, n0, n1, n2, n3, k0, k1, k2, k3, rfl, oo, bb⟩; have hle3 : w.heap.size ≤ w3.heap.size := hb.size; replace hb := next hb bb; replace hb1 := next hb1 bb; replace KB := KB.below bb; replace KX := KX.below bb; have OC : Hid (Own w3.heap.size w4 (.slice y0 n0 k0) (.slice y1 n1 k1) (.slice y2 n2 k2) (.slice y3 n3 k3) ⟨⟨id2, qr2, op2, aa2, tc2, rd2, ra2, z2, rc2⟩, qs2, an2, ns2, ar2⟩) := oo; have KC := Blk.new w4 #[.int .i64 id2, .bool qr2, .int .i64 op2, .bool aa2, .bool tc2, .bool rd2, .bool ra2, .int .i64 z2, .int .i64 rc2, .slice y0 n0 k0, .slice y1 n1 k1, .slice y2 n2 k2, .slice y3 n3 k3] 27; have hb4 : Below w4.heap.size w4 w4 := Below.refl _ _; clear oo bb u1 _t)
    | (go_at_call 13; go_must (refine (rget_h s id2 qr2 op2 aa2 tc2 rd2 ra2 z2 rc2 qs2 an2 ns2 ar2 E2 _ hs HG.out).mono ?_); rintro e w5 ⟨f0, f1, f2, f3, g0, g1, g2, g3, l0, l1, l2, l3, rfl, oo, bb⟩; replace hb := next (lay hb _) bb; replace hb1 := next (lay hb1 _) bb; replace hb4 := next (lay hb4 _) bb; replace KB := (KB.alloc _).below bb; replace KX := (KX.alloc _).below bb; replace KC := KC.below bb; have OD : Hid (Own w4.heap.size w5 (.slice f0 g0 l0) (.slice f1 g1 l1) (.slice f2 g2 l2) (.slice f3 g3 l3) ⟨⟨id2, qr2, op2, aa2, tc2, rd2, ra2, z2, rc2⟩, qs2, an2, ns2, ar2⟩) := ⟨own_base oo.q (by rw [World.size_alloc]; omega), own_base oo.an (by rw [World.size_alloc]; omega), own_base oo.ns (by rw [World.size_alloc]; omega), own_base oo.ar (by rw [World.size_alloc]; omega), oo.d12, oo.d13, oo.d23⟩; have KD := Blk.new w5 #[.int .i64 id2, .bool qr2, .int .i64 op2, .bool aa2, .bool tc2, .bool rd2, .bool ra2, .int .i64 z2, .int .i64 rc2, .slice f0 g0 l0, .slice f1 g1 l1, .slice f2 g2 l2, .slice f3 g3 l3] 27; have hb5 : Below w5.heap.size w5 w5 := Below.refl _ _; have lt5 : w4.heap.size ≤ w5.heap.size := hb4.size; have ltB := KB.lt; have ltX := KX.lt; have ltC := KC.lt; have xc0 : w5.cell? ⟨w4.heap.size, 0, none⟩ = some (.int .i64 id2) := KC.cell 0; have xc1 : w5.cell? ⟨w4.heap.size, 1, none⟩ = some (.bool qr2) := KC.cell 1; have xc2 : w5.cell? ⟨w4.heap.size, 2, none⟩ = some (.int .i64 op2) := KC.cell 2; have xc3 : w5.cell? ⟨w4.heap.size, 3, none⟩ = some (.bool aa2) := KC.cell 3; have xc4 : w5.cell? ⟨w4.heap.size, 4, none⟩ = some (.bool tc2) := KC.cell 4; have xc5 : w5.cell? ⟨w4.heap.size, 5, none⟩ = some (.bool rd2) := KC.cell 5; have xc6 : w5.cell? ⟨w4.heap.size, 6, none⟩ = some (.bool ra2) := KC.cell 6; have xc7 : w5.cell? ⟨w4.heap.size, 7, none⟩ = some (.int .i64 z2) := KC.cell 7; have xc8 : w5.cell? ⟨w4.heap.size, 8, none⟩ = some (.int .i64 rc2) := KC.cell 8; have xc9 : w5.cell? ⟨w4.heap.size, 9, none⟩ = some (.slice y0 n0 k0) := KC.cell 9; have xc10 : w5.cell? ⟨w4.heap.size, 10, none⟩ = some (.slice y1 n1 k1) := KC.cell 10; have xc11 : w5.cell? ⟨w4.heap.size, 11, none⟩ = some (.slice y2 n2 k2) := KC.cell 11; have xc12 : w5.cell? ⟨w4.heap.size, 12, none⟩ = some (.slice y3 n3 k3) := KC.cell 12; clear oo bb)
    | (go_at_call 15; have _t := u2; go_must (refine (same_h id2 qr2 op2 aa2 tc2 rd2 ra2 z2 rc2 qs2 an2 ns2 ar2 _ _ _ _ _ _ _ _ _ (((OC.out.below hb4).mr HF.out).below (lay (Below.refl _ _) _)) ((OD.out.mr HF.out).below (lay (Below.refl _ _) _))).mono ?_); rintro e w6 ⟨rfl, bb⟩; replace hb := next (lay hb _) bb; replace hb1 := next (lay hb1 _) bb; replace hb4 := next (lay hb4 _) bb; replace hb5 := next (lay hb5 _) bb; replace KB := (KB.alloc _).below bb; replace KX := (KX.alloc _).below bb; replace KC := (KC.alloc _).below bb; replace KD := KD.below bb; clear xc0 xc1 xc2 xc3 xc4 xc5 xc6 xc7 xc8 xc9 xc10 xc11 xc12; have m0 : w6.cell? ⟨w.heap.size, 0, none⟩ = some (.int .i64 id) := KB.cell 0; have m1 : w6.cell? ⟨w.heap.size, 1, none⟩ = some (.bool qr) := KB.cell 1; have m2 : w6.cell? ⟨w.heap.size, 2, none⟩ = some (.int .i64 op) := KB.cell 2; have m3 : w6.cell? ⟨w.heap.size, 3, none⟩ = some (.bool aa) := KB.cell 3; have m4 : w6.cell? ⟨w.heap.size, 4, none⟩ = some (.bool tc) := KB.cell 4; have m5 : w6.cell? ⟨w.heap.size, 5, none⟩ = some (.bool rd) := KB.cell 5; have m6 : w6.cell? ⟨w.heap.size, 6, none⟩ = some (.bool ra) := KB.cell 6; have m7 : w6.cell? ⟨w.heap.size, 7, none⟩ = some (.int .i64 z) := KB.cell 7; have m8 : w6.cell? ⟨w.heap.size, 8, none⟩ = some (.int .i64 rc) := KB.cell 8; have m9 : w6.cell? ⟨w.heap.size, 9, none⟩ = some (.slice x0 qs.length c0) := KB.cell 9; have m10 : w6.cell? ⟨w.heap.size, 10, none⟩ = some (.slice x1 an.length c1) := KB.cell 10; have m11 : w6.cell? ⟨w.heap.size, 11, none⟩ = some (.slice x2 ns.length c2) := KB.cell 11; have m12 : w6.cell? ⟨w.heap.size, 12, none⟩ = some (.slice x3 ar.length c3) := KB.cell 12; have xd0 : w6.cell? ⟨w1.heap.size, 0, none⟩ = some (.int .i64 id) := KX.cell 0; have xd1 : w6.cell? ⟨w1.heap.size, 1, none⟩ = some (.bool qr) := KX.cell 1; have xd2 : w6.cell? ⟨w1.heap.size, 2, none⟩ = some (.int .i64 op) := KX.cell 2; have xd3 : w6.cell? ⟨w1.heap.size, 3, none⟩ = some (.bool aa) := KX.cell 3; have xd4 : w6.cell? ⟨w1.heap.size, 4, none⟩ = some (.bool tc) := KX.cell 4; have xd5 : w6.cell? ⟨w1.heap.size, 5, none⟩ = some (.bool rd) := KX.cell 5; have xd6 : w6.cell? ⟨w1.heap.size, 6, none⟩ = some (.bool ra) := KX.cell 6; have xd7 : w6.cell? ⟨w1.heap.size, 7, none⟩ = some (.int .i64 z) := KX.cell 7; have xd8 : w6.cell? ⟨w1.heap.size, 8, none⟩ = some (.int .i64 rc) := KX.cell 8; have xd9 : w6.cell? ⟨w1.heap.size, 9, none⟩ = some (.slice a0 qs.length j0) := KX.cell 9; have xd10 : w6.cell? ⟨w1.heap.size, 10, none⟩ = some (.slice a1 an.length j1) := KX.cell 10; have xd11 : w6.cell? ⟨w1.heap.size, 11, none⟩ = some (.slice a2 ns.length j2) := KX.cell 11; have xd12 : w6.cell? ⟨w1.heap.size, 12, none⟩ = some (.slice a3 ar.length j3) := KX.cell 12; clear bb u2 _t)
    | (go_at_call 15; have _t := u3; go_must (refine (same_h id qr op aa tc rd ra z rc qs an ns ar _ _ _ _ _ _ _ _ _ (MRow.mr (m := ⟨⟨id, qr, op, aa, tc, rd, ra, z, rc⟩, qs, an, ns, ar⟩) (R0.out.below hb1) (R1.out.below hb1) (R2.out.below hb1) (R3.out.below hb1)) (MRow.mr (m := ⟨⟨id, qr, op, aa, tc, rd, ra, z, rc⟩, qs, an, ns, ar⟩) (H0.out.below hb) (H1.out.below hb) (H2.out.below hb) (H3.out.below hb))).mono ?_); rintro e w7 ⟨rfl, bb⟩; replace hb := next hb bb; replace hb4 := next hb4 bb; replace hb5 := next hb5 bb; replace KC := KC.below bb; replace KD := KD.below bb; clear m0 m1 m2 m3 m4 m5 m6 m7 m8 m9 m10 m11 m12 xd0 xd1 xd2 xd3 xd4 xd5 xd6 xd7 xd8 xd9 xd10 xd11 xd12 hb1 KB KX ltB ltX; have xc0 : w7.cell? ⟨w4.heap.size, 0, none⟩ = some (.int .i64 id2) := KC.cell 0; have xc1 : w7.cell? ⟨w4.heap.size, 1, none⟩ = some (.bool qr2) := KC.cell 1; have xc2 : w7.cell? ⟨w4.heap.size, 2, none⟩ = some (.int .i64 op2) := KC.cell 2; have xc3 : w7.cell? ⟨w4.heap.size, 3, none⟩ = some (.bool aa2) := KC.cell 3; have xc4 : w7.cell? ⟨w4.heap.size, 4, none⟩ = some (.bool tc2) := KC.cell 4; have xc5 : w7.cell? ⟨w4.heap.size, 5, none⟩ = some (.bool rd2) := KC.cell 5; have xc6 : w7.cell? ⟨w4.heap.size, 6, none⟩ = some (.bool ra2) := KC.cell 6; have xc7 : w7.cell? ⟨w4.heap.size, 7, none⟩ = some (.int .i64 z2) := KC.cell 7; have xc8 : w7.cell? ⟨w4.heap.size, 8, none⟩ = some (.int .i64 rc2) := KC.cell 8; have xc9 : w7.cell? ⟨w4.heap.size, 9, none⟩ = some (.slice y0 n0 k0) := KC.cell 9; have xc10 : w7.cell? ⟨w4.heap.size, 10, none⟩ = some (.slice y1 n1 k1) := KC.cell 10; have xc11 : w7.cell? ⟨w4.heap.size, 11, none⟩ = some (.slice y2 n2 k2) := KC.cell 11; have xc12 : w7.cell? ⟨w4.heap.size, 12, none⟩ = some (.slice y3 n3 k3) := KC.cell 12; clear bb u3 _t)
    | (go_at_call 16; go_must (refine (spoilMsg_any id2 qr2 op2 aa2 tc2 rd2 ra2 z2 rc2 qs2 an2 ns2 ar2 _ _ _ _ _ _ _ _ _ _ _ _ (OC.out.below hb4) HF.out).mono ?_); rintro e w8 ⟨rfl, tt⟩; have hSB : ∀ k, SB (.slice y0 n0 k0) (.slice y1 n1 k1) (.slice y2 n2 k2) (.slice y3 n3 k3) k → w3.heap.size ≤ k ∧ k < w4.heap.size := (fun k hk => OC.out.sb hk); replace hb : Below w.heap.size w w8 := Turn.below hb tt hb.size (fun i e => Nat.le_trans hle3 (hSB i e).1); have OD8 : Hid (Own w4.heap.size w8 (.slice f0 g0 l0) (.slice f1 g1 l1) (.slice f2 g2 l2) (.slice f3 g3 l3) ⟨⟨id2, qr2, op2, aa2, tc2, rd2, ra2, z2, rc2⟩, qs2, an2, ns2, ar2⟩) := Own.turn (OD.out.below hb5) tt (fun k e => (hSB k e).2); replace KD := tt.blk KD (fun e => Nat.not_lt.2 lt5 (hSB _ e).2); clear xc0 xc1 xc2 xc3 xc4 xc5 xc6 xc7 xc8 xc9 xc10 xc11 xc12 hb4 hb5 KC ltC OC OD tt hSB)
    | (go_at_call 12; go_must (refine (get_h s id2 qr2 op2 aa2 tc2 rd2 ra2 z2 rc2 qs2 an2 ns2 ar2 E2 _ hs HG.out).mono ?_); rintro e w9 ⟨o0, o1, o2, o3, q0, q1, q2, q3, t0, t1, t2, t3, rfl, oo, bb⟩; replace hb := next hb bb; replace KD := KD.below bb; have ltD := KD.lt; have OO : Hid (MR w9 (.slice o0 q0 t0) (.slice o1 q1 t1) (.slice o2 q2 t2) (.slice o3 q3 t3) ⟨⟨id2, qr2, op2, aa2, tc2, rd2, ra2, z2, rc2⟩, qs2, an2, ns2, ar2⟩) := oo.mr HF.out; have OD9 : Hid (MR w9 (.slice f0 g0 l0) (.slice f1 g1 l1) (.slice f2 g2 l2) (.slice f3 g3 l3) ⟨⟨id2, qr2, op2, aa2, tc2, rd2, ra2, z2, rc2⟩, qs2, an2, ns2, ar2⟩) := (OD8.out.below bb).mr HF.out; have xd0 : w9.cell? ⟨w5.heap.size, 0, none⟩ = some (.int .i64 id2) := KD.cell 0; have xd1 : w9.cell? ⟨w5.heap.size, 1, none⟩ = some (.bool qr2) := KD.cell 1; have xd2 : w9.cell? ⟨w5.heap.size, 2, none⟩ = some (.int .i64 op2) := KD.cell 2; have xd3 : w9.cell? ⟨w5.heap.size, 3, none⟩ = some (.bool aa2) := KD.cell 3; have xd4 : w9.cell? ⟨w5.heap.size, 4, none⟩ = some (.bool tc2) := KD.cell 4; have xd5 : w9.cell? ⟨w5.heap.size, 5, none⟩ = some (.bool rd2) := KD.cell 5; have xd6 : w9.cell? ⟨w5.heap.size, 6, none⟩ = some (.bool ra2) := KD.cell 6; have xd7 : w9.cell? ⟨w5.heap.size, 7, none⟩ = some (.int .i64 z2) := KD.cell 7; have xd8 : w9.cell? ⟨w5.heap.size, 8, none⟩ = some (.int .i64 rc2) := KD.cell 8; have xd9 : w9.cell? ⟨w5.heap.size, 9, none⟩ = some (.slice f0 g0 l0) := KD.cell 9; have xd10 : w9.cell? ⟨w5.heap.size, 10, none⟩ = some (.slice f1 g1 l1) := KD.cell 10; have xd11 : w9.cell? ⟨w5.heap.size, 11, none⟩ = some (.slice f2 g2 l2) := KD.cell 11; have xd12 : w9.cell? ⟨w5.heap.size, 12, none⟩ = some (.slice f3 g3 l3) := KD.cell 12; clear oo bb OD8)
    | (go_at_call 15; go_must (refine (same_h id2 qr2 op2 aa2 tc2 rd2 ra2 z2 rc2 qs2 an2 ns2 ar2 _ _ _ _ _ _ _ _ _ (OO.out.below (lay (Below.refl _ _) _)) (OD9.out.below (lay (Below.refl _ _) _))).mono ?_); rintro e w10 ⟨rfl, bb⟩; replace hb := next (lay hb _) bb; clear bb)
    | (go_at_call 17; go_must (refine (awake_any _).mono ?_); rintro e w11 ⟨rfl, bb⟩; replace hb := next hb bb; clear bb))
  go_ret
  exact ⟨ret_bool (by simp), hb⟩

theorem walk (m : Ms) (v0 v1 v2 v3 : Value) (s : ByteArray) (hs : s.size ≤ maxLen) (zz : m.qs.length * 32 ≤ 140737488351232 ∧ m.an.length * 56 ≤ 140737488351232 ∧ m.ns.length * 56 ≤ 140737488351232 ∧ m.ar.length * 56 ≤ 140737488351232) (_ : s.size ≤ 140737488351232) (w : World) (h0 : QRow w v0 m.qs) (h1 : RRow w v1 m.an) (h2 : RRow w v2 m.ns) (h3 : RRow w v3 m.ar) :
    Calls Try.prog 3 #[.agg (msgC m.h v0 v1 v2 v3), .string s] w fun e w' => e = .returned (.bool true) ∧ Below w.heap.size w w' := by
  have hp : ∃ (T : ByteArray) (E : Int), putV m = .tuple #[.string T, .int .i64 E] := by
    rcases put_ways m with ⟨T, a, _⟩ | ⟨E, a, _⟩
    · exact ⟨T, 0, a⟩
    · exact ⟨_, E, a⟩
  obtain ⟨⟨id, qr, op, aa, tc, rd, ra, z, rc⟩, qs, an, ns, ar⟩ := m
  exact w_all id qr op aa tc rd ra z rc qs an ns ar v0 v1 v2 v3 s hs w h0 h1 h2 h3 zz hp

theorem own : ownKnob Try.prog.godebug = none := by kernel_rfl
theorem laidOut : laidOutB Try.prog = true := by kernel_rfl

set_option maxRecDepth 100000 in
theorem lifted (os : Os) (started : os.Started) (H : Type) (enc : TypeId × Value → H) :
    ReturnsInHanded {} Try.checked os 3 .any (Rows.wiresSpec.pre6 enc Try.prog Try.f3 Rows.wiresRow.domain false) (Rows.wiresSpec.post enc Try.prog Try.f3 false true false false) := by
  refine returnsInHanded_of_change_sized (C := Try.checked) own started (by kernel_rfl) Try.func3
    (ChangeSpec.witness6 (enc := enc) (C := Try.checked) false ⟨#[], #[.agg (msgC hdZ (.slice none 0 0) (.slice none 0 0) (.slice none 0 0) (.slice none 0 0)), .string ByteArray.empty], []⟩ 8 (by kernel_rfl) (by kernel_rfl) (by kernel_rfl) (by kernel_rfl)) ?_
  intro W base args ds gs before hval0 hW _ hsz0 _
  have hval : ∀ (j : Nat) t v, Try.f3.params[j]? = some t → args[j]? = some v → Value.okWide Try.prog W .any base t v := hval0
  have hsz : (DataW.weightsEach Try.prog (Try.f3.params.toList ++ Rows.wiresSpec.plain.varTypes Try.prog) (ds ++ gs)).all (· ≤ reachBytes) = true := hsz0
  have hW' := hW
  obtain ⟨p, q, hA0, hV, rfl, hfz, hnd⟩ := hW
  have hA : DataW.TrodAll enc Try.prog W 0 (fun _ => true) true Try.f3.params.toList args.toList ds p := hA0
  rw [Try.params3] at hA hval hsz
  obtain ⟨v0, vs0, d0, ds0, p0, q0, hargs, rfl, rfl, h0, r0⟩ := trodAll_cons hA
  obtain ⟨v1, vs1, d1, ds1, p1, q1, rfl, rfl, rfl, h1, r1⟩ := trodAll_cons r0
  obtain ⟨rfl, rfl, rfl⟩ := trodAll_nil r1
  obtain rfl : args = #[v0, v1] := by cases args; simp_all
  obtain ⟨rfl, rfl⟩ := trodVars_none hV
  obtain ⟨a0, b00, b01, b02, b03, rfl, w00, w01, w02, w03⟩ := open_msg (hval 0 27 v0 rfl rfl) h0
  obtain ⟨a1, rfl, rfl, rfl, w1⟩ := open_string Try.underlying9 (hval 1 9 v1 rfl rfl) h1
  have hlt0 : ∀ x ∈ p0, x.block < W.heap.size := fun x hx => by
    have := hW'.lt x (by simp [hx])
    simpa using this
  have z1 : a1.size ≤ 140737488351232 := by have := sized_string hsz (j := 1) (t := 9) rfl rfl; rw [data_len] at this; unfold reachBytes at this; omega
  have z0 := msg_sized h0 (weights_all hsz (j := 0) rfl rfl) w00 w01 w02 w03
  clear hA0 hval0 hsz0 hsz
  simp only [List.append_nil] at hW'
  refine (walk a0 b00 b01 b02 b03 a1 w1 z0 z1 W w00 w01 w02 w03).mono fun e W' ⟨he, bel⟩ => ?_
  subst he
  exact ⟨_, rfl, _, _, _, [], _, [], hW', trodAll_mk1 (shut_bool Try.underlying4 _), (trodAll_cons_mk (Below.trod laidOut (by kernel_rfl) (of_decide_eq_true (by kernel_rfl)) h0 bel hlt0) (trodAll_cons_mk (shut_string Try.underlying9 w1) trodAll_mk0)), rfl, bel.frame _, fun h => by cases h⟩

/-- The statement. -/
theorem proved : Rows.WiresSaid :=
  OpenClaim.holds_of_wide 3 Try.f3 rfl rfl rfl rfl rfl rfl rfl ⟨rfl, rfl, rfl, rfl, rfl⟩ rfl rfl rfl rfl rfl (by kernel_rfl) Try.func3 (by kernel_rfl)
    (of_decide_eq_true (by kernel_rfl)) (by unfold Func.isWrapper; first | (rw [if_pos (by decide +kernel)]; kernel_rfl) | (rw [if_neg (by decide +kernel)]; exact ⟨rfl, rfl⟩))
    (fun os started H enc _ => lifted os started H enc)
#print axioms proved

end Go.Proofs.Ytdogjbblnjjaaaa.wires
