/- ReplyForms' ways: Qr right, Op right. -/
import Derived.Test.YtbffnicfibfceaaXMaD
namespace Go.Proofs.Ytbffnicfibfceaa.Ma
open Go.RowKit
open Pl

set_option maxRecDepth 20000 in
set_option maxHeartbeats 4000000 in
theorem f0000a (wrong op K1 K2 K4 K8 e1: Int) (id : Int) (qr : Bool) (op0 : Int) (aa tc rd ra : Bool) (z rc : Int) (an ns ar : List Rc) (x0 x1 x2 x3 : Option Addr) (n0 c0 c1 c2 c3 : Nat) (w : World) (i1 : bits .and .i64 wrong 1 = K1) (i2 : bits .and .i64 wrong 2 = K2) (i4 : bits .and .i64 wrong 4 = K4) (i8 : bits .and .i64 wrong 8 = K8) (j1 : ¬ K1 = 1) (j2 : ¬ K2 = 2) (j4 : ¬ K4 = 4) (j8 : ¬ K8 = 8) (k1 : bits .and .i64 op 65535 = e1) (h1 : RRow w (.slice x1 an.length c1) an) (h2 : RRow w (.slice x2 ns.length c2) ns) (h3 : RRow w (.slice x3 ar.length c3) ar) (T : ByteArray) (hp : putV ⟨⟨e1, true, 0, true, false, false, false, 0, 3⟩, [⟨⟨#[1, 97, 0]⟩, 1, 1⟩], an, ns, ar⟩ = .tuple #[.string T, .int .i64 0]) (hr : (rpM T = ⟨⟨e1, true, 0, true, false, false, false, 0, 3⟩, [⟨⟨#[1, 97, 0]⟩, 1, 1⟩], an, ns, ar⟩ ∧ rpE T = 0)) (hr2 : rpM (T ++ ⟨#[97]⟩) = msZ ∧ rpE (T ++ ⟨#[97]⟩) = 2000) (hT : T.size ≤ 4096) :
    Calls Try.prog 4 #[.int .i64 wrong, .int .i64 op, .agg #[.int .i64 id, .bool qr, .int .i64 op0, .bool aa, .bool tc, .bool rd, .bool ra, .int .i64 z, .int .i64 rc, .slice x0 n0 c0, .slice x1 an.length c1, .slice x2 ns.length c2, .slice x3 ar.length c3]] w fun e w' => e = .returned (.bool true) ∧ Below w.heap.size w w' := by
  have hb : Below w.heap.size w w := Below.refl _ _
  have KB := Blk.new w #[.int .i64 id, .bool qr, .int .i64 op0, .bool aa, .bool tc, .bool rd, .bool ra, .int .i64 z, .int .i64 rc, .slice x0 n0 c0, .slice x1 an.length c1, .slice x2 ns.length c2, .slice x3 ar.length c3] 27
  have H1 : Hid (RRow w (.slice x1 an.length c1) an) := h1
  have H2 : Hid (RRow w (.slice x2 ns.length c2) ns) := h2
  have H3 : Hid (RRow w (.slice x3 ar.length c3) ar) := h3
  have HP : Hid (putV ⟨⟨e1, true, 0, true, false, false, false, 0, 3⟩, [⟨⟨#[1, 97, 0]⟩, 1, 1⟩], an, ns, ar⟩ = .tuple #[.string T, .int .i64 0]) := hp
  have j1' : (K1 == 1) = false := by simpa using j1
  have j2' : (K2 == 2) = false := by simpa using j2
  have j4' : (K4 == 4) = false := by simpa using j4
  have j8' : (K8 == 8) = false := by simpa using j8
  have HR : Hid (rpM T = ⟨⟨e1, true, 0, true, false, false, false, 0, 3⟩, [⟨⟨#[1, 97, 0]⟩, 1, 1⟩], an, ns, ar⟩ ∧ rpE T = 0) := hr
  have HR2 : Hid (rpM (T ++ ⟨#[97]⟩) = msZ ∧ rpE (T ++ ⟨#[97]⟩) = 2000) := hr2
  have hT' : (T.size : Int) ≤ 4096 := by omega
  have HS : Hid (T.size ≤ maxLen ∧ (T ++ ⟨#[97]⟩).size ≤ maxLen) := ⟨by unfold maxLen; omega, by rw [ByteArray.size_append]; show T.size + 1 ≤ maxLen; unfold maxLen; omega⟩
  have HX := fun u => reply_z (T ++ ⟨#[97]⟩) u HS.out.2 HR2.out
  have t1 : True := trivial
  clear hp hr hr2 hT h1 h2 h3 HR2
  go_enter Try.func4, Try.ntmps4
  go_wp2_with (first
    | (go_at_call 9; refine (num_any _ _).mono ?_; rintro e w' ⟨rfl, hw⟩; obtain rfl := hw.symm)
    | (go_at_call 10; go_must (refine (Ma.awake_any _).mono ?_); rintro e w0 ⟨rfl, bb⟩; replace hb := next (lay hb _) bb; replace KB := KB.below bb; obtain ⟨m0, m1, m2, m3, m4, m5, m6, m7, m8, m9, m10, m11, m12⟩ := blk13 (h := ⟨id, qr, op0, aa, tc, rd, ra, z, rc⟩) KB; simp only at m0 m1 m2 m3 m4 m5 m6 m7 m8; have ltB := KB.lt; have lt0 := hb.size; clear bb KB)
    | (go_at_call 7; go_must (refine (rput_h e1 true 0 true false false false 0 3 [⟨⟨#[1, 97, 0]⟩, 1, 1⟩] an ns ar T 0 _ _ _ _ _ HP.out (qrow_lit (q := ⟨⟨#[1, 97, 0]⟩, 1, 1⟩) (rf_new w0 #[.int .i64 e1, .bool true, .int .i64 0, .bool true, .bool false, .bool false, .bool false, .int .i64 0, .int .i64 3, .slice (some ⟨w0.heap.size + 1, 0, none⟩) 1 1, .slice x1 an.length c1, .slice x2 ns.length c2, .slice x3 ar.length c3]).2 (by decide)) (H1.out.below (lay (lay hb _) _)) (H2.out.below (lay (lay hb _) _)) (H3.out.below (lay (lay hb _) _))).mono ?_); rintro e w1 ⟨rfl, bb⟩; have KX := (rf_new w0 #[.int .i64 e1, .bool true, .int .i64 0, .bool true, .bool false, .bool false, .bool false, .int .i64 0, .int .i64 3, .slice (some ⟨w0.heap.size + 1, 0, none⟩) 1 1, .slice x1 an.length c1, .slice x2 ns.length c2, .slice x3 ar.length c3]).1.below bb; have KQ := (rf_new w0 #[.int .i64 e1, .bool true, .int .i64 0, .bool true, .bool false, .bool false, .bool false, .int .i64 0, .int .i64 3, .slice (some ⟨w0.heap.size + 1, 0, none⟩) 1 1, .slice x1 an.length c1, .slice x2 ns.length c2, .slice x3 ar.length c3]).2.below bb; clear m0 m1 m2 m3 m4 m5 m6 m7 m8 m9 m10 m11 m12 ltB; replace hb := next (lay (lay hb _) _) bb; clear bb)
    | (go_at_call 5; have _t := t1; go_must (refine (reply_h T e1 true 0 true false false false 0 3 [⟨⟨#[1, 97, 0]⟩, 1, 1⟩] an ns ar 0 _ HS.out.1 HR.out).mono ?_); rintro e w2 ⟨a0, a1, a2, a3, d0, d1, d2, d3, rfl, oo, bb⟩; replace hb := next hb bb; replace KX := KX.below bb; replace KQ := KQ.below bb; have hfew := rpM_few T; rw [HR.out.1] at hfew; have OY : Hid (MR w2 (.slice a0 1 d0) (.slice a1 an.length d1) (.slice a2 ns.length d2) (.slice a3 ar.length d3) ⟨⟨e1, true, 0, true, false, false, false, 0, 3⟩, [⟨⟨#[1, 97, 0]⟩, 1, 1⟩], an, ns, ar⟩) := oo.mr hfew; have KY := Blk.new w2 #[.int .i64 e1, .bool true, .int .i64 0, .bool true, .bool false, .bool false, .bool false, .int .i64 0, .int .i64 3, .slice a0 1 d0, .slice a1 an.length d1, .slice a2 ns.length d2, .slice a3 ar.length d3] 27; clear bb t1 _t oo hfew)
    | (go_at_call 5; go_must (refine (HX _).mono ?_); rintro e w3 ⟨b0, b1, b2, b3, f0, f1, f2, f3, rfl, bb⟩; replace hb := next (lay hb _) bb; replace KX := (KX.alloc _).below bb; replace KQ := (KQ.alloc _).below bb; replace KY := KY.below bb; replace OY : Hid (MR w3 (.slice a0 1 d0) (.slice a1 an.length d1) (.slice a2 ns.length d2) (.slice a3 ar.length d3) ⟨⟨e1, true, 0, true, false, false, false, 0, 3⟩, [⟨⟨#[1, 97, 0]⟩, 1, 1⟩], an, ns, ar⟩) := OY.out.below (next (lay (Below.refl _ _) _) bb); have ltX := KX.lt; have ltY := KY.lt; have p0 : w3.cell? ⟨w0.heap.size, 0, none⟩ = some (.int .i64 e1) := KX.cell 0; have p1 : w3.cell? ⟨w0.heap.size, 1, none⟩ = some (.bool true) := KX.cell 1; have p2 : w3.cell? ⟨w0.heap.size, 2, none⟩ = some (.int .i64 0) := KX.cell 2; have p3 : w3.cell? ⟨w0.heap.size, 3, none⟩ = some (.bool true) := KX.cell 3; have p4 : w3.cell? ⟨w0.heap.size, 4, none⟩ = some (.bool false) := KX.cell 4; have p5 : w3.cell? ⟨w0.heap.size, 5, none⟩ = some (.bool false) := KX.cell 5; have p6 : w3.cell? ⟨w0.heap.size, 6, none⟩ = some (.bool false) := KX.cell 6; have p7 : w3.cell? ⟨w0.heap.size, 7, none⟩ = some (.int .i64 0) := KX.cell 7; have p8 : w3.cell? ⟨w0.heap.size, 8, none⟩ = some (.int .i64 3) := KX.cell 8; have p9 : w3.cell? ⟨w0.heap.size, 9, none⟩ = some (.slice (some ⟨w0.heap.size + 1, 0, none⟩) 1 1) := KX.cell 9; have p10 : w3.cell? ⟨w0.heap.size, 10, none⟩ = some (.slice x1 an.length c1) := KX.cell 10; have p11 : w3.cell? ⟨w0.heap.size, 11, none⟩ = some (.slice x2 ns.length c2) := KX.cell 11; have p12 : w3.cell? ⟨w0.heap.size, 12, none⟩ = some (.slice x3 ar.length c3) := KX.cell 12; have q0 : w3.cell? ⟨w2.heap.size, 0, none⟩ = some (.int .i64 e1) := KY.cell 0; have q1 : w3.cell? ⟨w2.heap.size, 1, none⟩ = some (.bool true) := KY.cell 1; have q2 : w3.cell? ⟨w2.heap.size, 2, none⟩ = some (.int .i64 0) := KY.cell 2; have q3 : w3.cell? ⟨w2.heap.size, 3, none⟩ = some (.bool true) := KY.cell 3; have q4 : w3.cell? ⟨w2.heap.size, 4, none⟩ = some (.bool false) := KY.cell 4; have q5 : w3.cell? ⟨w2.heap.size, 5, none⟩ = some (.bool false) := KY.cell 5; have q6 : w3.cell? ⟨w2.heap.size, 6, none⟩ = some (.bool false) := KY.cell 6; have q7 : w3.cell? ⟨w2.heap.size, 7, none⟩ = some (.int .i64 0) := KY.cell 7; have q8 : w3.cell? ⟨w2.heap.size, 8, none⟩ = some (.int .i64 3) := KY.cell 8; have q9 : w3.cell? ⟨w2.heap.size, 9, none⟩ = some (.slice a0 1 d0) := KY.cell 9; have q10 : w3.cell? ⟨w2.heap.size, 10, none⟩ = some (.slice a1 an.length d1) := KY.cell 10; have q11 : w3.cell? ⟨w2.heap.size, 11, none⟩ = some (.slice a2 ns.length d2) := KY.cell 11; have q12 : w3.cell? ⟨w2.heap.size, 12, none⟩ = some (.slice a3 ar.length d3) := KY.cell 12; clear bb)
    | (go_at_call 8; go_must (refine (same_h e1 true 0 true false false false 0 3 [⟨⟨#[1, 97, 0]⟩, 1, 1⟩] an ns ar _ _ _ _ _ _ _ _ _ (OY.out.below (lay (Below.refl _ _) _)) (MRow.mr (m := ⟨⟨e1, true, 0, true, false, false, false, 0, 3⟩, [⟨⟨#[1, 97, 0]⟩, 1, 1⟩], an, ns, ar⟩) (qrow_lit (q := ⟨⟨#[1, 97, 0]⟩, 1, 1⟩) (KQ.alloc _) (by decide)) (H1.out.below (lay hb _)) (H2.out.below (lay hb _)) (H3.out.below (lay hb _)))).mono ?_); rintro e w4 ⟨rfl, bb⟩; replace hb := next (lay hb _) bb; clear bb))
  go_ret
  exact ⟨ret_bool (by simp), hb⟩

set_option maxRecDepth 20000 in
set_option maxHeartbeats 4000000 in
theorem f0000b (wrong op K1 K2 K4 K8 e1: Int) (id : Int) (qr : Bool) (op0 : Int) (aa tc rd ra : Bool) (z rc : Int) (an ns ar : List Rc) (x0 x1 x2 x3 : Option Addr) (n0 c0 c1 c2 c3 : Nat) (w : World) (i1 : bits .and .i64 wrong 1 = K1) (i2 : bits .and .i64 wrong 2 = K2) (i4 : bits .and .i64 wrong 4 = K4) (i8 : bits .and .i64 wrong 8 = K8) (j1 : ¬ K1 = 1) (j2 : ¬ K2 = 2) (j4 : ¬ K4 = 4) (j8 : ¬ K8 = 8) (k1 : bits .and .i64 op 65535 = e1) (h1 : RRow w (.slice x1 an.length c1) an) (h2 : RRow w (.slice x2 ns.length c2) ns) (h3 : RRow w (.slice x3 ar.length c3) ar) (T : ByteArray) (E : Int) (hp : putV ⟨⟨e1, true, 0, true, false, false, false, 0, 3⟩, [⟨⟨#[1, 97, 0]⟩, 1, 1⟩], an, ns, ar⟩ = .tuple #[.string T, .int .i64 E]) (hE : ¬ E = 0) :
    Calls Try.prog 4 #[.int .i64 wrong, .int .i64 op, .agg #[.int .i64 id, .bool qr, .int .i64 op0, .bool aa, .bool tc, .bool rd, .bool ra, .int .i64 z, .int .i64 rc, .slice x0 n0 c0, .slice x1 an.length c1, .slice x2 ns.length c2, .slice x3 ar.length c3]] w fun e w' => e = .returned (.bool true) ∧ Below w.heap.size w w' := by
  have hb : Below w.heap.size w w := Below.refl _ _
  have KB := Blk.new w #[.int .i64 id, .bool qr, .int .i64 op0, .bool aa, .bool tc, .bool rd, .bool ra, .int .i64 z, .int .i64 rc, .slice x0 n0 c0, .slice x1 an.length c1, .slice x2 ns.length c2, .slice x3 ar.length c3] 27
  have H1 : Hid (RRow w (.slice x1 an.length c1) an) := h1
  have H2 : Hid (RRow w (.slice x2 ns.length c2) ns) := h2
  have H3 : Hid (RRow w (.slice x3 ar.length c3) ar) := h3
  have HP : Hid (putV ⟨⟨e1, true, 0, true, false, false, false, 0, 3⟩, [⟨⟨#[1, 97, 0]⟩, 1, 1⟩], an, ns, ar⟩ = .tuple #[.string T, .int .i64 E]) := hp
  have j1' : (K1 == 1) = false := by simpa using j1
  have j2' : (K2 == 2) = false := by simpa using j2
  have j4' : (K4 == 4) = false := by simpa using j4
  have j8' : (K8 == 8) = false := by simpa using j8
  have hE' : (E == 0) = false := by simpa using hE
  clear hp h1 h2 h3
  go_enter Try.func4, Try.ntmps4
  go_wp2_with (first
    | (go_at_call 9; refine (num_any _ _).mono ?_; rintro e w' ⟨rfl, hw⟩; obtain rfl := hw.symm)
    | (go_at_call 10; go_must (refine (Ma.awake_any _).mono ?_); rintro e w0 ⟨rfl, bb⟩; replace hb := next (lay hb _) bb; replace KB := KB.below bb; obtain ⟨m0, m1, m2, m3, m4, m5, m6, m7, m8, m9, m10, m11, m12⟩ := blk13 (h := ⟨id, qr, op0, aa, tc, rd, ra, z, rc⟩) KB; simp only at m0 m1 m2 m3 m4 m5 m6 m7 m8; have ltB := KB.lt; have lt0 := hb.size; clear bb KB)
    | (go_at_call 7; go_must (refine (rput_h e1 true 0 true false false false 0 3 [⟨⟨#[1, 97, 0]⟩, 1, 1⟩] an ns ar T E _ _ _ _ _ HP.out (qrow_lit (q := ⟨⟨#[1, 97, 0]⟩, 1, 1⟩) (rf_new w0 #[.int .i64 e1, .bool true, .int .i64 0, .bool true, .bool false, .bool false, .bool false, .int .i64 0, .int .i64 3, .slice (some ⟨w0.heap.size + 1, 0, none⟩) 1 1, .slice x1 an.length c1, .slice x2 ns.length c2, .slice x3 ar.length c3]).2 (by decide)) (H1.out.below (lay (lay hb _) _)) (H2.out.below (lay (lay hb _) _)) (H3.out.below (lay (lay hb _) _))).mono ?_); rintro e w1 ⟨rfl, bb⟩; clear m0 m1 m2 m3 m4 m5 m6 m7 m8 m9 m10 m11 m12 ltB; replace hb := next (lay (lay hb _) _) bb; clear bb))
  go_ret
  exact ⟨ret_bool (by simp), hb⟩

set_option maxRecDepth 20000 in
set_option maxHeartbeats 4000000 in
theorem f0001a (wrong op K1 K2 K4 K8 e1: Int) (id : Int) (qr : Bool) (op0 : Int) (aa tc rd ra : Bool) (z rc : Int) (an ns ar : List Rc) (x0 x1 x2 x3 : Option Addr) (n0 c0 c1 c2 c3 : Nat) (w : World) (i1 : bits .and .i64 wrong 1 = K1) (i2 : bits .and .i64 wrong 2 = K2) (i4 : bits .and .i64 wrong 4 = K4) (i8 : bits .and .i64 wrong 8 = K8) (j1 : ¬ K1 = 1) (j2 : ¬ K2 = 2) (j4 : ¬ K4 = 4) (j8 : K8 = 8) (k1 : bits .and .i64 op 65535 = e1) (h1 : RRow w (.slice x1 an.length c1) an) (h2 : RRow w (.slice x2 ns.length c2) ns) (h3 : RRow w (.slice x3 ar.length c3) ar) (T : ByteArray) (hp : putV ⟨⟨e1, true, 0, true, false, false, false, 0, 3⟩, [], an, ns, ar⟩ = .tuple #[.string T, .int .i64 0]) (hr : (rpM T = msZ ∧ rpE T = 2000)) (hr2 : rpM (T ++ ⟨#[97]⟩) = msZ ∧ rpE (T ++ ⟨#[97]⟩) = 2000) (hT : T.size ≤ 4096) :
    Calls Try.prog 4 #[.int .i64 wrong, .int .i64 op, .agg #[.int .i64 id, .bool qr, .int .i64 op0, .bool aa, .bool tc, .bool rd, .bool ra, .int .i64 z, .int .i64 rc, .slice x0 n0 c0, .slice x1 an.length c1, .slice x2 ns.length c2, .slice x3 ar.length c3]] w fun e w' => e = .returned (.bool true) ∧ Below w.heap.size w w' := by
  have hb : Below w.heap.size w w := Below.refl _ _
  have KB := Blk.new w #[.int .i64 id, .bool qr, .int .i64 op0, .bool aa, .bool tc, .bool rd, .bool ra, .int .i64 z, .int .i64 rc, .slice x0 n0 c0, .slice x1 an.length c1, .slice x2 ns.length c2, .slice x3 ar.length c3] 27
  have H1 : Hid (RRow w (.slice x1 an.length c1) an) := h1
  have H2 : Hid (RRow w (.slice x2 ns.length c2) ns) := h2
  have H3 : Hid (RRow w (.slice x3 ar.length c3) ar) := h3
  have HP : Hid (putV ⟨⟨e1, true, 0, true, false, false, false, 0, 3⟩, [], an, ns, ar⟩ = .tuple #[.string T, .int .i64 0]) := hp
  have j1' : (K1 == 1) = false := by simpa using j1
  have j2' : (K2 == 2) = false := by simpa using j2
  have j4' : (K4 == 4) = false := by simpa using j4
  subst j8
  have HR : Hid (rpM T = msZ ∧ rpE T = 2000) := hr
  have HR2 : Hid (rpM (T ++ ⟨#[97]⟩) = msZ ∧ rpE (T ++ ⟨#[97]⟩) = 2000) := hr2
  have hT' : (T.size : Int) ≤ 4096 := by omega
  have HS : Hid (T.size ≤ maxLen ∧ (T ++ ⟨#[97]⟩).size ≤ maxLen) := ⟨by unfold maxLen; omega, by rw [ByteArray.size_append]; show T.size + 1 ≤ maxLen; unfold maxLen; omega⟩
  have HX := fun u => reply_z (T ++ ⟨#[97]⟩) u HS.out.2 HR2.out
  have t1 : True := trivial
  clear hp hr hr2 hT h1 h2 h3 HR2
  go_enter Try.func4, Try.ntmps4
  go_wp2_with (first
    | (go_at_call 9; refine (num_any _ _).mono ?_; rintro e w' ⟨rfl, hw⟩; obtain rfl := hw.symm)
    | (go_at_call 10; go_must (refine (Ma.awake_any _).mono ?_); rintro e w0 ⟨rfl, bb⟩; replace hb := next (lay hb _) bb; replace KB := KB.below bb; obtain ⟨m0, m1, m2, m3, m4, m5, m6, m7, m8, m9, m10, m11, m12⟩ := blk13 (h := ⟨id, qr, op0, aa, tc, rd, ra, z, rc⟩) KB; simp only at m0 m1 m2 m3 m4 m5 m6 m7 m8; have ltB := KB.lt; have lt0 := hb.size; clear bb KB)
    | (go_at_call 7; go_must (refine (rput_h e1 true 0 true false false false 0 3 [] an ns ar T 0 _ _ _ _ _ HP.out (QRow.nil _) (H1.out.below (lay (lay hb _) _)) (H2.out.below (lay (lay hb _) _)) (H3.out.below (lay (lay hb _) _))).mono ?_); rintro e w1 ⟨rfl, bb⟩; clear m0 m1 m2 m3 m4 m5 m6 m7 m8 m9 m10 m11 m12 ltB; replace hb := next (lay (lay hb _) _) bb; clear bb)
    | (go_at_call 5; have _t := t1; go_must (refine (reply_z T _ HS.out.1 HR.out).mono ?_); rintro e w2 ⟨a0, a1, a2, a3, d0, d1, d2, d3, rfl, bb⟩; replace hb := next hb bb; clear bb t1 _t)
    | (go_at_call 5; go_must (refine (HX _).mono ?_); rintro e w3 ⟨b0, b1, b2, b3, f0, f1, f2, f3, rfl, bb⟩; replace hb := next (lay hb _) bb; clear bb))
  go_ret
  exact ⟨ret_bool (by simp), lay hb _⟩

set_option maxRecDepth 20000 in
set_option maxHeartbeats 4000000 in
theorem f0001b (wrong op K1 K2 K4 K8 e1: Int) (id : Int) (qr : Bool) (op0 : Int) (aa tc rd ra : Bool) (z rc : Int) (an ns ar : List Rc) (x0 x1 x2 x3 : Option Addr) (n0 c0 c1 c2 c3 : Nat) (w : World) (i1 : bits .and .i64 wrong 1 = K1) (i2 : bits .and .i64 wrong 2 = K2) (i4 : bits .and .i64 wrong 4 = K4) (i8 : bits .and .i64 wrong 8 = K8) (j1 : ¬ K1 = 1) (j2 : ¬ K2 = 2) (j4 : ¬ K4 = 4) (j8 : K8 = 8) (k1 : bits .and .i64 op 65535 = e1) (h1 : RRow w (.slice x1 an.length c1) an) (h2 : RRow w (.slice x2 ns.length c2) ns) (h3 : RRow w (.slice x3 ar.length c3) ar) (T : ByteArray) (E : Int) (hp : putV ⟨⟨e1, true, 0, true, false, false, false, 0, 3⟩, [], an, ns, ar⟩ = .tuple #[.string T, .int .i64 E]) (hE : ¬ E = 0) :
    Calls Try.prog 4 #[.int .i64 wrong, .int .i64 op, .agg #[.int .i64 id, .bool qr, .int .i64 op0, .bool aa, .bool tc, .bool rd, .bool ra, .int .i64 z, .int .i64 rc, .slice x0 n0 c0, .slice x1 an.length c1, .slice x2 ns.length c2, .slice x3 ar.length c3]] w fun e w' => e = .returned (.bool true) ∧ Below w.heap.size w w' := by
  have hb : Below w.heap.size w w := Below.refl _ _
  have KB := Blk.new w #[.int .i64 id, .bool qr, .int .i64 op0, .bool aa, .bool tc, .bool rd, .bool ra, .int .i64 z, .int .i64 rc, .slice x0 n0 c0, .slice x1 an.length c1, .slice x2 ns.length c2, .slice x3 ar.length c3] 27
  have H1 : Hid (RRow w (.slice x1 an.length c1) an) := h1
  have H2 : Hid (RRow w (.slice x2 ns.length c2) ns) := h2
  have H3 : Hid (RRow w (.slice x3 ar.length c3) ar) := h3
  have HP : Hid (putV ⟨⟨e1, true, 0, true, false, false, false, 0, 3⟩, [], an, ns, ar⟩ = .tuple #[.string T, .int .i64 E]) := hp
  have j1' : (K1 == 1) = false := by simpa using j1
  have j2' : (K2 == 2) = false := by simpa using j2
  have j4' : (K4 == 4) = false := by simpa using j4
  subst j8
  have hE' : (E == 0) = false := by simpa using hE
  clear hp h1 h2 h3
  go_enter Try.func4, Try.ntmps4
  go_wp2_with (first
    | (go_at_call 9; refine (num_any _ _).mono ?_; rintro e w' ⟨rfl, hw⟩; obtain rfl := hw.symm)
    | (go_at_call 10; go_must (refine (Ma.awake_any _).mono ?_); rintro e w0 ⟨rfl, bb⟩; replace hb := next (lay hb _) bb; replace KB := KB.below bb; obtain ⟨m0, m1, m2, m3, m4, m5, m6, m7, m8, m9, m10, m11, m12⟩ := blk13 (h := ⟨id, qr, op0, aa, tc, rd, ra, z, rc⟩) KB; simp only at m0 m1 m2 m3 m4 m5 m6 m7 m8; have ltB := KB.lt; have lt0 := hb.size; clear bb KB)
    | (go_at_call 7; go_must (refine (rput_h e1 true 0 true false false false 0 3 [] an ns ar T E _ _ _ _ _ HP.out (QRow.nil _) (H1.out.below (lay (lay hb _) _)) (H2.out.below (lay (lay hb _) _)) (H3.out.below (lay (lay hb _) _))).mono ?_); rintro e w1 ⟨rfl, bb⟩; clear m0 m1 m2 m3 m4 m5 m6 m7 m8 m9 m10 m11 m12 ltB; replace hb := next (lay (lay hb _) _) bb; clear bb))
  go_ret
  exact ⟨ret_bool (by simp), hb⟩

set_option maxRecDepth 20000 in
set_option maxHeartbeats 4000000 in
theorem f0010a (wrong op K1 K2 K4 K8 e1: Int) (id : Int) (qr : Bool) (op0 : Int) (aa tc rd ra : Bool) (z rc : Int) (an ns ar : List Rc) (x0 x1 x2 x3 : Option Addr) (n0 c0 c1 c2 c3 : Nat) (w : World) (i1 : bits .and .i64 wrong 1 = K1) (i2 : bits .and .i64 wrong 2 = K2) (i4 : bits .and .i64 wrong 4 = K4) (i8 : bits .and .i64 wrong 8 = K8) (j1 : ¬ K1 = 1) (j2 : ¬ K2 = 2) (j4 : K4 = 4) (j8 : ¬ K8 = 8) (k1 : bits .and .i64 op 65535 = e1) (h1 : RRow w (.slice x1 an.length c1) an) (h2 : RRow w (.slice x2 ns.length c2) ns) (h3 : RRow w (.slice x3 ar.length c3) ar) (T : ByteArray) (hp : putV ⟨⟨e1, true, 0, true, false, false, false, 0, 3⟩, [⟨⟨#[1, 97, 0]⟩, 1, 1⟩, ⟨⟨#[1, 97, 0]⟩, 1, 1⟩], an, ns, ar⟩ = .tuple #[.string T, .int .i64 0]) (hr : (rpM T = msZ ∧ rpE T = 2000)) (hr2 : rpM (T ++ ⟨#[97]⟩) = msZ ∧ rpE (T ++ ⟨#[97]⟩) = 2000) (hT : T.size ≤ 4096) :
    Calls Try.prog 4 #[.int .i64 wrong, .int .i64 op, .agg #[.int .i64 id, .bool qr, .int .i64 op0, .bool aa, .bool tc, .bool rd, .bool ra, .int .i64 z, .int .i64 rc, .slice x0 n0 c0, .slice x1 an.length c1, .slice x2 ns.length c2, .slice x3 ar.length c3]] w fun e w' => e = .returned (.bool true) ∧ Below w.heap.size w w' := by
  have hb : Below w.heap.size w w := Below.refl _ _
  have KB := Blk.new w #[.int .i64 id, .bool qr, .int .i64 op0, .bool aa, .bool tc, .bool rd, .bool ra, .int .i64 z, .int .i64 rc, .slice x0 n0 c0, .slice x1 an.length c1, .slice x2 ns.length c2, .slice x3 ar.length c3] 27
  have H1 : Hid (RRow w (.slice x1 an.length c1) an) := h1
  have H2 : Hid (RRow w (.slice x2 ns.length c2) ns) := h2
  have H3 : Hid (RRow w (.slice x3 ar.length c3) ar) := h3
  have HP : Hid (putV ⟨⟨e1, true, 0, true, false, false, false, 0, 3⟩, [⟨⟨#[1, 97, 0]⟩, 1, 1⟩, ⟨⟨#[1, 97, 0]⟩, 1, 1⟩], an, ns, ar⟩ = .tuple #[.string T, .int .i64 0]) := hp
  have j1' : (K1 == 1) = false := by simpa using j1
  have j2' : (K2 == 2) = false := by simpa using j2
  subst j4
  have j8' : (K8 == 8) = false := by simpa using j8
  have HR : Hid (rpM T = msZ ∧ rpE T = 2000) := hr
  have HR2 : Hid (rpM (T ++ ⟨#[97]⟩) = msZ ∧ rpE (T ++ ⟨#[97]⟩) = 2000) := hr2
  have hT' : (T.size : Int) ≤ 4096 := by omega
  have HS : Hid (T.size ≤ maxLen ∧ (T ++ ⟨#[97]⟩).size ≤ maxLen) := ⟨by unfold maxLen; omega, by rw [ByteArray.size_append]; show T.size + 1 ≤ maxLen; unfold maxLen; omega⟩
  have HX := fun u => reply_z (T ++ ⟨#[97]⟩) u HS.out.2 HR2.out
  have t1 : True := trivial
  clear hp hr hr2 hT h1 h2 h3 HR2
  go_enter Try.func4, Try.ntmps4
  go_wp2_with (first
    | (go_at_call 10; go_must (refine (Ma.awake_any _).mono ?_); rintro e w0 ⟨rfl, bb⟩; replace hb := next (lay hb _) bb; replace KB := KB.below bb; obtain ⟨m0, m1, m2, m3, m4, m5, m6, m7, m8, m9, m10, m11, m12⟩ := blk13 (h := ⟨id, qr, op0, aa, tc, rd, ra, z, rc⟩) KB; simp only at m0 m1 m2 m3 m4 m5 m6 m7 m8; have ltB := KB.lt; have lt0 := hb.size; clear bb KB))
  clear m0 m1 m2 m3 m4 m5 m6 m7 m8 m9 m10 m11 m12 ltB
  obtain ⟨KX, KQ⟩ := rf_new w0 #[.int .i64 e1, .bool true, .int .i64 0, .bool true, .bool false, .bool false, .bool false, .int .i64 0, .int .i64 3, .slice (some ⟨w0.heap.size + 1, 0, none⟩) 1 1, .slice x1 an.length c1, .slice x2 ns.length c2, .slice x3 ar.length c3]
  replace hb := lay (lay hb (.cells #[.int .i64 e1, .bool true, .int .i64 0, .bool true, .bool false, .bool false, .bool false, .int .i64 0, .int .i64 3, .slice (some ⟨w0.heap.size + 1, 0, none⟩) 1 1, .slice x1 an.length c1, .slice x2 ns.length c2, .slice x3 ar.length c3] 27)) (.cells #[.string ⟨#[1, 97, 0]⟩, .int .i64 1, .int .i64 1] 40)
  revert KX KQ hb
  generalize (w0.alloc (.cells #[.int .i64 e1, .bool true, .int .i64 0, .bool true, .bool false, .bool false, .bool false, .int .i64 0, .int .i64 3, .slice (some ⟨w0.heap.size + 1, 0, none⟩) 1 1, .slice x1 an.length c1, .slice x2 ns.length c2, .slice x3 ar.length c3] 27)).alloc (.cells #[.string ⟨#[1, 97, 0]⟩, .int .i64 1, .int .i64 1] 40) = WA
  intro KX KQ hb
  obtain ⟨i0, hi, hz0, hz1, hz2⟩ := info_parts infoQ
  have d0 : WA.cell? ⟨w0.heap.size + 1, 0, none⟩ = some (.string ⟨#[1, 97, 0]⟩) := KQ.cell 0
  have d1 : WA.cell? ⟨w0.heap.size + 1, 1, none⟩ = some (.int .i64 1) := KQ.cell 1
  have d2 : WA.cell? ⟨w0.heap.size + 1, 2, none⟩ = some (.int .i64 1) := KQ.cell 2
  have q1 : WA.cell? ⟨w0.heap.size, 9, none⟩ = some (.slice (some ⟨w0.heap.size + 1, 0, none⟩) 1 1) := KX.cell 9
  have q2 : (WA.alloc (.cells #[.string ⟨#[1, 97, 0]⟩, .int .i64 1, .int .i64 1] 40)).cell? ⟨w0.heap.size, 9, none⟩ = some (.slice (some ⟨w0.heap.size + 1, 0, none⟩) 1 1) := (KX.alloc _).cell 9
  have HBD : Hid (Below w.heap.size w (WA.alloc (.cells #[.string ⟨#[1, 97, 0]⟩, .int .i64 1, .int .i64 1] 40)).drew) := (lay hb _).drew
  have KXD : Hid (Blk (WA.alloc (.cells #[.string ⟨#[1, 97, 0]⟩, .int .i64 1, .int .i64 1] 40)).drew w0.heap.size #[.int .i64 e1, .bool true, .int .i64 0, .bool true, .bool false, .bool false, .bool false, .int .i64 0, .int .i64 3, .slice (some ⟨w0.heap.size + 1, 0, none⟩) 1 1, .slice x1 an.length c1, .slice x2 ns.length c2, .slice x3 ar.length c3] 27) := (KX.alloc _).below (below_drew ⟨1, rfl⟩)
  have hto := own_blk (B := w0.heap.size) (z := 3) (n := 1) ((KQ.alloc (.cells #[.string ⟨#[1, 97, 0]⟩, .int .i64 1, .int .i64 1] 40)).below (below_drew ⟨1, rfl⟩)) (by omega) (xs := qC [⟨⟨#[1, 97, 0]⟩, 1, 1⟩]) rfl rfl (small100 (by decide))
  have kN : Blk (WA.alloc (.cells #[.string ⟨#[1, 97, 0]⟩, .int .i64 1, .int .i64 1] 40)).drew WA.heap.size #[.string ⟨#[1, 97, 0]⟩, .int .i64 1, .int .i64 1] 40 := Blk.new WA _ _
  have hB0 : w0.heap.size ≤ (WA.alloc (.cells #[.string ⟨#[1, 97, 0]⟩, .int .i64 1, .int .i64 1] 40)).drew.heap.size := by have := KXD.out.lt; omega
  clear KX KQ hb
  go_region_law ((refine step_appG _ (by rfl) (.tmp 42) (.tmp 47) 24 40 i0 _ 3 32 Try.underlying24 hi hz0 hz1 hz2 rfl (by decide) (by rfl) w0.heap.size _ 1 _ (by rfl) hto (.slice (some ⟨WA.heap.size, 0, none⟩) 1 1) 1 [.string ⟨#[1, 97, 0]⟩, .int .i64 1, .int .i64 1] (by rfl) (Row.of_blk kN rfl 1 1) rfl (by simp [Value.oneCell']) (by decide) (small100 (by decide)) hB0 ?_; intro v7 w7 h1 h3 h4; have hks := KXD.out.grown h3 (own_sep hto KXD.out (by decide)); have q6 : w7.cell? ⟨w0.heap.size, 9, none⟩ = some (.slice (some ⟨w0.heap.size + 1, 0, none⟩) 1 1) := hks.cell 9; have q7 : w7.frozen? ⟨w0.heap.size, 9, none⟩ = false := hks.frozen 9; obtain ⟨y7, c7, rfl⟩ := row_shape h1; have HH7 : Hid (w7.ownsRow w0.heap.size 40 3 (.slice y7 2 c7) 2 (qC [⟨⟨#[1, 97, 0]⟩, 1, 1⟩, ⟨⟨#[1, 97, 0]⟩, 1, 1⟩]) ∧ Blk w7 w0.heap.size #[.int .i64 e1, .bool true, .int .i64 0, .bool true, .bool false, .bool false, .bool false, .int .i64 0, .int .i64 3, .slice (some ⟨w0.heap.size + 1, 0, none⟩) 1 1, .slice x1 an.length c1, .slice x2 ns.length c2, .slice x3 ar.length c3] 27 ∧ Below w.heap.size w w7) := ⟨h1, hks, HBD.out.grown h3 HBD.out.size (fun k e => (Nat.le_trans lt0 (hto.lt k e).1))⟩; clear h1 h3 h4 hks hto kN))
  all_goals
    have K7 := HH7.out.2.1.set 9 (.slice y7 2 c7)
    have own7 : (w7.setCell ⟨w0.heap.size, 9, none⟩ (.slice y7 2 c7)).ownsRow w0.heap.size 40 3 (.slice y7 2 c7) 2 (qC [⟨⟨#[1, 97, 0]⟩, 1, 1⟩, ⟨⟨#[1, 97, 0]⟩, 1, 1⟩]) := (Turn.of_set (S := fun k => k = w0.heap.size) w7 (p := ⟨w0.heap.size, 9, none⟩) rfl (.slice y7 2 c7)).row HH7.out.1 (fun k hk e => own_sep HH7.out.1 HH7.out.2.1 (by decide) (by rw [hk, e]))
    have hb7 := HH7.out.2.2.setCell (p := ⟨w0.heap.size, 9, none⟩) (by show w.heap.size ≤ w0.heap.size; omega) (.slice y7 2 c7)
    clear q6 q7 HH7 HBD KXD
    revert K7 own7 hb7
    generalize w7.setCell ⟨w0.heap.size, 9, none⟩ (.slice y7 2 c7) = W
    intro K7 own7 hb
    have m0 : W.cell? ⟨w0.heap.size, 0, none⟩ = some (.int .i64 e1) := K7.cell 0
    have m1 : W.cell? ⟨w0.heap.size, 1, none⟩ = some (.bool true) := K7.cell 1
    have m2 : W.cell? ⟨w0.heap.size, 2, none⟩ = some (.int .i64 0) := K7.cell 2
    have m3 : W.cell? ⟨w0.heap.size, 3, none⟩ = some (.bool true) := K7.cell 3
    have m4 : W.cell? ⟨w0.heap.size, 4, none⟩ = some (.bool false) := K7.cell 4
    have m5 : W.cell? ⟨w0.heap.size, 5, none⟩ = some (.bool false) := K7.cell 5
    have m6 : W.cell? ⟨w0.heap.size, 6, none⟩ = some (.bool false) := K7.cell 6
    have m7 : W.cell? ⟨w0.heap.size, 7, none⟩ = some (.int .i64 0) := K7.cell 7
    have m8 : W.cell? ⟨w0.heap.size, 8, none⟩ = some (.int .i64 3) := K7.cell 8
    have m9 : W.cell? ⟨w0.heap.size, 9, none⟩ = some (.slice y7 2 c7) := K7.cell 9
    have m10 : W.cell? ⟨w0.heap.size, 10, none⟩ = some (.slice x1 an.length c1) := K7.cell 10
    have m11 : W.cell? ⟨w0.heap.size, 11, none⟩ = some (.slice x2 ns.length c2) := K7.cell 11
    have m12 : W.cell? ⟨w0.heap.size, 12, none⟩ = some (.slice x3 ar.length c3) := K7.cell 12
    have f9 : W.frozen? ⟨w0.heap.size, 9, none⟩ = false := K7.frozen 9
    clear K7
    have RQ : Hid (QRow W (.slice y7 2 c7) [⟨⟨#[1, 97, 0]⟩, 1, 1⟩, ⟨⟨#[1, 97, 0]⟩, 1, 1⟩]) := ⟨Row.of_own own7, small100 (show 2 ≤ 100000 from by decide), fun x hx => by simp at hx; subst hx; exact small100 (show ByteArray.size ⟨#[1, 97, 0]⟩ ≤ 100000 from by decide)⟩
    clear own7
    go_wp2_with (first
      | (go_at_call 9; refine (num_any _ _).mono ?_; rintro e w' ⟨rfl, hw⟩; obtain rfl := hw.symm)
      | (go_at_call 7; go_must (refine (rput_h e1 true 0 true false false false 0 3 [⟨⟨#[1, 97, 0]⟩, 1, 1⟩, ⟨⟨#[1, 97, 0]⟩, 1, 1⟩] an ns ar T 0 _ _ _ _ _ HP.out RQ.out (H1.out.below hb) (H2.out.below hb) (H3.out.below hb)).mono ?_); rintro e w1 ⟨rfl, bb⟩; clear m0 m1 m2 m3 m4 m5 m6 m7 m8 m9 m10 m11 m12 f9; replace hb := next hb bb; clear bb)
      | (go_at_call 5; have _t := t1; go_must (refine (reply_z T _ HS.out.1 HR.out).mono ?_); rintro e w2 ⟨a0, a1, a2, a3, d0, d1, d2, d3, rfl, bb⟩; replace hb := next hb bb; clear bb t1 _t)
      | (go_at_call 5; go_must (refine (HX _).mono ?_); rintro e w3 ⟨b0, b1, b2, b3, f0, f1, f2, f3, rfl, bb⟩; replace hb := next (lay hb _) bb; clear bb))
    go_ret
    exact ⟨ret_bool (by simp), lay hb _⟩

set_option maxRecDepth 20000 in
set_option maxHeartbeats 4000000 in
theorem f0010b (wrong op K1 K2 K4 K8 e1: Int) (id : Int) (qr : Bool) (op0 : Int) (aa tc rd ra : Bool) (z rc : Int) (an ns ar : List Rc) (x0 x1 x2 x3 : Option Addr) (n0 c0 c1 c2 c3 : Nat) (w : World) (i1 : bits .and .i64 wrong 1 = K1) (i2 : bits .and .i64 wrong 2 = K2) (i4 : bits .and .i64 wrong 4 = K4) (i8 : bits .and .i64 wrong 8 = K8) (j1 : ¬ K1 = 1) (j2 : ¬ K2 = 2) (j4 : K4 = 4) (j8 : ¬ K8 = 8) (k1 : bits .and .i64 op 65535 = e1) (h1 : RRow w (.slice x1 an.length c1) an) (h2 : RRow w (.slice x2 ns.length c2) ns) (h3 : RRow w (.slice x3 ar.length c3) ar) (T : ByteArray) (E : Int) (hp : putV ⟨⟨e1, true, 0, true, false, false, false, 0, 3⟩, [⟨⟨#[1, 97, 0]⟩, 1, 1⟩, ⟨⟨#[1, 97, 0]⟩, 1, 1⟩], an, ns, ar⟩ = .tuple #[.string T, .int .i64 E]) (hE : ¬ E = 0) :
    Calls Try.prog 4 #[.int .i64 wrong, .int .i64 op, .agg #[.int .i64 id, .bool qr, .int .i64 op0, .bool aa, .bool tc, .bool rd, .bool ra, .int .i64 z, .int .i64 rc, .slice x0 n0 c0, .slice x1 an.length c1, .slice x2 ns.length c2, .slice x3 ar.length c3]] w fun e w' => e = .returned (.bool true) ∧ Below w.heap.size w w' := by
  have hb : Below w.heap.size w w := Below.refl _ _
  have KB := Blk.new w #[.int .i64 id, .bool qr, .int .i64 op0, .bool aa, .bool tc, .bool rd, .bool ra, .int .i64 z, .int .i64 rc, .slice x0 n0 c0, .slice x1 an.length c1, .slice x2 ns.length c2, .slice x3 ar.length c3] 27
  have H1 : Hid (RRow w (.slice x1 an.length c1) an) := h1
  have H2 : Hid (RRow w (.slice x2 ns.length c2) ns) := h2
  have H3 : Hid (RRow w (.slice x3 ar.length c3) ar) := h3
  have HP : Hid (putV ⟨⟨e1, true, 0, true, false, false, false, 0, 3⟩, [⟨⟨#[1, 97, 0]⟩, 1, 1⟩, ⟨⟨#[1, 97, 0]⟩, 1, 1⟩], an, ns, ar⟩ = .tuple #[.string T, .int .i64 E]) := hp
  have j1' : (K1 == 1) = false := by simpa using j1
  have j2' : (K2 == 2) = false := by simpa using j2
  subst j4
  have j8' : (K8 == 8) = false := by simpa using j8
  have hE' : (E == 0) = false := by simpa using hE
  clear hp h1 h2 h3
  go_enter Try.func4, Try.ntmps4
  go_wp2_with (first
    | (go_at_call 10; go_must (refine (Ma.awake_any _).mono ?_); rintro e w0 ⟨rfl, bb⟩; replace hb := next (lay hb _) bb; replace KB := KB.below bb; obtain ⟨m0, m1, m2, m3, m4, m5, m6, m7, m8, m9, m10, m11, m12⟩ := blk13 (h := ⟨id, qr, op0, aa, tc, rd, ra, z, rc⟩) KB; simp only at m0 m1 m2 m3 m4 m5 m6 m7 m8; have ltB := KB.lt; have lt0 := hb.size; clear bb KB))
  clear m0 m1 m2 m3 m4 m5 m6 m7 m8 m9 m10 m11 m12 ltB
  obtain ⟨KX, KQ⟩ := rf_new w0 #[.int .i64 e1, .bool true, .int .i64 0, .bool true, .bool false, .bool false, .bool false, .int .i64 0, .int .i64 3, .slice (some ⟨w0.heap.size + 1, 0, none⟩) 1 1, .slice x1 an.length c1, .slice x2 ns.length c2, .slice x3 ar.length c3]
  replace hb := lay (lay hb (.cells #[.int .i64 e1, .bool true, .int .i64 0, .bool true, .bool false, .bool false, .bool false, .int .i64 0, .int .i64 3, .slice (some ⟨w0.heap.size + 1, 0, none⟩) 1 1, .slice x1 an.length c1, .slice x2 ns.length c2, .slice x3 ar.length c3] 27)) (.cells #[.string ⟨#[1, 97, 0]⟩, .int .i64 1, .int .i64 1] 40)
  revert KX KQ hb
  generalize (w0.alloc (.cells #[.int .i64 e1, .bool true, .int .i64 0, .bool true, .bool false, .bool false, .bool false, .int .i64 0, .int .i64 3, .slice (some ⟨w0.heap.size + 1, 0, none⟩) 1 1, .slice x1 an.length c1, .slice x2 ns.length c2, .slice x3 ar.length c3] 27)).alloc (.cells #[.string ⟨#[1, 97, 0]⟩, .int .i64 1, .int .i64 1] 40) = WA
  intro KX KQ hb
  obtain ⟨i0, hi, hz0, hz1, hz2⟩ := info_parts infoQ
  have d0 : WA.cell? ⟨w0.heap.size + 1, 0, none⟩ = some (.string ⟨#[1, 97, 0]⟩) := KQ.cell 0
  have d1 : WA.cell? ⟨w0.heap.size + 1, 1, none⟩ = some (.int .i64 1) := KQ.cell 1
  have d2 : WA.cell? ⟨w0.heap.size + 1, 2, none⟩ = some (.int .i64 1) := KQ.cell 2
  have q1 : WA.cell? ⟨w0.heap.size, 9, none⟩ = some (.slice (some ⟨w0.heap.size + 1, 0, none⟩) 1 1) := KX.cell 9
  have q2 : (WA.alloc (.cells #[.string ⟨#[1, 97, 0]⟩, .int .i64 1, .int .i64 1] 40)).cell? ⟨w0.heap.size, 9, none⟩ = some (.slice (some ⟨w0.heap.size + 1, 0, none⟩) 1 1) := (KX.alloc _).cell 9
  have HBD : Hid (Below w.heap.size w (WA.alloc (.cells #[.string ⟨#[1, 97, 0]⟩, .int .i64 1, .int .i64 1] 40)).drew) := (lay hb _).drew
  have KXD : Hid (Blk (WA.alloc (.cells #[.string ⟨#[1, 97, 0]⟩, .int .i64 1, .int .i64 1] 40)).drew w0.heap.size #[.int .i64 e1, .bool true, .int .i64 0, .bool true, .bool false, .bool false, .bool false, .int .i64 0, .int .i64 3, .slice (some ⟨w0.heap.size + 1, 0, none⟩) 1 1, .slice x1 an.length c1, .slice x2 ns.length c2, .slice x3 ar.length c3] 27) := (KX.alloc _).below (below_drew ⟨1, rfl⟩)
  have hto := own_blk (B := w0.heap.size) (z := 3) (n := 1) ((KQ.alloc (.cells #[.string ⟨#[1, 97, 0]⟩, .int .i64 1, .int .i64 1] 40)).below (below_drew ⟨1, rfl⟩)) (by omega) (xs := qC [⟨⟨#[1, 97, 0]⟩, 1, 1⟩]) rfl rfl (small100 (by decide))
  have kN : Blk (WA.alloc (.cells #[.string ⟨#[1, 97, 0]⟩, .int .i64 1, .int .i64 1] 40)).drew WA.heap.size #[.string ⟨#[1, 97, 0]⟩, .int .i64 1, .int .i64 1] 40 := Blk.new WA _ _
  have hB0 : w0.heap.size ≤ (WA.alloc (.cells #[.string ⟨#[1, 97, 0]⟩, .int .i64 1, .int .i64 1] 40)).drew.heap.size := by have := KXD.out.lt; omega
  clear KX KQ hb
  go_region_law ((refine step_appG _ (by rfl) (.tmp 42) (.tmp 47) 24 40 i0 _ 3 32 Try.underlying24 hi hz0 hz1 hz2 rfl (by decide) (by rfl) w0.heap.size _ 1 _ (by rfl) hto (.slice (some ⟨WA.heap.size, 0, none⟩) 1 1) 1 [.string ⟨#[1, 97, 0]⟩, .int .i64 1, .int .i64 1] (by rfl) (Row.of_blk kN rfl 1 1) rfl (by simp [Value.oneCell']) (by decide) (small100 (by decide)) hB0 ?_; intro v7 w7 h1 h3 h4; have hks := KXD.out.grown h3 (own_sep hto KXD.out (by decide)); have q6 : w7.cell? ⟨w0.heap.size, 9, none⟩ = some (.slice (some ⟨w0.heap.size + 1, 0, none⟩) 1 1) := hks.cell 9; have q7 : w7.frozen? ⟨w0.heap.size, 9, none⟩ = false := hks.frozen 9; obtain ⟨y7, c7, rfl⟩ := row_shape h1; have HH7 : Hid (w7.ownsRow w0.heap.size 40 3 (.slice y7 2 c7) 2 (qC [⟨⟨#[1, 97, 0]⟩, 1, 1⟩, ⟨⟨#[1, 97, 0]⟩, 1, 1⟩]) ∧ Blk w7 w0.heap.size #[.int .i64 e1, .bool true, .int .i64 0, .bool true, .bool false, .bool false, .bool false, .int .i64 0, .int .i64 3, .slice (some ⟨w0.heap.size + 1, 0, none⟩) 1 1, .slice x1 an.length c1, .slice x2 ns.length c2, .slice x3 ar.length c3] 27 ∧ Below w.heap.size w w7) := ⟨h1, hks, HBD.out.grown h3 HBD.out.size (fun k e => (Nat.le_trans lt0 (hto.lt k e).1))⟩; clear h1 h3 h4 hks hto kN))
  all_goals
    have K7 := HH7.out.2.1.set 9 (.slice y7 2 c7)
    have own7 : (w7.setCell ⟨w0.heap.size, 9, none⟩ (.slice y7 2 c7)).ownsRow w0.heap.size 40 3 (.slice y7 2 c7) 2 (qC [⟨⟨#[1, 97, 0]⟩, 1, 1⟩, ⟨⟨#[1, 97, 0]⟩, 1, 1⟩]) := (Turn.of_set (S := fun k => k = w0.heap.size) w7 (p := ⟨w0.heap.size, 9, none⟩) rfl (.slice y7 2 c7)).row HH7.out.1 (fun k hk e => own_sep HH7.out.1 HH7.out.2.1 (by decide) (by rw [hk, e]))
    have hb7 := HH7.out.2.2.setCell (p := ⟨w0.heap.size, 9, none⟩) (by show w.heap.size ≤ w0.heap.size; omega) (.slice y7 2 c7)
    clear q6 q7 HH7 HBD KXD
    revert K7 own7 hb7
    generalize w7.setCell ⟨w0.heap.size, 9, none⟩ (.slice y7 2 c7) = W
    intro K7 own7 hb
    have m0 : W.cell? ⟨w0.heap.size, 0, none⟩ = some (.int .i64 e1) := K7.cell 0
    have m1 : W.cell? ⟨w0.heap.size, 1, none⟩ = some (.bool true) := K7.cell 1
    have m2 : W.cell? ⟨w0.heap.size, 2, none⟩ = some (.int .i64 0) := K7.cell 2
    have m3 : W.cell? ⟨w0.heap.size, 3, none⟩ = some (.bool true) := K7.cell 3
    have m4 : W.cell? ⟨w0.heap.size, 4, none⟩ = some (.bool false) := K7.cell 4
    have m5 : W.cell? ⟨w0.heap.size, 5, none⟩ = some (.bool false) := K7.cell 5
    have m6 : W.cell? ⟨w0.heap.size, 6, none⟩ = some (.bool false) := K7.cell 6
    have m7 : W.cell? ⟨w0.heap.size, 7, none⟩ = some (.int .i64 0) := K7.cell 7
    have m8 : W.cell? ⟨w0.heap.size, 8, none⟩ = some (.int .i64 3) := K7.cell 8
    have m9 : W.cell? ⟨w0.heap.size, 9, none⟩ = some (.slice y7 2 c7) := K7.cell 9
    have m10 : W.cell? ⟨w0.heap.size, 10, none⟩ = some (.slice x1 an.length c1) := K7.cell 10
    have m11 : W.cell? ⟨w0.heap.size, 11, none⟩ = some (.slice x2 ns.length c2) := K7.cell 11
    have m12 : W.cell? ⟨w0.heap.size, 12, none⟩ = some (.slice x3 ar.length c3) := K7.cell 12
    have f9 : W.frozen? ⟨w0.heap.size, 9, none⟩ = false := K7.frozen 9
    clear K7
    have RQ : Hid (QRow W (.slice y7 2 c7) [⟨⟨#[1, 97, 0]⟩, 1, 1⟩, ⟨⟨#[1, 97, 0]⟩, 1, 1⟩]) := ⟨Row.of_own own7, small100 (show 2 ≤ 100000 from by decide), fun x hx => by simp at hx; subst hx; exact small100 (show ByteArray.size ⟨#[1, 97, 0]⟩ ≤ 100000 from by decide)⟩
    clear own7
    go_wp2_with (first
      | (go_at_call 9; refine (num_any _ _).mono ?_; rintro e w' ⟨rfl, hw⟩; obtain rfl := hw.symm)
      | (go_at_call 7; go_must (refine (rput_h e1 true 0 true false false false 0 3 [⟨⟨#[1, 97, 0]⟩, 1, 1⟩, ⟨⟨#[1, 97, 0]⟩, 1, 1⟩] an ns ar T E _ _ _ _ _ HP.out RQ.out (H1.out.below hb) (H2.out.below hb) (H3.out.below hb)).mono ?_); rintro e w1 ⟨rfl, bb⟩; clear m0 m1 m2 m3 m4 m5 m6 m7 m8 m9 m10 m11 m12 f9; replace hb := next hb bb; clear bb))
    go_ret
    exact ⟨ret_bool (by simp), hb⟩

set_option maxRecDepth 20000 in
set_option maxHeartbeats 4000000 in
theorem f0011a (wrong op K1 K2 K4 K8 e1: Int) (id : Int) (qr : Bool) (op0 : Int) (aa tc rd ra : Bool) (z rc : Int) (an ns ar : List Rc) (x0 x1 x2 x3 : Option Addr) (n0 c0 c1 c2 c3 : Nat) (w : World) (i1 : bits .and .i64 wrong 1 = K1) (i2 : bits .and .i64 wrong 2 = K2) (i4 : bits .and .i64 wrong 4 = K4) (i8 : bits .and .i64 wrong 8 = K8) (j1 : ¬ K1 = 1) (j2 : ¬ K2 = 2) (j4 : K4 = 4) (j8 : K8 = 8) (k1 : bits .and .i64 op 65535 = e1) (h1 : RRow w (.slice x1 an.length c1) an) (h2 : RRow w (.slice x2 ns.length c2) ns) (h3 : RRow w (.slice x3 ar.length c3) ar) (T : ByteArray) (hp : putV ⟨⟨e1, true, 0, true, false, false, false, 0, 3⟩, [], an, ns, ar⟩ = .tuple #[.string T, .int .i64 0]) (hr : (rpM T = msZ ∧ rpE T = 2000)) (hr2 : rpM (T ++ ⟨#[97]⟩) = msZ ∧ rpE (T ++ ⟨#[97]⟩) = 2000) (hT : T.size ≤ 4096) :
    Calls Try.prog 4 #[.int .i64 wrong, .int .i64 op, .agg #[.int .i64 id, .bool qr, .int .i64 op0, .bool aa, .bool tc, .bool rd, .bool ra, .int .i64 z, .int .i64 rc, .slice x0 n0 c0, .slice x1 an.length c1, .slice x2 ns.length c2, .slice x3 ar.length c3]] w fun e w' => e = .returned (.bool true) ∧ Below w.heap.size w w' := by
  have hb : Below w.heap.size w w := Below.refl _ _
  have KB := Blk.new w #[.int .i64 id, .bool qr, .int .i64 op0, .bool aa, .bool tc, .bool rd, .bool ra, .int .i64 z, .int .i64 rc, .slice x0 n0 c0, .slice x1 an.length c1, .slice x2 ns.length c2, .slice x3 ar.length c3] 27
  have H1 : Hid (RRow w (.slice x1 an.length c1) an) := h1
  have H2 : Hid (RRow w (.slice x2 ns.length c2) ns) := h2
  have H3 : Hid (RRow w (.slice x3 ar.length c3) ar) := h3
  have HP : Hid (putV ⟨⟨e1, true, 0, true, false, false, false, 0, 3⟩, [], an, ns, ar⟩ = .tuple #[.string T, .int .i64 0]) := hp
  have j1' : (K1 == 1) = false := by simpa using j1
  have j2' : (K2 == 2) = false := by simpa using j2
  subst j4
  subst j8
  have HR : Hid (rpM T = msZ ∧ rpE T = 2000) := hr
  have HR2 : Hid (rpM (T ++ ⟨#[97]⟩) = msZ ∧ rpE (T ++ ⟨#[97]⟩) = 2000) := hr2
  have hT' : (T.size : Int) ≤ 4096 := by omega
  have HS : Hid (T.size ≤ maxLen ∧ (T ++ ⟨#[97]⟩).size ≤ maxLen) := ⟨by unfold maxLen; omega, by rw [ByteArray.size_append]; show T.size + 1 ≤ maxLen; unfold maxLen; omega⟩
  have HX := fun u => reply_z (T ++ ⟨#[97]⟩) u HS.out.2 HR2.out
  have t1 : True := trivial
  clear hp hr hr2 hT h1 h2 h3 HR2
  go_enter Try.func4, Try.ntmps4
  go_wp2_with (first
    | (go_at_call 10; go_must (refine (Ma.awake_any _).mono ?_); rintro e w0 ⟨rfl, bb⟩; replace hb := next (lay hb _) bb; replace KB := KB.below bb; obtain ⟨m0, m1, m2, m3, m4, m5, m6, m7, m8, m9, m10, m11, m12⟩ := blk13 (h := ⟨id, qr, op0, aa, tc, rd, ra, z, rc⟩) KB; simp only at m0 m1 m2 m3 m4 m5 m6 m7 m8; have ltB := KB.lt; have lt0 := hb.size; clear bb KB))
  clear m0 m1 m2 m3 m4 m5 m6 m7 m8 m9 m10 m11 m12 ltB
  obtain ⟨KX, KQ⟩ := rf_new w0 #[.int .i64 e1, .bool true, .int .i64 0, .bool true, .bool false, .bool false, .bool false, .int .i64 0, .int .i64 3, .slice (some ⟨w0.heap.size + 1, 0, none⟩) 1 1, .slice x1 an.length c1, .slice x2 ns.length c2, .slice x3 ar.length c3]
  replace hb := lay (lay hb (.cells #[.int .i64 e1, .bool true, .int .i64 0, .bool true, .bool false, .bool false, .bool false, .int .i64 0, .int .i64 3, .slice (some ⟨w0.heap.size + 1, 0, none⟩) 1 1, .slice x1 an.length c1, .slice x2 ns.length c2, .slice x3 ar.length c3] 27)) (.cells #[.string ⟨#[1, 97, 0]⟩, .int .i64 1, .int .i64 1] 40)
  revert KX KQ hb
  generalize (w0.alloc (.cells #[.int .i64 e1, .bool true, .int .i64 0, .bool true, .bool false, .bool false, .bool false, .int .i64 0, .int .i64 3, .slice (some ⟨w0.heap.size + 1, 0, none⟩) 1 1, .slice x1 an.length c1, .slice x2 ns.length c2, .slice x3 ar.length c3] 27)).alloc (.cells #[.string ⟨#[1, 97, 0]⟩, .int .i64 1, .int .i64 1] 40) = WA
  intro KX KQ hb
  obtain ⟨i0, hi, hz0, hz1, hz2⟩ := info_parts infoQ
  have d0 : WA.cell? ⟨w0.heap.size + 1, 0, none⟩ = some (.string ⟨#[1, 97, 0]⟩) := KQ.cell 0
  have d1 : WA.cell? ⟨w0.heap.size + 1, 1, none⟩ = some (.int .i64 1) := KQ.cell 1
  have d2 : WA.cell? ⟨w0.heap.size + 1, 2, none⟩ = some (.int .i64 1) := KQ.cell 2
  have q1 : WA.cell? ⟨w0.heap.size, 9, none⟩ = some (.slice (some ⟨w0.heap.size + 1, 0, none⟩) 1 1) := KX.cell 9
  have q2 : (WA.alloc (.cells #[.string ⟨#[1, 97, 0]⟩, .int .i64 1, .int .i64 1] 40)).cell? ⟨w0.heap.size, 9, none⟩ = some (.slice (some ⟨w0.heap.size + 1, 0, none⟩) 1 1) := (KX.alloc _).cell 9
  have HBD : Hid (Below w.heap.size w (WA.alloc (.cells #[.string ⟨#[1, 97, 0]⟩, .int .i64 1, .int .i64 1] 40)).drew) := (lay hb _).drew
  have KXD : Hid (Blk (WA.alloc (.cells #[.string ⟨#[1, 97, 0]⟩, .int .i64 1, .int .i64 1] 40)).drew w0.heap.size #[.int .i64 e1, .bool true, .int .i64 0, .bool true, .bool false, .bool false, .bool false, .int .i64 0, .int .i64 3, .slice (some ⟨w0.heap.size + 1, 0, none⟩) 1 1, .slice x1 an.length c1, .slice x2 ns.length c2, .slice x3 ar.length c3] 27) := (KX.alloc _).below (below_drew ⟨1, rfl⟩)
  have hto := own_blk (B := w0.heap.size) (z := 3) (n := 1) ((KQ.alloc (.cells #[.string ⟨#[1, 97, 0]⟩, .int .i64 1, .int .i64 1] 40)).below (below_drew ⟨1, rfl⟩)) (by omega) (xs := qC [⟨⟨#[1, 97, 0]⟩, 1, 1⟩]) rfl rfl (small100 (by decide))
  have kN : Blk (WA.alloc (.cells #[.string ⟨#[1, 97, 0]⟩, .int .i64 1, .int .i64 1] 40)).drew WA.heap.size #[.string ⟨#[1, 97, 0]⟩, .int .i64 1, .int .i64 1] 40 := Blk.new WA _ _
  have hB0 : w0.heap.size ≤ (WA.alloc (.cells #[.string ⟨#[1, 97, 0]⟩, .int .i64 1, .int .i64 1] 40)).drew.heap.size := by have := KXD.out.lt; omega
  clear KX KQ hb
  go_region_law ((refine step_appG _ (by rfl) (.tmp 42) (.tmp 47) 24 40 i0 _ 3 32 Try.underlying24 hi hz0 hz1 hz2 rfl (by decide) (by rfl) w0.heap.size _ 1 _ (by rfl) hto (.slice (some ⟨WA.heap.size, 0, none⟩) 1 1) 1 [.string ⟨#[1, 97, 0]⟩, .int .i64 1, .int .i64 1] (by rfl) (Row.of_blk kN rfl 1 1) rfl (by simp [Value.oneCell']) (by decide) (small100 (by decide)) hB0 ?_; intro v7 w7 h1 h3 h4; have hks := KXD.out.grown h3 (own_sep hto KXD.out (by decide)); have q6 : w7.cell? ⟨w0.heap.size, 9, none⟩ = some (.slice (some ⟨w0.heap.size + 1, 0, none⟩) 1 1) := hks.cell 9; have q7 : w7.frozen? ⟨w0.heap.size, 9, none⟩ = false := hks.frozen 9; obtain ⟨y7, c7, rfl⟩ := row_shape h1; have HH7 : Hid (w7.ownsRow w0.heap.size 40 3 (.slice y7 2 c7) 2 (qC [⟨⟨#[1, 97, 0]⟩, 1, 1⟩, ⟨⟨#[1, 97, 0]⟩, 1, 1⟩]) ∧ Blk w7 w0.heap.size #[.int .i64 e1, .bool true, .int .i64 0, .bool true, .bool false, .bool false, .bool false, .int .i64 0, .int .i64 3, .slice (some ⟨w0.heap.size + 1, 0, none⟩) 1 1, .slice x1 an.length c1, .slice x2 ns.length c2, .slice x3 ar.length c3] 27 ∧ Below w.heap.size w w7) := ⟨h1, hks, HBD.out.grown h3 HBD.out.size (fun k e => (Nat.le_trans lt0 (hto.lt k e).1))⟩; clear h1 h3 h4 hks hto kN))
  all_goals
    have K7 := HH7.out.2.1.set 9 (.slice y7 2 c7)
    have own7 : (w7.setCell ⟨w0.heap.size, 9, none⟩ (.slice y7 2 c7)).ownsRow w0.heap.size 40 3 (.slice y7 2 c7) 2 (qC [⟨⟨#[1, 97, 0]⟩, 1, 1⟩, ⟨⟨#[1, 97, 0]⟩, 1, 1⟩]) := (Turn.of_set (S := fun k => k = w0.heap.size) w7 (p := ⟨w0.heap.size, 9, none⟩) rfl (.slice y7 2 c7)).row HH7.out.1 (fun k hk e => own_sep HH7.out.1 HH7.out.2.1 (by decide) (by rw [hk, e]))
    have hb7 := HH7.out.2.2.setCell (p := ⟨w0.heap.size, 9, none⟩) (by show w.heap.size ≤ w0.heap.size; omega) (.slice y7 2 c7)
    clear q6 q7 HH7 HBD KXD
    revert K7 own7 hb7
    generalize w7.setCell ⟨w0.heap.size, 9, none⟩ (.slice y7 2 c7) = W
    intro K7 own7 hb
    have m0 : W.cell? ⟨w0.heap.size, 0, none⟩ = some (.int .i64 e1) := K7.cell 0
    have m1 : W.cell? ⟨w0.heap.size, 1, none⟩ = some (.bool true) := K7.cell 1
    have m2 : W.cell? ⟨w0.heap.size, 2, none⟩ = some (.int .i64 0) := K7.cell 2
    have m3 : W.cell? ⟨w0.heap.size, 3, none⟩ = some (.bool true) := K7.cell 3
    have m4 : W.cell? ⟨w0.heap.size, 4, none⟩ = some (.bool false) := K7.cell 4
    have m5 : W.cell? ⟨w0.heap.size, 5, none⟩ = some (.bool false) := K7.cell 5
    have m6 : W.cell? ⟨w0.heap.size, 6, none⟩ = some (.bool false) := K7.cell 6
    have m7 : W.cell? ⟨w0.heap.size, 7, none⟩ = some (.int .i64 0) := K7.cell 7
    have m8 : W.cell? ⟨w0.heap.size, 8, none⟩ = some (.int .i64 3) := K7.cell 8
    have m9 : W.cell? ⟨w0.heap.size, 9, none⟩ = some (.slice y7 2 c7) := K7.cell 9
    have m10 : W.cell? ⟨w0.heap.size, 10, none⟩ = some (.slice x1 an.length c1) := K7.cell 10
    have m11 : W.cell? ⟨w0.heap.size, 11, none⟩ = some (.slice x2 ns.length c2) := K7.cell 11
    have m12 : W.cell? ⟨w0.heap.size, 12, none⟩ = some (.slice x3 ar.length c3) := K7.cell 12
    have f9 : W.frozen? ⟨w0.heap.size, 9, none⟩ = false := K7.frozen 9
    clear K7
    clear own7
    go_wp2_with (first
      | (go_at_call 9; refine (num_any _ _).mono ?_; rintro e w' ⟨rfl, hw⟩; obtain rfl := hw.symm)
      | (go_at_call 7; go_must (refine (rput_h e1 true 0 true false false false 0 3 [] an ns ar T 0 _ _ _ _ _ HP.out (QRow.nil _) (H1.out.below (hb.setCell (p := ⟨w0.heap.size, 9, none⟩) (by show w.heap.size ≤ w0.heap.size; omega) (.slice none 0 0))) (H2.out.below (hb.setCell (p := ⟨w0.heap.size, 9, none⟩) (by show w.heap.size ≤ w0.heap.size; omega) (.slice none 0 0))) (H3.out.below (hb.setCell (p := ⟨w0.heap.size, 9, none⟩) (by show w.heap.size ≤ w0.heap.size; omega) (.slice none 0 0)))).mono ?_); rintro e w1 ⟨rfl, bb⟩; clear m0 m1 m2 m3 m4 m5 m6 m7 m8 m9 m10 m11 m12 f9; replace hb := next (hb.setCell (p := ⟨w0.heap.size, 9, none⟩) (by show w.heap.size ≤ w0.heap.size; omega) (.slice none 0 0)) bb; clear bb)
      | (go_at_call 5; have _t := t1; go_must (refine (reply_z T _ HS.out.1 HR.out).mono ?_); rintro e w2 ⟨a0, a1, a2, a3, d0, d1, d2, d3, rfl, bb⟩; replace hb := next hb bb; clear bb t1 _t)
      | (go_at_call 5; go_must (refine (HX _).mono ?_); rintro e w3 ⟨b0, b1, b2, b3, f0, f1, f2, f3, rfl, bb⟩; replace hb := next (lay hb _) bb; clear bb))
    go_ret
    exact ⟨ret_bool (by simp), lay hb _⟩

set_option maxRecDepth 20000 in
set_option maxHeartbeats 4000000 in
theorem f0011b (wrong op K1 K2 K4 K8 e1: Int) (id : Int) (qr : Bool) (op0 : Int) (aa tc rd ra : Bool) (z rc : Int) (an ns ar : List Rc) (x0 x1 x2 x3 : Option Addr) (n0 c0 c1 c2 c3 : Nat) (w : World) (i1 : bits .and .i64 wrong 1 = K1) (i2 : bits .and .i64 wrong 2 = K2) (i4 : bits .and .i64 wrong 4 = K4) (i8 : bits .and .i64 wrong 8 = K8) (j1 : ¬ K1 = 1) (j2 : ¬ K2 = 2) (j4 : K4 = 4) (j8 : K8 = 8) (k1 : bits .and .i64 op 65535 = e1) (h1 : RRow w (.slice x1 an.length c1) an) (h2 : RRow w (.slice x2 ns.length c2) ns) (h3 : RRow w (.slice x3 ar.length c3) ar) (T : ByteArray) (E : Int) (hp : putV ⟨⟨e1, true, 0, true, false, false, false, 0, 3⟩, [], an, ns, ar⟩ = .tuple #[.string T, .int .i64 E]) (hE : ¬ E = 0) :
    Calls Try.prog 4 #[.int .i64 wrong, .int .i64 op, .agg #[.int .i64 id, .bool qr, .int .i64 op0, .bool aa, .bool tc, .bool rd, .bool ra, .int .i64 z, .int .i64 rc, .slice x0 n0 c0, .slice x1 an.length c1, .slice x2 ns.length c2, .slice x3 ar.length c3]] w fun e w' => e = .returned (.bool true) ∧ Below w.heap.size w w' := by
  have hb : Below w.heap.size w w := Below.refl _ _
  have KB := Blk.new w #[.int .i64 id, .bool qr, .int .i64 op0, .bool aa, .bool tc, .bool rd, .bool ra, .int .i64 z, .int .i64 rc, .slice x0 n0 c0, .slice x1 an.length c1, .slice x2 ns.length c2, .slice x3 ar.length c3] 27
  have H1 : Hid (RRow w (.slice x1 an.length c1) an) := h1
  have H2 : Hid (RRow w (.slice x2 ns.length c2) ns) := h2
  have H3 : Hid (RRow w (.slice x3 ar.length c3) ar) := h3
  have HP : Hid (putV ⟨⟨e1, true, 0, true, false, false, false, 0, 3⟩, [], an, ns, ar⟩ = .tuple #[.string T, .int .i64 E]) := hp
  have j1' : (K1 == 1) = false := by simpa using j1
  have j2' : (K2 == 2) = false := by simpa using j2
  subst j4
  subst j8
  have hE' : (E == 0) = false := by simpa using hE
  clear hp h1 h2 h3
  go_enter Try.func4, Try.ntmps4
  go_wp2_with (first
    | (go_at_call 10; go_must (refine (Ma.awake_any _).mono ?_); rintro e w0 ⟨rfl, bb⟩; replace hb := next (lay hb _) bb; replace KB := KB.below bb; obtain ⟨m0, m1, m2, m3, m4, m5, m6, m7, m8, m9, m10, m11, m12⟩ := blk13 (h := ⟨id, qr, op0, aa, tc, rd, ra, z, rc⟩) KB; simp only at m0 m1 m2 m3 m4 m5 m6 m7 m8; have ltB := KB.lt; have lt0 := hb.size; clear bb KB))
  clear m0 m1 m2 m3 m4 m5 m6 m7 m8 m9 m10 m11 m12 ltB
  obtain ⟨KX, KQ⟩ := rf_new w0 #[.int .i64 e1, .bool true, .int .i64 0, .bool true, .bool false, .bool false, .bool false, .int .i64 0, .int .i64 3, .slice (some ⟨w0.heap.size + 1, 0, none⟩) 1 1, .slice x1 an.length c1, .slice x2 ns.length c2, .slice x3 ar.length c3]
  replace hb := lay (lay hb (.cells #[.int .i64 e1, .bool true, .int .i64 0, .bool true, .bool false, .bool false, .bool false, .int .i64 0, .int .i64 3, .slice (some ⟨w0.heap.size + 1, 0, none⟩) 1 1, .slice x1 an.length c1, .slice x2 ns.length c2, .slice x3 ar.length c3] 27)) (.cells #[.string ⟨#[1, 97, 0]⟩, .int .i64 1, .int .i64 1] 40)
  revert KX KQ hb
  generalize (w0.alloc (.cells #[.int .i64 e1, .bool true, .int .i64 0, .bool true, .bool false, .bool false, .bool false, .int .i64 0, .int .i64 3, .slice (some ⟨w0.heap.size + 1, 0, none⟩) 1 1, .slice x1 an.length c1, .slice x2 ns.length c2, .slice x3 ar.length c3] 27)).alloc (.cells #[.string ⟨#[1, 97, 0]⟩, .int .i64 1, .int .i64 1] 40) = WA
  intro KX KQ hb
  obtain ⟨i0, hi, hz0, hz1, hz2⟩ := info_parts infoQ
  have d0 : WA.cell? ⟨w0.heap.size + 1, 0, none⟩ = some (.string ⟨#[1, 97, 0]⟩) := KQ.cell 0
  have d1 : WA.cell? ⟨w0.heap.size + 1, 1, none⟩ = some (.int .i64 1) := KQ.cell 1
  have d2 : WA.cell? ⟨w0.heap.size + 1, 2, none⟩ = some (.int .i64 1) := KQ.cell 2
  have q1 : WA.cell? ⟨w0.heap.size, 9, none⟩ = some (.slice (some ⟨w0.heap.size + 1, 0, none⟩) 1 1) := KX.cell 9
  have q2 : (WA.alloc (.cells #[.string ⟨#[1, 97, 0]⟩, .int .i64 1, .int .i64 1] 40)).cell? ⟨w0.heap.size, 9, none⟩ = some (.slice (some ⟨w0.heap.size + 1, 0, none⟩) 1 1) := (KX.alloc _).cell 9
  have HBD : Hid (Below w.heap.size w (WA.alloc (.cells #[.string ⟨#[1, 97, 0]⟩, .int .i64 1, .int .i64 1] 40)).drew) := (lay hb _).drew
  have KXD : Hid (Blk (WA.alloc (.cells #[.string ⟨#[1, 97, 0]⟩, .int .i64 1, .int .i64 1] 40)).drew w0.heap.size #[.int .i64 e1, .bool true, .int .i64 0, .bool true, .bool false, .bool false, .bool false, .int .i64 0, .int .i64 3, .slice (some ⟨w0.heap.size + 1, 0, none⟩) 1 1, .slice x1 an.length c1, .slice x2 ns.length c2, .slice x3 ar.length c3] 27) := (KX.alloc _).below (below_drew ⟨1, rfl⟩)
  have hto := own_blk (B := w0.heap.size) (z := 3) (n := 1) ((KQ.alloc (.cells #[.string ⟨#[1, 97, 0]⟩, .int .i64 1, .int .i64 1] 40)).below (below_drew ⟨1, rfl⟩)) (by omega) (xs := qC [⟨⟨#[1, 97, 0]⟩, 1, 1⟩]) rfl rfl (small100 (by decide))
  have kN : Blk (WA.alloc (.cells #[.string ⟨#[1, 97, 0]⟩, .int .i64 1, .int .i64 1] 40)).drew WA.heap.size #[.string ⟨#[1, 97, 0]⟩, .int .i64 1, .int .i64 1] 40 := Blk.new WA _ _
  have hB0 : w0.heap.size ≤ (WA.alloc (.cells #[.string ⟨#[1, 97, 0]⟩, .int .i64 1, .int .i64 1] 40)).drew.heap.size := by have := KXD.out.lt; omega
  clear KX KQ hb
  go_region_law ((refine step_appG _ (by rfl) (.tmp 42) (.tmp 47) 24 40 i0 _ 3 32 Try.underlying24 hi hz0 hz1 hz2 rfl (by decide) (by rfl) w0.heap.size _ 1 _ (by rfl) hto (.slice (some ⟨WA.heap.size, 0, none⟩) 1 1) 1 [.string ⟨#[1, 97, 0]⟩, .int .i64 1, .int .i64 1] (by rfl) (Row.of_blk kN rfl 1 1) rfl (by simp [Value.oneCell']) (by decide) (small100 (by decide)) hB0 ?_; intro v7 w7 h1 h3 h4; have hks := KXD.out.grown h3 (own_sep hto KXD.out (by decide)); have q6 : w7.cell? ⟨w0.heap.size, 9, none⟩ = some (.slice (some ⟨w0.heap.size + 1, 0, none⟩) 1 1) := hks.cell 9; have q7 : w7.frozen? ⟨w0.heap.size, 9, none⟩ = false := hks.frozen 9; obtain ⟨y7, c7, rfl⟩ := row_shape h1; have HH7 : Hid (w7.ownsRow w0.heap.size 40 3 (.slice y7 2 c7) 2 (qC [⟨⟨#[1, 97, 0]⟩, 1, 1⟩, ⟨⟨#[1, 97, 0]⟩, 1, 1⟩]) ∧ Blk w7 w0.heap.size #[.int .i64 e1, .bool true, .int .i64 0, .bool true, .bool false, .bool false, .bool false, .int .i64 0, .int .i64 3, .slice (some ⟨w0.heap.size + 1, 0, none⟩) 1 1, .slice x1 an.length c1, .slice x2 ns.length c2, .slice x3 ar.length c3] 27 ∧ Below w.heap.size w w7) := ⟨h1, hks, HBD.out.grown h3 HBD.out.size (fun k e => (Nat.le_trans lt0 (hto.lt k e).1))⟩; clear h1 h3 h4 hks hto kN))
  all_goals
    have K7 := HH7.out.2.1.set 9 (.slice y7 2 c7)
    have own7 : (w7.setCell ⟨w0.heap.size, 9, none⟩ (.slice y7 2 c7)).ownsRow w0.heap.size 40 3 (.slice y7 2 c7) 2 (qC [⟨⟨#[1, 97, 0]⟩, 1, 1⟩, ⟨⟨#[1, 97, 0]⟩, 1, 1⟩]) := (Turn.of_set (S := fun k => k = w0.heap.size) w7 (p := ⟨w0.heap.size, 9, none⟩) rfl (.slice y7 2 c7)).row HH7.out.1 (fun k hk e => own_sep HH7.out.1 HH7.out.2.1 (by decide) (by rw [hk, e]))
    have hb7 := HH7.out.2.2.setCell (p := ⟨w0.heap.size, 9, none⟩) (by show w.heap.size ≤ w0.heap.size; omega) (.slice y7 2 c7)
    clear q6 q7 HH7 HBD KXD
    revert K7 own7 hb7
    generalize w7.setCell ⟨w0.heap.size, 9, none⟩ (.slice y7 2 c7) = W
    intro K7 own7 hb
    have m0 : W.cell? ⟨w0.heap.size, 0, none⟩ = some (.int .i64 e1) := K7.cell 0
    have m1 : W.cell? ⟨w0.heap.size, 1, none⟩ = some (.bool true) := K7.cell 1
    have m2 : W.cell? ⟨w0.heap.size, 2, none⟩ = some (.int .i64 0) := K7.cell 2
    have m3 : W.cell? ⟨w0.heap.size, 3, none⟩ = some (.bool true) := K7.cell 3
    have m4 : W.cell? ⟨w0.heap.size, 4, none⟩ = some (.bool false) := K7.cell 4
    have m5 : W.cell? ⟨w0.heap.size, 5, none⟩ = some (.bool false) := K7.cell 5
    have m6 : W.cell? ⟨w0.heap.size, 6, none⟩ = some (.bool false) := K7.cell 6
    have m7 : W.cell? ⟨w0.heap.size, 7, none⟩ = some (.int .i64 0) := K7.cell 7
    have m8 : W.cell? ⟨w0.heap.size, 8, none⟩ = some (.int .i64 3) := K7.cell 8
    have m9 : W.cell? ⟨w0.heap.size, 9, none⟩ = some (.slice y7 2 c7) := K7.cell 9
    have m10 : W.cell? ⟨w0.heap.size, 10, none⟩ = some (.slice x1 an.length c1) := K7.cell 10
    have m11 : W.cell? ⟨w0.heap.size, 11, none⟩ = some (.slice x2 ns.length c2) := K7.cell 11
    have m12 : W.cell? ⟨w0.heap.size, 12, none⟩ = some (.slice x3 ar.length c3) := K7.cell 12
    have f9 : W.frozen? ⟨w0.heap.size, 9, none⟩ = false := K7.frozen 9
    clear K7
    clear own7
    go_wp2_with (first
      | (go_at_call 9; refine (num_any _ _).mono ?_; rintro e w' ⟨rfl, hw⟩; obtain rfl := hw.symm)
      | (go_at_call 7; go_must (refine (rput_h e1 true 0 true false false false 0 3 [] an ns ar T E _ _ _ _ _ HP.out (QRow.nil _) (H1.out.below (hb.setCell (p := ⟨w0.heap.size, 9, none⟩) (by show w.heap.size ≤ w0.heap.size; omega) (.slice none 0 0))) (H2.out.below (hb.setCell (p := ⟨w0.heap.size, 9, none⟩) (by show w.heap.size ≤ w0.heap.size; omega) (.slice none 0 0))) (H3.out.below (hb.setCell (p := ⟨w0.heap.size, 9, none⟩) (by show w.heap.size ≤ w0.heap.size; omega) (.slice none 0 0)))).mono ?_); rintro e w1 ⟨rfl, bb⟩; clear m0 m1 m2 m3 m4 m5 m6 m7 m8 m9 m10 m11 m12 f9; replace hb := next (hb.setCell (p := ⟨w0.heap.size, 9, none⟩) (by show w.heap.size ≤ w0.heap.size; omega) (.slice none 0 0)) bb; clear bb))
    go_ret
    exact ⟨ret_bool (by simp), hb⟩

end Go.Proofs.Ytbffnicfibfceaa.Ma
