/- FilterTwice holds: for every message and every cut, what Filter gives is not turned by a second Filter, and what it gives of one part does not hang on another. -/
import Derived.Test.YtnecdpieoipjdaaBaH
import Derived.ProofKit
import Derived.OpenShut
import Derived.ShutString
import Derived.SizedLaws
namespace Go.Proofs.Ytnecdpieoipjdaa.filterTwice
open Go.ChangeShapes Go.WideShapes Go.ChangeAt Go.RowKit
open Go.ChangeMaps (open_string shut_string)
open Pl

set_option maxRecDepth 20000 in
set_option maxHeartbeats 4000000 in
theorem w_yes (id : Int) (qr : Bool) (op : Int) (aa tc rd ra : Bool) (z rc : Int) (qs : List Qn) (an ns ar : List Rc) (x0 x1 x2 x3 : Option Addr) (c0 c1 c2 c3 : Nat) (c : ByteArray) (w : World) (h0 : Row w (.slice x0 qs.length c0) qs.length (qC qs)) (h1 : Row w (.slice x1 an.length c1) an.length (rC an)) (h2 : Row w (.slice x2 ns.length c2) ns.length (rC ns)) (h3 : Row w (.slice x3 ar.length c3) ar.length (rC ar)) (hF : Fits ⟨⟨id, qr, op, aa, tc, rd, ra, z, rc⟩, qs, an, ns, ar⟩) (hc : c.size ≤ maxLen) (hn : isName c.data.toList = true) :
    Calls Try.prog 6 #[.agg #[.int .i64 id, .bool qr, .int .i64 op, .bool aa, .bool tc, .bool rd, .bool ra, .int .i64 z, .int .i64 rc, .slice x0 qs.length c0, .slice x1 an.length c1, .slice x2 ns.length c2, .slice x3 ar.length c3], .string c] w fun e w' => e = .returned (.bool true) ∧ Below w.heap.size w w' := by
  have H0 : Hid (Row w (.slice x0 qs.length c0) qs.length (qC qs)) := h0
  have H1 : Hid (Row w (.slice x1 an.length c1) an.length (rC an)) := h1
  have H2 : Hid (Row w (.slice x2 ns.length c2) ns.length (rC ns)) := h2
  have H3 : Hid (Row w (.slice x3 ar.length c3) ar.length (rC ar)) := h3
  obtain ⟨M, hM⟩ : ∃ M, M = fM c.data.toList ⟨⟨id, qr, op, aa, tc, rd, ra, z, rc⟩, qs, an, ns, ar⟩ := ⟨_, rfl⟩
  obtain ⟨⟨jd, jq, jo, ja, jt, jr, jv, jz, jc⟩, qs2, an2, ns2, ar2⟩ := M
  have HM1 : Hid (⟨⟨jd, jq, jo, ja, jt, jr, jv, jz, jc⟩, qs2, an2, ns2, ar2⟩ = fM c.data.toList ⟨⟨id, qr, op, aa, tc, rd, ra, z, rc⟩, qs, an, ns, ar⟩) := hM
  have HM2 : Hid (⟨⟨jd, jq, jo, ja, jt, jr, jv, jz, jc⟩, qs2, an2, ns2, ar2⟩ = fM c.data.toList ⟨⟨jd, jq, jo, ja, jt, jr, jv, jz, jc⟩, qs2, an2, ns2, ar2⟩) := by
    unfold Hid
    rw [hM]
    simp only [fM_yes hn, kpM_twice]
  have HM3 : Hid (⟨⟨jd, jq, jo, ja, jt, jr, jv, jz, jc⟩, qs2, [], ns2, ar2⟩ = fM c.data.toList ⟨⟨id, qr, op, aa, tc, rd, ra, z, rc⟩, qs, [], ns, ar⟩) := by
    unfold Hid
    rw [fM_yes hn] at hM ⊢
    simp only [kpM, Ms.mk.injEq] at hM ⊢
    exact ⟨hM.1, hM.2.1, rfl, hM.2.2.2⟩
  have HFT : Hid (Fits ⟨⟨id, qr, op, aa, tc, rd, ra, z, rc⟩, qs, an, ns, ar⟩) := hF
  have HFJ : Hid (Fits ⟨⟨jd, jq, jo, ja, jt, jr, jv, jz, jc⟩, qs2, an2, ns2, ar2⟩) := by unfold Hid; rw [hM]; exact hF.fm _
  have HFX : Hid (Fits ⟨⟨id, qr, op, aa, tc, rd, ra, z, rc⟩, qs, [], ns, ar⟩) := ⟨hF.q, by simp, hF.ns, hF.ar, hF.sq, by simp, hF.sns, hF.sar⟩
  have hle : (an2.length : Int) ≤ (an.length : Int) := by
    rw [fM_yes hn] at hM
    simp only [kpM, Ms.mk.injEq] at hM
    have := kpL_len c.data.toList an
    rw [hM.2.2.1]
    omega
  have HE : Hid ((0 : Int) = fE c.data.toList) := (fE_yes hn).symm
  have hb : Below w.heap.size w w := Below.refl _ _
  have KM0 : Hid (∀ u, Below (w.alloc (.cells #[.int .i64 id, .bool qr, .int .i64 op, .bool aa, .bool tc, .bool rd, .bool ra, .int .i64 z, .int .i64 rc, .slice x0 qs.length c0, .slice x1 an.length c1, .slice x2 ns.length c2, .slice x3 ar.length c3] 27)).heap.size (w.alloc (.cells #[.int .i64 id, .bool qr, .int .i64 op, .bool aa, .bool tc, .bool rd, .bool ra, .int .i64 z, .int .i64 rc, .slice x0 qs.length c0, .slice x1 an.length c1, .slice x2 ns.length c2, .slice x3 ar.length c3] 27)) u → Blk u w.heap.size (msgC ⟨id, qr, op, aa, tc, rd, ra, z, rc⟩ (.slice x0 qs.length c0) (.slice x1 an.length c1) (.slice x2 ns.length c2) (.slice x3 ar.length c3)) 27) := fun u hu => (Blk.new w _ _).below hu
  have t1 : True := trivial
  have t2 : True := trivial
  have t3 : True := trivial
  have t4 : True := trivial
  clear hM h0 h1 h2 h3 hF hn
  go_enter Try.func6, Try.ntmps6
  go_wp2_with (first
    | (go_at_call 13; go_must (refine (awake_any _).mono ?_); rintro e w1 ⟨rfl, bb⟩; have HK : Hid (Blk w1 w.heap.size (msgC ⟨id, qr, op, aa, tc, rd, ra, z, rc⟩ (.slice x0 qs.length c0) (.slice x1 an.length c1) (.slice x2 ns.length c2) (.slice x3 ar.length c3)) 27) := KM0.out _ bb; have HB : Hid (Below w.heap.size w w1) := next (lay hb _) bb; obtain ⟨e0, e1, e2, e3, e4, e5, e6, e7, e8, e9, e10, e11, e12⟩ := blk13 (h := ⟨id, qr, op, aa, tc, rd, ra, z, rc⟩) (HK.out); simp only at e0 e1 e2 e3 e4 e5 e6 e7 e8; clear bb hb KM0)
    | (go_at_call 8; have _t := t1; go_must (refine (filter_any c id qr op aa tc rd ra z rc qs an ns ar _ _ _ _ _ jd jq jo ja jt jr jv jz jc qs2 an2 ns2 ar2 0 (H0.out.below HB.out) (H1.out.below HB.out) (H2.out.below HB.out) (H3.out.below HB.out) HFT.out hc HM1.out HE.out).mono ?_); rintro e w2 ⟨y10, y11, y12, y13, k10, k11, k12, k13, rfl, ow, bb⟩; have HR1 : Hid (MR w2 (.slice y10 qs2.length k10) (.slice y11 an2.length k11) (.slice y12 ns2.length k12) (.slice y13 ar2.length k13) ⟨⟨jd, jq, jo, ja, jt, jr, jv, jz, jc⟩, qs2, an2, ns2, ar2⟩) := ow.mr HFJ.out; replace HK : Hid (Blk w2 w.heap.size (msgC ⟨id, qr, op, aa, tc, rd, ra, z, rc⟩ (.slice x0 qs.length c0) (.slice x1 an.length c1) (.slice x2 ns.length c2) (.slice x3 ar.length c3)) 27) := HK.out.below bb; replace HB : Hid (Below w.heap.size w w2) := next HB.out bb; clear e0 e1 e2 e3 e4 e5 e6 e7 e8 e9 e10 e11 e12; clear ow bb t1 _t)
    | (go_at_call 8; have _t := t2; go_must (refine (filter_any c jd jq jo ja jt jr jv jz jc qs2 an2 ns2 ar2 _ _ _ _ _ jd jq jo ja jt jr jv jz jc qs2 an2 ns2 ar2 0 (HR1.out.1.below (lay (Below.refl _ _) _)) (HR1.out.2.1.below (lay (Below.refl _ _) _)) (HR1.out.2.2.1.below (lay (Below.refl _ _) _)) (HR1.out.2.2.2.1.below (lay (Below.refl _ _) _)) HFJ.out hc HM2.out HE.out).mono ?_); rintro e w3 ⟨y20, y21, y22, y23, k20, k21, k22, k23, rfl, ow, bb⟩; have HR2 : Hid (MR w3 (.slice y20 qs2.length k20) (.slice y21 an2.length k21) (.slice y22 ns2.length k22) (.slice y23 ar2.length k23) ⟨⟨jd, jq, jo, ja, jt, jr, jv, jz, jc⟩, qs2, an2, ns2, ar2⟩) := ow.mr HFJ.out; have HA : Hid (Blk w3 w2.heap.size (msgC ⟨jd, jq, jo, ja, jt, jr, jv, jz, jc⟩ (.slice y10 qs2.length k10) (.slice y11 an2.length k11) (.slice y12 ns2.length k12) (.slice y13 ar2.length k13)) 27) := (Blk.new w2 _ _).below bb; replace HR1 : Hid (MR w3 (.slice y10 qs2.length k10) (.slice y11 an2.length k11) (.slice y12 ns2.length k12) (.slice y13 ar2.length k13) ⟨⟨jd, jq, jo, ja, jt, jr, jv, jz, jc⟩, qs2, an2, ns2, ar2⟩) := (HR1.out.below (lay (Below.refl _ _) _)).below bb; replace HK : Hid (Blk w3 w.heap.size (msgC ⟨id, qr, op, aa, tc, rd, ra, z, rc⟩ (.slice x0 qs.length c0) (.slice x1 an.length c1) (.slice x2 ns.length c2) (.slice x3 ar.length c3)) 27) := (HK.out.alloc _).below bb; replace HB : Hid (Below w.heap.size w w3) := next (lay HB.out _) bb; have HK2 : Hid (Blk (w3.alloc (.cells #[.int .i64 jd, .bool jq, .int .i64 jo, .bool ja, .bool jt, .bool jr, .bool jv, .int .i64 jz, .int .i64 jc, .slice y20 qs2.length k20, .slice y21 an2.length k21, .slice y22 ns2.length k22, .slice y23 ar2.length k23] 27)) w.heap.size (msgC ⟨id, qr, op, aa, tc, rd, ra, z, rc⟩ (.slice x0 qs.length c0) (.slice x1 an.length c1) (.slice x2 ns.length c2) (.slice x3 ar.length c3)) 27) := HK.out.alloc _; obtain ⟨e0, e1, e2, e3, e4, e5, e6, e7, e8, e9, e10, e11, e12⟩ := blk13 (h := ⟨id, qr, op, aa, tc, rd, ra, z, rc⟩) (HK2.out); simp only at e0 e1 e2 e3 e4 e5 e6 e7 e8; clear HK2; clear ow bb t2 _t)
    | (go_at_call 8; have _t := t3; go_must (refine (filter_any c id qr op aa tc rd ra z rc qs [] ns ar _ _ _ _ _ jd jq jo ja jt jr jv jz jc qs2 [] ns2 ar2 0 (H0.out.below (lay (lay HB.out _) _)) (Row.nil _ _) (H2.out.below (lay (lay HB.out _) _)) (H3.out.below (lay (lay HB.out _) _)) HFX.out hc HM3.out HE.out).mono ?_); rintro e w4 ⟨y30, y31, y32, y33, k30, k31, k32, k33, rfl, ow, bb⟩; have HR3 : Hid (MR w4 (.slice y30 qs2.length k30) (.slice y31 0 k31) (.slice y32 ns2.length k32) (.slice y33 ar2.length k33) ⟨⟨jd, jq, jo, ja, jt, jr, jv, jz, jc⟩, qs2, [], ns2, ar2⟩) := ow.mr ⟨HFJ.out.q, (by simp), HFJ.out.ns, HFJ.out.ar, HFJ.out.sq, (by simp), HFJ.out.sns, HFJ.out.sar⟩; have hbx : Below w3.heap.size w3 w4 := next (lay (lay (Below.refl _ _) _) _) bb; have HBk : Hid (Blk w4 w3.heap.size (msgC ⟨jd, jq, jo, ja, jt, jr, jv, jz, jc⟩ (.slice y20 qs2.length k20) (.slice y21 an2.length k21) (.slice y22 ns2.length k22) (.slice y23 ar2.length k23)) 27) := ((Blk.new w3 _ _).alloc _).below bb; replace HA : Hid (Blk w4 w2.heap.size (msgC ⟨jd, jq, jo, ja, jt, jr, jv, jz, jc⟩ (.slice y10 qs2.length k10) (.slice y11 an2.length k11) (.slice y12 ns2.length k12) (.slice y13 ar2.length k13)) 27) := HA.out.below hbx; replace HR1 : Hid (MR w4 (.slice y10 qs2.length k10) (.slice y11 an2.length k11) (.slice y12 ns2.length k12) (.slice y13 ar2.length k13) ⟨⟨jd, jq, jo, ja, jt, jr, jv, jz, jc⟩, qs2, an2, ns2, ar2⟩) := HR1.out.below hbx; replace HR2 : Hid (MR w4 (.slice y20 qs2.length k20) (.slice y21 an2.length k21) (.slice y22 ns2.length k22) (.slice y23 ar2.length k23) ⟨⟨jd, jq, jo, ja, jt, jr, jv, jz, jc⟩, qs2, an2, ns2, ar2⟩) := HR2.out.below hbx; replace HK : Hid (Blk w4 w.heap.size (msgC ⟨id, qr, op, aa, tc, rd, ra, z, rc⟩ (.slice x0 qs.length c0) (.slice x1 an.length c1) (.slice x2 ns.length c2) (.slice x3 ar.length c3)) 27) := HK.out.below hbx; replace HB : Hid (Below w.heap.size w w4) := next HB.out hbx; simp only [List.length_nil]; clear e0 e1 e2 e3 e4 e5 e6 e7 e8 e9 e10 e11 e12; have HA2 : Hid (Blk (w4.alloc (.cells #[.int .i64 jd, .bool jq, .int .i64 jo, .bool ja, .bool jt, .bool jr, .bool jv, .int .i64 jz, .int .i64 jc, .slice y30 qs2.length k30, .slice y31 0 k31, .slice y32 ns2.length k32, .slice y33 ar2.length k33] 27)) w2.heap.size (msgC ⟨jd, jq, jo, ja, jt, jr, jv, jz, jc⟩ (.slice y10 qs2.length k10) (.slice y11 an2.length k11) (.slice y12 ns2.length k12) (.slice y13 ar2.length k13)) 27) := HA.out.alloc _; have HB2 : Hid (Blk (w4.alloc (.cells #[.int .i64 jd, .bool jq, .int .i64 jo, .bool ja, .bool jt, .bool jr, .bool jv, .int .i64 jz, .int .i64 jc, .slice y30 qs2.length k30, .slice y31 0 k31, .slice y32 ns2.length k32, .slice y33 ar2.length k33] 27)) w3.heap.size (msgC ⟨jd, jq, jo, ja, jt, jr, jv, jz, jc⟩ (.slice y20 qs2.length k20) (.slice y21 an2.length k21) (.slice y22 ns2.length k22) (.slice y23 ar2.length k23)) 27) := HBk.out.alloc _; obtain ⟨a0, a1, a2, a3, a4, a5, a6, a7, a8, a9, a10, a11, a12⟩ := blk13 (h := ⟨jd, jq, jo, ja, jt, jr, jv, jz, jc⟩) (HA2.out); simp only at a0 a1 a2 a3 a4 a5 a6 a7 a8; obtain ⟨b0, b1, b2, b3, b4, b5, b6, b7, b8, b9, b10, b11, b12⟩ := blk13 (h := ⟨jd, jq, jo, ja, jt, jr, jv, jz, jc⟩) (HB2.out); simp only at b0 b1 b2 b3 b4 b5 b6 b7 b8; clear hbx HA2 HB2 HBk; clear ow bb t3 _t)
    | (go_at_call 10; go_must (refine (sameMsg_yes ⟨⟨jd, jq, jo, ja, jt, jr, jv, jz, jc⟩, qs2, an2, ns2, ar2⟩ _ _ _ _ _ _ _ _ _ (HR1.out.below (lay (Below.refl _ _) _)) (HR2.out.below (lay (Below.refl _ _) _))).mono ?_); rintro e w5 ⟨rfl, bb⟩; have hbx : Below w4.heap.size w4 w5 := next (lay (Below.refl _ _) _) bb; have HC : Hid (Blk w5 w4.heap.size (msgC ⟨jd, jq, jo, ja, jt, jr, jv, jz, jc⟩ (.slice y30 qs2.length k30) (.slice y31 0 k31) (.slice y32 ns2.length k32) (.slice y33 ar2.length k33)) 27) := (Blk.new w4 _ _).below bb; replace HA : Hid (Blk w5 w2.heap.size (msgC ⟨jd, jq, jo, ja, jt, jr, jv, jz, jc⟩ (.slice y10 qs2.length k10) (.slice y11 an2.length k11) (.slice y12 ns2.length k12) (.slice y13 ar2.length k13)) 27) := HA.out.below hbx; replace HR1 : Hid (MR w5 (.slice y10 qs2.length k10) (.slice y11 an2.length k11) (.slice y12 ns2.length k12) (.slice y13 ar2.length k13) ⟨⟨jd, jq, jo, ja, jt, jr, jv, jz, jc⟩, qs2, an2, ns2, ar2⟩) := HR1.out.below hbx; replace HR3 : Hid (MR w5 (.slice y30 qs2.length k30) (.slice y31 0 k31) (.slice y32 ns2.length k32) (.slice y33 ar2.length k33) ⟨⟨jd, jq, jo, ja, jt, jr, jv, jz, jc⟩, qs2, [], ns2, ar2⟩) := HR3.out.below hbx; replace HK : Hid (Blk w5 w.heap.size (msgC ⟨id, qr, op, aa, tc, rd, ra, z, rc⟩ (.slice x0 qs.length c0) (.slice x1 an.length c1) (.slice x2 ns.length c2) (.slice x3 ar.length c3)) 27) := HK.out.below hbx; replace HB : Hid (Below w.heap.size w w5) := next HB.out hbx; clear a0 a1 a2 a3 a4 a5 a6 a7 a8 a9 a10 a11 a12 b0 b1 b2 b3 b4 b5 b6 b7 b8 b9 b10 b11 b12; obtain ⟨f0, f1, f2, f3, f4, f5, f6, f7, f8, f9, f10, f11, f12⟩ := blk13 (h := ⟨jd, jq, jo, ja, jt, jr, jv, jz, jc⟩) (HC.out); simp only at f0 f1 f2 f3 f4 f5 f6 f7 f8; obtain ⟨a0, a1, a2, a3, a4, a5, a6, a7, a8, a9, a10, a11, a12⟩ := blk13 (h := ⟨jd, jq, jo, ja, jt, jr, jv, jz, jc⟩) (HA.out); simp only at a0 a1 a2 a3 a4 a5 a6 a7 a8; clear bb hbx)
    | (go_at_call 17; have _t := t4; go_must (refine (sameR_yes _ _ ns2 _ HR3.out.2.2.1 HR1.out.2.2.1 HR3.out.2.2.2.2.2.2.1).mono ?_); rintro e w6 ⟨rfl, bb⟩; clear f0 f1 f2 f3 f4 f5 f6 f7 f8 f9 f10 f11 f12 a0 a1 a2 a3 a4 a5 a6 a7 a8 a9 a10 a11 a12; replace HC : Hid (Blk w6 w4.heap.size (msgC ⟨jd, jq, jo, ja, jt, jr, jv, jz, jc⟩ (.slice y30 qs2.length k30) (.slice y31 0 k31) (.slice y32 ns2.length k32) (.slice y33 ar2.length k33)) 27) := HC.out.below bb; replace HA : Hid (Blk w6 w2.heap.size (msgC ⟨jd, jq, jo, ja, jt, jr, jv, jz, jc⟩ (.slice y10 qs2.length k10) (.slice y11 an2.length k11) (.slice y12 ns2.length k12) (.slice y13 ar2.length k13)) 27) := HA.out.below bb; replace HR1 : Hid (MR w6 (.slice y10 qs2.length k10) (.slice y11 an2.length k11) (.slice y12 ns2.length k12) (.slice y13 ar2.length k13) ⟨⟨jd, jq, jo, ja, jt, jr, jv, jz, jc⟩, qs2, an2, ns2, ar2⟩) := HR1.out.below bb; replace HR3 : Hid (MR w6 (.slice y30 qs2.length k30) (.slice y31 0 k31) (.slice y32 ns2.length k32) (.slice y33 ar2.length k33) ⟨⟨jd, jq, jo, ja, jt, jr, jv, jz, jc⟩, qs2, [], ns2, ar2⟩) := HR3.out.below bb; replace HK : Hid (Blk w6 w.heap.size (msgC ⟨id, qr, op, aa, tc, rd, ra, z, rc⟩ (.slice x0 qs.length c0) (.slice x1 an.length c1) (.slice x2 ns.length c2) (.slice x3 ar.length c3)) 27) := HK.out.below bb; replace HB : Hid (Below w.heap.size w w6) := next HB.out bb; obtain ⟨f0, f1, f2, f3, f4, f5, f6, f7, f8, f9, f10, f11, f12⟩ := blk13 (h := ⟨jd, jq, jo, ja, jt, jr, jv, jz, jc⟩) (HC.out); simp only at f0 f1 f2 f3 f4 f5 f6 f7 f8; obtain ⟨a0, a1, a2, a3, a4, a5, a6, a7, a8, a9, a10, a11, a12⟩ := blk13 (h := ⟨jd, jq, jo, ja, jt, jr, jv, jz, jc⟩) (HA.out); simp only at a0 a1 a2 a3 a4 a5 a6 a7 a8; clear bb t4 _t)
    | (go_at_call 17; go_must (refine (sameR_yes _ _ ar2 _ HR3.out.2.2.2.1 HR1.out.2.2.2.1 HR3.out.2.2.2.2.2.2.2).mono ?_); rintro e w7 ⟨rfl, bb⟩; clear f0 f1 f2 f3 f4 f5 f6 f7 f8 f9 f10 f11 f12 a0 a1 a2 a3 a4 a5 a6 a7 a8 a9 a10 a11 a12; replace HA : Hid (Blk w7 w2.heap.size (msgC ⟨jd, jq, jo, ja, jt, jr, jv, jz, jc⟩ (.slice y10 qs2.length k10) (.slice y11 an2.length k11) (.slice y12 ns2.length k12) (.slice y13 ar2.length k13)) 27) := HA.out.below bb; replace HK : Hid (Blk w7 w.heap.size (msgC ⟨id, qr, op, aa, tc, rd, ra, z, rc⟩ (.slice x0 qs.length c0) (.slice x1 an.length c1) (.slice x2 ns.length c2) (.slice x3 ar.length c3)) 27) := HK.out.below bb; replace HB : Hid (Below w.heap.size w w7) := next HB.out bb; obtain ⟨a0, a1, a2, a3, a4, a5, a6, a7, a8, a9, a10, a11, a12⟩ := blk13 (h := ⟨jd, jq, jo, ja, jt, jr, jv, jz, jc⟩) (HA.out); simp only at a0 a1 a2 a3 a4 a5 a6 a7 a8; obtain ⟨e0, e1, e2, e3, e4, e5, e6, e7, e8, e9, e10, e11, e12⟩ := blk13 (h := ⟨id, qr, op, aa, tc, rd, ra, z, rc⟩) (HK.out); simp only at e0 e1 e2 e3 e4 e5 e6 e7 e8; clear bb)
    | (go_at_call 11; refine (num_any _ _).mono ?_; rintro e w' ⟨rfl, hw⟩; obtain rfl := hw.symm))
  go_ret
  exact ⟨rfl, HB.out⟩

set_option maxRecDepth 20000 in
set_option maxHeartbeats 4000000 in
theorem w_no (id : Int) (qr : Bool) (op : Int) (aa tc rd ra : Bool) (z rc : Int) (qs : List Qn) (an ns ar : List Rc) (x0 x1 x2 x3 : Option Addr) (c0 c1 c2 c3 : Nat) (c : ByteArray) (w : World) (h0 : Row w (.slice x0 qs.length c0) qs.length (qC qs)) (h1 : Row w (.slice x1 an.length c1) an.length (rC an)) (h2 : Row w (.slice x2 ns.length c2) ns.length (rC ns)) (h3 : Row w (.slice x3 ar.length c3) ar.length (rC ar)) (hc : c.size ≤ maxLen) (hn : isName c.data.toList = false) :
    Calls Try.prog 6 #[.agg #[.int .i64 id, .bool qr, .int .i64 op, .bool aa, .bool tc, .bool rd, .bool ra, .int .i64 z, .int .i64 rc, .slice x0 qs.length c0, .slice x1 an.length c1, .slice x2 ns.length c2, .slice x3 ar.length c3], .string c] w fun e w' => e = .returned (.bool true) ∧ Below w.heap.size w w' := by
  have H0 : Hid (Row w (.slice x0 qs.length c0) qs.length (qC qs)) := h0
  have H1 : Hid (Row w (.slice x1 an.length c1) an.length (rC an)) := h1
  have H2 : Hid (Row w (.slice x2 ns.length c2) ns.length (rC ns)) := h2
  have H3 : Hid (Row w (.slice x3 ar.length c3) ar.length (rC ar)) := h3
  have hb : Below w.heap.size w w := Below.refl _ _
  have KM0 : Hid (∀ u, Below (w.alloc (.cells #[.int .i64 id, .bool qr, .int .i64 op, .bool aa, .bool tc, .bool rd, .bool ra, .int .i64 z, .int .i64 rc, .slice x0 qs.length c0, .slice x1 an.length c1, .slice x2 ns.length c2, .slice x3 ar.length c3] 27)).heap.size (w.alloc (.cells #[.int .i64 id, .bool qr, .int .i64 op, .bool aa, .bool tc, .bool rd, .bool ra, .int .i64 z, .int .i64 rc, .slice x0 qs.length c0, .slice x1 an.length c1, .slice x2 ns.length c2, .slice x3 ar.length c3] 27)) u → Blk u w.heap.size (msgC ⟨id, qr, op, aa, tc, rd, ra, z, rc⟩ (.slice x0 qs.length c0) (.slice x1 an.length c1) (.slice x2 ns.length c2) (.slice x3 ar.length c3)) 27) := fun u hu => (Blk.new w _ _).below hu
  have t1 : True := trivial
  have t2 : True := trivial
  clear h0 h1 h2 h3
  go_enter Try.func6, Try.ntmps6
  go_wp2_with (first
    | (go_at_call 13; go_must (refine (awake_any _).mono ?_); rintro e w1 ⟨rfl, bb⟩; have HK : Hid (Blk w1 w.heap.size (msgC ⟨id, qr, op, aa, tc, rd, ra, z, rc⟩ (.slice x0 qs.length c0) (.slice x1 an.length c1) (.slice x2 ns.length c2) (.slice x3 ar.length c3)) 27) := KM0.out _ bb; have HB : Hid (Below w.heap.size w w1) := next (lay hb _) bb; obtain ⟨e0, e1, e2, e3, e4, e5, e6, e7, e8, e9, e10, e11, e12⟩ := blk13 (h := ⟨id, qr, op, aa, tc, rd, ra, z, rc⟩) (HK.out); simp only at e0 e1 e2 e3 e4 e5 e6 e7 e8; clear bb hb KM0)
    | (go_at_call 8; have _t := t1; go_must (refine (filter_no c id qr op aa tc rd ra z rc qs an ns ar _ _ _ _ _ (H0.out.below HB.out) (H1.out.below HB.out) (H2.out.below HB.out) (H3.out.below HB.out) hc hn).mono ?_); rintro e w2 ⟨rfl, bb⟩; replace HK : Hid (Blk w2 w.heap.size (msgC ⟨id, qr, op, aa, tc, rd, ra, z, rc⟩ (.slice x0 qs.length c0) (.slice x1 an.length c1) (.slice x2 ns.length c2) (.slice x3 ar.length c3)) 27) := HK.out.below bb; replace HB : Hid (Below w.heap.size w w2) := next HB.out bb; clear e0 e1 e2 e3 e4 e5 e6 e7 e8 e9 e10 e11 e12 bb t1 _t)
    | (go_at_call 8; have _t := t2; go_must (refine (filter_no c 0 false 0 false false false false 0 0 [] [] [] [] _ _ _ _ _ (Row.nil _ _) (Row.nil _ _) (Row.nil _ _) (Row.nil _ _) hc hn).mono ?_); rintro e w3 ⟨rfl, bb⟩; have HA : Hid (Blk w3 w2.heap.size (msgC ⟨0, false, 0, false, false, false, false, 0, 0⟩ (.slice none 0 0) (.slice none 0 0) (.slice none 0 0) (.slice none 0 0)) 27) := (Blk.new w2 _ _).below bb; replace HK : Hid (Blk w3 w.heap.size (msgC ⟨id, qr, op, aa, tc, rd, ra, z, rc⟩ (.slice x0 qs.length c0) (.slice x1 an.length c1) (.slice x2 ns.length c2) (.slice x3 ar.length c3)) 27) := (HK.out.alloc _).below bb; replace HB : Hid (Below w.heap.size w w3) := next (lay HB.out _) bb; have HK2 : Hid (Blk (w3.alloc (.cells #[.int .i64 0, .bool false, .int .i64 0, .bool false, .bool false, .bool false, .bool false, .int .i64 0, .int .i64 0, .slice none 0 0, .slice none 0 0, .slice none 0 0, .slice none 0 0] 27)) w.heap.size (msgC ⟨id, qr, op, aa, tc, rd, ra, z, rc⟩ (.slice x0 qs.length c0) (.slice x1 an.length c1) (.slice x2 ns.length c2) (.slice x3 ar.length c3)) 27) := HK.out.alloc _; obtain ⟨e0, e1, e2, e3, e4, e5, e6, e7, e8, e9, e10, e11, e12⟩ := blk13 (h := ⟨id, qr, op, aa, tc, rd, ra, z, rc⟩) (HK2.out); simp only at e0 e1 e2 e3 e4 e5 e6 e7 e8; clear HK2 bb t2 _t)
    | (go_at_call 8; go_must (refine (filter_no c id qr op aa tc rd ra z rc qs [] ns ar _ _ _ _ _ (H0.out.below (lay (lay HB.out _) _)) (Row.nil _ _) (H2.out.below (lay (lay HB.out _) _)) (H3.out.below (lay (lay HB.out _) _)) hc hn).mono ?_); rintro e w4 ⟨rfl, bb⟩; have hbx : Below w3.heap.size w3 w4 := next (lay (lay (Below.refl _ _) _) _) bb; replace HA : Hid (Blk (w4.alloc (.cells #[.int .i64 0, .bool false, .int .i64 0, .bool false, .bool false, .bool false, .bool false, .int .i64 0, .int .i64 0, .slice none 0 0, .slice none 0 0, .slice none 0 0, .slice none 0 0] 27)) w2.heap.size (msgC ⟨0, false, 0, false, false, false, false, 0, 0⟩ (.slice none 0 0) (.slice none 0 0) (.slice none 0 0) (.slice none 0 0)) 27) := (HA.out.below hbx).alloc _; replace HB : Hid (Below w.heap.size w (w4.alloc (.cells #[.int .i64 0, .bool false, .int .i64 0, .bool false, .bool false, .bool false, .bool false, .int .i64 0, .int .i64 0, .slice none 0 0, .slice none 0 0, .slice none 0 0, .slice none 0 0] 27))) := lay (next HB.out hbx) _; clear e0 e1 e2 e3 e4 e5 e6 e7 e8 e9 e10 e11 e12; obtain ⟨a0, a1, a2, a3, a4, a5, a6, a7, a8, a9, a10, a11, a12⟩ := blk13 (h := ⟨0, false, 0, false, false, false, false, 0, 0⟩) (HA.out); simp only at a0 a1 a2 a3 a4 a5 a6 a7 a8; clear bb hbx)
    | (go_at_call 11; refine (num_any _ _).mono ?_; rintro e w' ⟨rfl, hw⟩; obtain rfl := hw.symm))
  go_ret
  exact ⟨rfl, HB.out⟩

theorem walk (m : Ms) (v0 v1 v2 v3 : Value) (c : ByteArray) (hc : c.size ≤ maxLen) (hF : Fits m) (_hz : c.size ≤ 140737488351232) (w : World) (h0 : Row w v0 m.qs.length (qC m.qs)) (h1 : Row w v1 m.an.length (rC m.an)) (h2 : Row w v2 m.ns.length (rC m.ns)) (h3 : Row w v3 m.ar.length (rC m.ar)) :
    Calls Try.prog 6 #[.agg (msgC m.h v0 v1 v2 v3), .string c] w fun e w' => e = .returned (.bool true) ∧ Below w.heap.size w w' := by
  obtain ⟨⟨id, qr, op, aa, tc, rd, ra, z, rc⟩, qs, an, ns, ar⟩ := m
  obtain ⟨x0, c0, rfl⟩ := row_slice h0
  obtain ⟨x1, c1, rfl⟩ := row_slice h1
  obtain ⟨x2, c2, rfl⟩ := row_slice h2
  obtain ⟨x3, c3, rfl⟩ := row_slice h3
  cases hn : isName c.data.toList with
  | true => exact w_yes id qr op aa tc rd ra z rc qs an ns ar x0 x1 x2 x3 c0 c1 c2 c3 c w h0 h1 h2 h3 hF hc hn
  | false => exact w_no id qr op aa tc rd ra z rc qs an ns ar x0 x1 x2 x3 c0 c1 c2 c3 c w h0 h1 h2 h3 hc hn

theorem own : ownKnob Try.prog.godebug = none := by kernel_rfl
theorem laidOut : laidOutB Try.prog = true := by kernel_rfl

set_option maxRecDepth 100000 in
theorem lifted (os : Os) (started : os.Started) (H : Type) (enc : TypeId × Value → H) :
    ReturnsInHanded {} Try.checked os 6 .any (Rows.filterTwiceSpec.pre6 enc Try.prog Try.f6 Rows.filterTwiceRow.domain false) (Rows.filterTwiceSpec.post enc Try.prog Try.f6 false true false false) := by
  refine returnsInHanded_of_change_sized (C := Try.checked) own started (by kernel_rfl) Try.func6
    (ChangeSpec.witness6 (enc := enc) (C := Try.checked) false ⟨#[], #[.agg (msgC hdZ (.slice none 0 0) (.slice none 0 0) (.slice none 0 0) (.slice none 0 0)), .string ByteArray.empty], []⟩ 8 (by kernel_rfl) (by kernel_rfl) (by kernel_rfl) (by kernel_rfl)) ?_
  intro W base args ds gs before hval0 hW _ hsz0 _
  have hval : ∀ (j : Nat) t v, Try.f6.params[j]? = some t → args[j]? = some v → Value.okWide Try.prog W .any base t v := hval0
  have hsz : (DataW.weightsEach Try.prog (Try.f6.params.toList ++ Rows.filterTwiceSpec.plain.varTypes Try.prog) (ds ++ gs)).all (· ≤ reachBytes) = true := hsz0
  have hW' := hW
  obtain ⟨p, q, hA0, hV, rfl, hfz, hnd⟩ := hW
  have hA : DataW.TrodAll enc Try.prog W 0 (fun _ => true) true Try.f6.params.toList args.toList ds p := hA0
  rw [Try.params6] at hA hval hsz
  obtain ⟨v0, vs0, d0, ds0, p0, q0, hargs, rfl, rfl, h0, r0⟩ := trodAll_cons hA
  obtain ⟨v1, vs1, d1, ds1, p1, q1, rfl, rfl, rfl, h1, r1⟩ := trodAll_cons r0
  obtain ⟨rfl, rfl, rfl⟩ := trodAll_nil r1
  obtain rfl : args = #[v0, v1] := by cases args; simp_all
  obtain ⟨rfl, rfl⟩ := trodVars_none hV
  obtain ⟨a0, b00, b01, b02, b03, rfl, w00, w01, w02, w03, z0⟩ := open_mfar (hval 0 27 v0 rfl rfl) h0 (weights_all hsz (j := 0) rfl rfl)
  obtain ⟨a1, rfl, rfl, rfl, w1⟩ := open_string Try.underlying9 (hval 1 9 v1 rfl rfl) h1
  have hlt0 : ∀ x ∈ p0, x.block < W.heap.size := fun x hx => by
    have := hW'.lt x (by simp [hx])
    simpa using this
  have z1 : a1.size ≤ 140737488351232 := by have := sized_string hsz (j := 1) (t := 9) rfl rfl; rw [data_len] at this; unfold reachBytes at this; omega
  clear hA0 hval0 hsz0 hsz
  simp only [List.append_nil] at hW'
  refine (walk a0 b00 b01 b02 b03 a1 w1 z0 z1 W w00 w01 w02 w03).mono fun e W' ⟨he, bel⟩ => ?_
  subst he
  exact ⟨_, rfl, _, _, _, [], _, [], hW', trodAll_mk1 (shut_bool Try.underlying4 _), (trodAll_cons_mk (Below.trod laidOut (by kernel_rfl) (of_decide_eq_true (by kernel_rfl)) h0 bel hlt0) (trodAll_cons_mk (shut_string Try.underlying9 w1) trodAll_mk0)), rfl, bel.frame _, fun h => by cases h⟩

/-- The statement. -/
theorem proved : Rows.FilterTwiceSaid :=
  OpenClaim.holds_of_wide 6 Try.f6 rfl rfl rfl rfl rfl rfl rfl ⟨rfl, rfl, rfl, rfl, rfl⟩ rfl rfl rfl rfl rfl (by kernel_rfl) Try.func6 (by kernel_rfl)
    (of_decide_eq_true (by kernel_rfl)) (by unfold Func.isWrapper; first | (rw [if_pos (by decide +kernel)]; kernel_rfl) | (rw [if_neg (by decide +kernel)]; exact ⟨rfl, rfl⟩))
    (fun os started H enc _ => lifted os started H enc)
#print axioms proved

end Go.Proofs.Ytnecdpieoipjdaa.filterTwice
