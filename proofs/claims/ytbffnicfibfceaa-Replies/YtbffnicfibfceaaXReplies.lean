/- Replies holds: for every text and message, package match takes and refuses what the document does. -/
import Derived.Test.YtbffnicfibfceaaXMaC
import Derived.ProofKit
import Derived.OpenShut
import Derived.ShutString
namespace Go.Proofs.Ytbffnicfibfceaa.replies
open Go.ChangeShapes Go.WideShapes Go.ChangeAt Go.RowKit
open Go.ChangeMaps (open_string shut_string)
open Pl
open Ma

set_option maxRecDepth 20000 in
set_option maxHeartbeats 8000000 in
theorem w_all (id : Int) (qr : Bool) (op : Int) (aa tc rd ra : Bool) (z rc : Int) (qs : List Qn) (an ns ar : List Rc) (v0 v1 v2 v3 : Value) (s : ByteArray) (hs : s.size ≤ maxLen) (w : World) (h0 : QRow w v0 qs) (h1 : RRow w v1 an) (h2 : RRow w v2 ns) (h3 : RRow w v3 ar) (hcase : ∃ (T : ByteArray) (E : Int), putV ⟨⟨id, qr, op, aa, tc, rd, ra, z, rc⟩, qs, an, ns, ar⟩ = .tuple #[.string T, .int .i64 E] ∧ T.size ≤ maxLen) :
    Calls Try.prog 3 #[.string s, .agg #[.int .i64 id, .bool qr, .int .i64 op, .bool aa, .bool tc, .bool rd, .bool ra, .int .i64 z, .int .i64 rc, v0, v1, v2, v3]] w fun e w' => e = .returned (.bool true) ∧ Below w.heap.size w w' := by
  have hb : Below w.heap.size w w := Below.refl _ _
  obtain ⟨y0, k0, rfl⟩ := row_slice h0.1
  obtain ⟨y1, k1, rfl⟩ := row_slice h1.1
  obtain ⟨y2, k2, rfl⟩ := row_slice h2.1
  obtain ⟨y3, k3, rfl⟩ := row_slice h3.1
  have H0 : Hid (QRow w (.slice y0 qs.length k0) qs) := h0
  have H1 : Hid (RRow w (.slice y1 an.length k1) an) := h1
  have H2 : Hid (RRow w (.slice y2 ns.length k2) ns) := h2
  have H3 : Hid (RRow w (.slice y3 ar.length k3) ar) := h3
  obtain ⟨T, E, hp, hT⟩ := hcase
  have HP : Hid (putV ⟨⟨id, qr, op, aa, tc, rd, ra, z, rc⟩, qs, an, ns, ar⟩ = .tuple #[.string T, .int .i64 E]) := hp
  have HS : Hid (s.size ≤ maxLen ∧ T.size ≤ maxLen) := ⟨hs, hT⟩
  clear hp h0 h1 h2 h3 hs hT
  have KB := Blk.new w #[.int .i64 id, .bool qr, .int .i64 op, .bool aa, .bool tc, .bool rd, .bool ra, .int .i64 z, .int .i64 rc, .slice y0 qs.length k0, .slice y1 an.length k1, .slice y2 ns.length k2, .slice y3 ar.length k3] 27
  have hfew := rpM_few s
  obtain ⟨E1, hE⟩ : ∃ E1, rpE s = E1 := ⟨_, rfl⟩
  obtain ⟨x, hx⟩ : ∃ x, rpM s = x := ⟨_, rfl⟩
  rw [hx] at hfew
  obtain ⟨⟨idA, qrA, opA, aaA, tcA, rdA, raA, zA, rcA⟩, qsA, anA, nsA, arA⟩ := x
  have HGA : Hid (rpM s = ⟨⟨idA, qrA, opA, aaA, tcA, rdA, raA, zA, rcA⟩, qsA, anA, nsA, arA⟩ ∧ rpE s = E1) := ⟨hx, hE⟩
  have HFA : Hid (qsA.length ≤ 64 ∧ anA.length ≤ 64 ∧ nsA.length ≤ 64 ∧ arA.length ≤ 64) := hfew
  clear hfew hE hx
  have hfew := rpM_few T
  obtain ⟨E2, hE⟩ : ∃ E1, rpE T = E1 := ⟨_, rfl⟩
  obtain ⟨x, hx⟩ : ∃ x, rpM T = x := ⟨_, rfl⟩
  rw [hx] at hfew
  obtain ⟨⟨idC, qrC, opC, aaC, tcC, rdC, raC, zC, rcC⟩, qsC, anC, nsC, arC⟩ := x
  have HGC : Hid (rpM T = ⟨⟨idC, qrC, opC, aaC, tcC, rdC, raC, zC, rcC⟩, qsC, anC, nsC, arC⟩ ∧ rpE T = E2) := ⟨hx, hE⟩
  have HFC : Hid (qsC.length ≤ 64 ∧ anC.length ≤ 64 ∧ nsC.length ≤ 64 ∧ arC.length ≤ 64) := hfew
  clear hfew hE hx
  have u1 : True := trivial
  have u2 : True := trivial
  have u3 : True := trivial
  go_enter Try.func3, Try.ntmps3
  go_wp2_with (first
    | (go_at_call 9; refine (num_any _ _).mono ?_; rintro e w' ⟨rfl, hw⟩; obtain rfl := hw.symm)
    | (go_at_call 5; have _t := u1; go_must (refine (reply_h s idA qrA opA aaA tcA rdA raA zA rcA qsA anA nsA arA E1 _ HS.out.1 HGA.out).mono ?_); rintro e w1 ⟨ay0, ay1, ay2, ay3, ak0, ak1, ak2, ak3, rfl, oo, bb⟩; replace hb := next (lay hb _) bb; replace KB := KB.below bb; have OA : Hid (MR w1 (.slice ay0 qsA.length ak0) (.slice ay1 anA.length ak1) (.slice ay2 nsA.length ak2) (.slice ay3 arA.length ak3) ⟨⟨idA, qrA, opA, aaA, tcA, rdA, raA, zA, rcA⟩, qsA, anA, nsA, arA⟩) := oo.mr HFA.out; have KA := Blk.new w1 #[.int .i64 idA, .bool qrA, .int .i64 opA, .bool aaA, .bool tcA, .bool rdA, .bool raA, .int .i64 zA, .int .i64 rcA, .slice ay0 qsA.length ak0, .slice ay1 anA.length ak1, .slice ay2 nsA.length ak2, .slice ay3 arA.length ak3] 27; clear oo; clear bb u1 _t)
    | (go_at_call 6; have _t := u2; go_must (refine (rreply_h s idA qrA opA aaA tcA rdA raA zA rcA qsA anA nsA arA E1 _ HS.out.1 HGA.out).mono ?_); rintro e w2 ⟨by0, by1, by2, by3, bk0, bk1, bk2, bk3, rfl, oo, bb⟩; replace hb := next (lay hb _) bb; replace KB := (KB.alloc _).below bb; replace KA := KA.below bb; replace OA : Hid (MR w2 (.slice ay0 qsA.length ak0) (.slice ay1 anA.length ak1) (.slice ay2 nsA.length ak2) (.slice ay3 arA.length ak3) ⟨⟨idA, qrA, opA, aaA, tcA, rdA, raA, zA, rcA⟩, qsA, anA, nsA, arA⟩) := OA.out.below (next (lay (Below.refl _ _) _) bb); have OB : Hid (MR w2 (.slice by0 qsA.length bk0) (.slice by1 anA.length bk1) (.slice by2 nsA.length bk2) (.slice by3 arA.length bk3) ⟨⟨idA, qrA, opA, aaA, tcA, rdA, raA, zA, rcA⟩, qsA, anA, nsA, arA⟩) := oo.mr HFA.out; have KC := Blk.new w2 #[.int .i64 idA, .bool qrA, .int .i64 opA, .bool aaA, .bool tcA, .bool rdA, .bool raA, .int .i64 zA, .int .i64 rcA, .slice by0 qsA.length bk0, .slice by1 anA.length bk1, .slice by2 nsA.length bk2, .slice by3 arA.length bk3] 27; have ltB := KB.lt; have m0 : w2.cell? ⟨w.heap.size, 0, none⟩ = some (.int .i64 id) := KB.cell 0; have m1 : w2.cell? ⟨w.heap.size, 1, none⟩ = some (.bool qr) := KB.cell 1; have m2 : w2.cell? ⟨w.heap.size, 2, none⟩ = some (.int .i64 op) := KB.cell 2; have m3 : w2.cell? ⟨w.heap.size, 3, none⟩ = some (.bool aa) := KB.cell 3; have m4 : w2.cell? ⟨w.heap.size, 4, none⟩ = some (.bool tc) := KB.cell 4; have m5 : w2.cell? ⟨w.heap.size, 5, none⟩ = some (.bool rd) := KB.cell 5; have m6 : w2.cell? ⟨w.heap.size, 6, none⟩ = some (.bool ra) := KB.cell 6; have m7 : w2.cell? ⟨w.heap.size, 7, none⟩ = some (.int .i64 z) := KB.cell 7; have m8 : w2.cell? ⟨w.heap.size, 8, none⟩ = some (.int .i64 rc) := KB.cell 8; have m9 : w2.cell? ⟨w.heap.size, 9, none⟩ = some (.slice y0 qs.length k0) := KB.cell 9; have m10 : w2.cell? ⟨w.heap.size, 10, none⟩ = some (.slice y1 an.length k1) := KB.cell 10; have m11 : w2.cell? ⟨w.heap.size, 11, none⟩ = some (.slice y2 ns.length k2) := KB.cell 11; have m12 : w2.cell? ⟨w.heap.size, 12, none⟩ = some (.slice y3 ar.length k3) := KB.cell 12; clear oo; clear bb u2 _t)
    | (go_at_call 7; go_must (refine (rput_h id qr op aa tc rd ra z rc qs an ns ar T E _ _ _ _ _ HP.out (H0.out.below (lay hb _)) (H1.out.below (lay hb _)) (H2.out.below (lay hb _)) (H3.out.below (lay hb _))).mono ?_); rintro e w3 ⟨rfl, bb⟩; replace hb := next (lay hb _) bb; clear KB ltB m0 m1 m2 m3 m4 m5 m6 m7 m8 m9 m10 m11 m12 HP H0 H1 H2 H3; replace KA := (KA.alloc _).below bb; replace KC := KC.below bb; replace OA : Hid (MR w3 (.slice ay0 qsA.length ak0) (.slice ay1 anA.length ak1) (.slice ay2 nsA.length ak2) (.slice ay3 arA.length ak3) ⟨⟨idA, qrA, opA, aaA, tcA, rdA, raA, zA, rcA⟩, qsA, anA, nsA, arA⟩) := OA.out.below (next (lay (Below.refl _ _) _) bb); replace OB : Hid (MR w3 (.slice by0 qsA.length bk0) (.slice by1 anA.length bk1) (.slice by2 nsA.length bk2) (.slice by3 arA.length bk3) ⟨⟨idA, qrA, opA, aaA, tcA, rdA, raA, zA, rcA⟩, qsA, anA, nsA, arA⟩) := OB.out.below (next (lay (Below.refl _ _) _) bb); clear bb)
    | (go_at_call 5; go_must (refine (reply_h T idC qrC opC aaC tcC rdC raC zC rcC qsC anC nsC arC E2 _ HS.out.2 HGC.out).mono ?_); rintro e w4 ⟨cy0, cy1, cy2, cy3, ck0, ck1, ck2, ck3, rfl, oo, bb⟩; replace hb := next hb bb; replace KA := KA.below bb; replace KC := KC.below bb; replace OA : Hid (MR w4 (.slice ay0 qsA.length ak0) (.slice ay1 anA.length ak1) (.slice ay2 nsA.length ak2) (.slice ay3 arA.length ak3) ⟨⟨idA, qrA, opA, aaA, tcA, rdA, raA, zA, rcA⟩, qsA, anA, nsA, arA⟩) := OA.out.below bb; replace OB : Hid (MR w4 (.slice by0 qsA.length bk0) (.slice by1 anA.length bk1) (.slice by2 nsA.length bk2) (.slice by3 arA.length bk3) ⟨⟨idA, qrA, opA, aaA, tcA, rdA, raA, zA, rcA⟩, qsA, anA, nsA, arA⟩) := OB.out.below bb; have OC : Hid (MR w4 (.slice cy0 qsC.length ck0) (.slice cy1 anC.length ck1) (.slice cy2 nsC.length ck2) (.slice cy3 arC.length ck3) ⟨⟨idC, qrC, opC, aaC, tcC, rdC, raC, zC, rcC⟩, qsC, anC, nsC, arC⟩) := oo.mr HFC.out; have KD := Blk.new w4 #[.int .i64 idC, .bool qrC, .int .i64 opC, .bool aaC, .bool tcC, .bool rdC, .bool raC, .int .i64 zC, .int .i64 rcC, .slice cy0 qsC.length ck0, .slice cy1 anC.length ck1, .slice cy2 nsC.length ck2, .slice cy3 arC.length ck3] 27; clear oo; clear bb)
    | (go_at_call 6; go_must (refine (rreply_h T idC qrC opC aaC tcC rdC raC zC rcC qsC anC nsC arC E2 _ HS.out.2 HGC.out).mono ?_); rintro e w5 ⟨dy0, dy1, dy2, dy3, dk0, dk1, dk2, dk3, rfl, oo, bb⟩; replace hb := next (lay hb _) bb; replace KA := (KA.alloc _).below bb; replace KC := (KC.alloc _).below bb; replace KD := KD.below bb; replace OA : Hid (MR w5 (.slice ay0 qsA.length ak0) (.slice ay1 anA.length ak1) (.slice ay2 nsA.length ak2) (.slice ay3 arA.length ak3) ⟨⟨idA, qrA, opA, aaA, tcA, rdA, raA, zA, rcA⟩, qsA, anA, nsA, arA⟩) := OA.out.below (next (lay (Below.refl _ _) _) bb); replace OB : Hid (MR w5 (.slice by0 qsA.length bk0) (.slice by1 anA.length bk1) (.slice by2 nsA.length bk2) (.slice by3 arA.length bk3) ⟨⟨idA, qrA, opA, aaA, tcA, rdA, raA, zA, rcA⟩, qsA, anA, nsA, arA⟩) := OB.out.below (next (lay (Below.refl _ _) _) bb); replace OC : Hid (MR w5 (.slice cy0 qsC.length ck0) (.slice cy1 anC.length ck1) (.slice cy2 nsC.length ck2) (.slice cy3 arC.length ck3) ⟨⟨idC, qrC, opC, aaC, tcC, rdC, raC, zC, rcC⟩, qsC, anC, nsC, arC⟩) := OC.out.below (next (lay (Below.refl _ _) _) bb); have OD : Hid (MR w5 (.slice dy0 qsC.length dk0) (.slice dy1 anC.length dk1) (.slice dy2 nsC.length dk2) (.slice dy3 arC.length dk3) ⟨⟨idC, qrC, opC, aaC, tcC, rdC, raC, zC, rcC⟩, qsC, anC, nsC, arC⟩) := oo.mr HFC.out; have KE := Blk.new w5 #[.int .i64 idC, .bool qrC, .int .i64 opC, .bool aaC, .bool tcC, .bool rdC, .bool raC, .int .i64 zC, .int .i64 rcC, .slice dy0 qsC.length dk0, .slice dy1 anC.length dk1, .slice dy2 nsC.length dk2, .slice dy3 arC.length dk3] 27; have ltA := KA.lt; have ltC := KC.lt; have ltD := KD.lt; have m0 : w5.cell? ⟨w1.heap.size, 0, none⟩ = some (.int .i64 idA) := KA.cell 0; have m1 : w5.cell? ⟨w1.heap.size, 1, none⟩ = some (.bool qrA) := KA.cell 1; have m2 : w5.cell? ⟨w1.heap.size, 2, none⟩ = some (.int .i64 opA) := KA.cell 2; have m3 : w5.cell? ⟨w1.heap.size, 3, none⟩ = some (.bool aaA) := KA.cell 3; have m4 : w5.cell? ⟨w1.heap.size, 4, none⟩ = some (.bool tcA) := KA.cell 4; have m5 : w5.cell? ⟨w1.heap.size, 5, none⟩ = some (.bool rdA) := KA.cell 5; have m6 : w5.cell? ⟨w1.heap.size, 6, none⟩ = some (.bool raA) := KA.cell 6; have m7 : w5.cell? ⟨w1.heap.size, 7, none⟩ = some (.int .i64 zA) := KA.cell 7; have m8 : w5.cell? ⟨w1.heap.size, 8, none⟩ = some (.int .i64 rcA) := KA.cell 8; have m9 : w5.cell? ⟨w1.heap.size, 9, none⟩ = some (.slice ay0 qsA.length ak0) := KA.cell 9; have m10 : w5.cell? ⟨w1.heap.size, 10, none⟩ = some (.slice ay1 anA.length ak1) := KA.cell 10; have m11 : w5.cell? ⟨w1.heap.size, 11, none⟩ = some (.slice ay2 nsA.length ak2) := KA.cell 11; have m12 : w5.cell? ⟨w1.heap.size, 12, none⟩ = some (.slice ay3 arA.length ak3) := KA.cell 12; have n0 : w5.cell? ⟨w2.heap.size, 0, none⟩ = some (.int .i64 idA) := KC.cell 0; have n1 : w5.cell? ⟨w2.heap.size, 1, none⟩ = some (.bool qrA) := KC.cell 1; have n2 : w5.cell? ⟨w2.heap.size, 2, none⟩ = some (.int .i64 opA) := KC.cell 2; have n3 : w5.cell? ⟨w2.heap.size, 3, none⟩ = some (.bool aaA) := KC.cell 3; have n4 : w5.cell? ⟨w2.heap.size, 4, none⟩ = some (.bool tcA) := KC.cell 4; have n5 : w5.cell? ⟨w2.heap.size, 5, none⟩ = some (.bool rdA) := KC.cell 5; have n6 : w5.cell? ⟨w2.heap.size, 6, none⟩ = some (.bool raA) := KC.cell 6; have n7 : w5.cell? ⟨w2.heap.size, 7, none⟩ = some (.int .i64 zA) := KC.cell 7; have n8 : w5.cell? ⟨w2.heap.size, 8, none⟩ = some (.int .i64 rcA) := KC.cell 8; have n9 : w5.cell? ⟨w2.heap.size, 9, none⟩ = some (.slice by0 qsA.length bk0) := KC.cell 9; have n10 : w5.cell? ⟨w2.heap.size, 10, none⟩ = some (.slice by1 anA.length bk1) := KC.cell 10; have n11 : w5.cell? ⟨w2.heap.size, 11, none⟩ = some (.slice by2 nsA.length bk2) := KC.cell 11; have n12 : w5.cell? ⟨w2.heap.size, 12, none⟩ = some (.slice by3 arA.length bk3) := KC.cell 12; clear oo; clear bb)
    | (go_at_call 8; have _t := u3; go_must (refine (same_h idA qrA opA aaA tcA rdA raA zA rcA qsA anA nsA arA _ _ _ _ _ _ _ _ _ (OA.out.below (lay (Below.refl _ _) _)) (OB.out.below (lay (Below.refl _ _) _))).mono ?_); rintro e w6 ⟨rfl, bb⟩; replace hb := next (lay hb _) bb; clear m0 m1 m2 m3 m4 m5 m6 m7 m8 m9 m10 m11 m12 n0 n1 n2 n3 n4 n5 n6 n7 n8 n9 n10 n11 n12 KA KC ltA ltC OA OB; replace KD := (KD.alloc _).below bb; replace KE := KE.below bb; replace OC : Hid (MR w6 (.slice cy0 qsC.length ck0) (.slice cy1 anC.length ck1) (.slice cy2 nsC.length ck2) (.slice cy3 arC.length ck3) ⟨⟨idC, qrC, opC, aaC, tcC, rdC, raC, zC, rcC⟩, qsC, anC, nsC, arC⟩) := OC.out.below (next (lay (Below.refl _ _) _) bb); replace OD : Hid (MR w6 (.slice dy0 qsC.length dk0) (.slice dy1 anC.length dk1) (.slice dy2 nsC.length dk2) (.slice dy3 arC.length dk3) ⟨⟨idC, qrC, opC, aaC, tcC, rdC, raC, zC, rcC⟩, qsC, anC, nsC, arC⟩) := OD.out.below (next (lay (Below.refl _ _) _) bb); have m0 : w6.cell? ⟨w4.heap.size, 0, none⟩ = some (.int .i64 idC) := KD.cell 0; have m1 : w6.cell? ⟨w4.heap.size, 1, none⟩ = some (.bool qrC) := KD.cell 1; have m2 : w6.cell? ⟨w4.heap.size, 2, none⟩ = some (.int .i64 opC) := KD.cell 2; have m3 : w6.cell? ⟨w4.heap.size, 3, none⟩ = some (.bool aaC) := KD.cell 3; have m4 : w6.cell? ⟨w4.heap.size, 4, none⟩ = some (.bool tcC) := KD.cell 4; have m5 : w6.cell? ⟨w4.heap.size, 5, none⟩ = some (.bool rdC) := KD.cell 5; have m6 : w6.cell? ⟨w4.heap.size, 6, none⟩ = some (.bool raC) := KD.cell 6; have m7 : w6.cell? ⟨w4.heap.size, 7, none⟩ = some (.int .i64 zC) := KD.cell 7; have m8 : w6.cell? ⟨w4.heap.size, 8, none⟩ = some (.int .i64 rcC) := KD.cell 8; have m9 : w6.cell? ⟨w4.heap.size, 9, none⟩ = some (.slice cy0 qsC.length ck0) := KD.cell 9; have m10 : w6.cell? ⟨w4.heap.size, 10, none⟩ = some (.slice cy1 anC.length ck1) := KD.cell 10; have m11 : w6.cell? ⟨w4.heap.size, 11, none⟩ = some (.slice cy2 nsC.length ck2) := KD.cell 11; have m12 : w6.cell? ⟨w4.heap.size, 12, none⟩ = some (.slice cy3 arC.length ck3) := KD.cell 12; have n0 : w6.cell? ⟨w5.heap.size, 0, none⟩ = some (.int .i64 idC) := KE.cell 0; have n1 : w6.cell? ⟨w5.heap.size, 1, none⟩ = some (.bool qrC) := KE.cell 1; have n2 : w6.cell? ⟨w5.heap.size, 2, none⟩ = some (.int .i64 opC) := KE.cell 2; have n3 : w6.cell? ⟨w5.heap.size, 3, none⟩ = some (.bool aaC) := KE.cell 3; have n4 : w6.cell? ⟨w5.heap.size, 4, none⟩ = some (.bool tcC) := KE.cell 4; have n5 : w6.cell? ⟨w5.heap.size, 5, none⟩ = some (.bool rdC) := KE.cell 5; have n6 : w6.cell? ⟨w5.heap.size, 6, none⟩ = some (.bool raC) := KE.cell 6; have n7 : w6.cell? ⟨w5.heap.size, 7, none⟩ = some (.int .i64 zC) := KE.cell 7; have n8 : w6.cell? ⟨w5.heap.size, 8, none⟩ = some (.int .i64 rcC) := KE.cell 8; have n9 : w6.cell? ⟨w5.heap.size, 9, none⟩ = some (.slice dy0 qsC.length dk0) := KE.cell 9; have n10 : w6.cell? ⟨w5.heap.size, 10, none⟩ = some (.slice dy1 anC.length dk1) := KE.cell 10; have n11 : w6.cell? ⟨w5.heap.size, 11, none⟩ = some (.slice dy2 nsC.length dk2) := KE.cell 11; have n12 : w6.cell? ⟨w5.heap.size, 12, none⟩ = some (.slice dy3 arC.length dk3) := KE.cell 12; clear bb u3 _t)
    | (go_at_call 8; go_must (refine (same_h idC qrC opC aaC tcC rdC raC zC rcC qsC anC nsC arC _ _ _ _ _ _ _ _ _ OC.out OD.out).mono ?_); rintro e w7 ⟨rfl, bb⟩; replace hb := next hb bb; clear m0 m1 m2 m3 m4 m5 m6 m7 m8 m9 m10 m11 m12 n0 n1 n2 n3 n4 n5 n6 n7 n8 n9 n10 n11 n12 KD KE ltD OC OD; clear bb)
    | (go_at_call 10; go_must (refine (Ma.awake_any _).mono ?_); rintro e w8 ⟨rfl, bb⟩; replace hb := next hb bb; clear bb))
  go_ret
  exact ⟨ret_bool (by simp), hb⟩

theorem walk (s : ByteArray) (m : Ms) (v0 v1 v2 v3 : Value) (hs : s.size ≤ maxLen) (w : World) (h0 : QRow w v0 m.qs) (h1 : RRow w v1 m.an) (h2 : RRow w v2 m.ns) (h3 : RRow w v3 m.ar) :
    Calls Try.prog 3 #[.string s, .agg (msgC m.h v0 v1 v2 v3)] w fun e w' => e = .returned (.bool true) ∧ Below w.heap.size w w' := by
  have hp := put_ways m
  obtain ⟨⟨id, qr, op, aa, tc, rd, ra, z, rc⟩, qs, an, ns, ar⟩ := m
  refine w_all id qr op aa tc rd ra z rc qs an ns ar v0 v1 v2 v3 s hs w h0 h1 h2 h3 ?_
  rcases hp with ⟨T, hT, _, h, _⟩ | ⟨E, hE, _, _⟩
  · exact ⟨T, 0, hT, by unfold maxLen; omega⟩
  · exact ⟨⟨#[]⟩, E, hE, by unfold maxLen; decide⟩

theorem own : ownKnob Try.prog.godebug = none := by kernel_rfl
theorem laidOut : laidOutB Try.prog = true := by kernel_rfl

set_option maxRecDepth 100000 in
theorem lifted (os : Os) (started : os.Started) (H : Type) (enc : TypeId × Value → H) :
    ReturnsInHanded {} Try.checked os 3 .any (Rows.repliesSpec.pre6 enc Try.prog Try.f3 Rows.repliesRow.domain false) (Rows.repliesSpec.post enc Try.prog Try.f3 false true false false) := by
  refine returnsInHanded_of_change (C := Try.checked) own started (by kernel_rfl) Try.func3
    (ChangeSpec.witness6 (enc := enc) (C := Try.checked) false ⟨#[], #[.string ByteArray.empty, .agg (msgC hdZ (.slice none 0 0) (.slice none 0 0) (.slice none 0 0) (.slice none 0 0))], []⟩ 8 (by kernel_rfl) (by kernel_rfl) (by kernel_rfl) (by kernel_rfl)) ?_
  intro W base args ds gs before hval0 hW _ _
  have hval : ∀ (j : Nat) t v, Try.f3.params[j]? = some t → args[j]? = some v → Value.okWide Try.prog W .any base t v := hval0
  have hW' := hW
  obtain ⟨p, q, hA0, hV, rfl, hfz, hnd⟩ := hW
  have hA : DataW.TrodAll enc Try.prog W 0 (fun _ => true) true Try.f3.params.toList args.toList ds p := hA0
  rw [Try.params3] at hA hval
  obtain ⟨v0, vs0, d0, ds0, p0, q0, hargs, rfl, rfl, h0, r0⟩ := trodAll_cons hA
  obtain ⟨v1, vs1, d1, ds1, p1, q1, rfl, rfl, rfl, h1, r1⟩ := trodAll_cons r0
  obtain ⟨rfl, rfl, rfl⟩ := trodAll_nil r1
  obtain rfl : args = #[v0, v1] := by cases args; simp_all
  obtain ⟨rfl, rfl⟩ := trodVars_none hV
  obtain ⟨a0, rfl, rfl, rfl, w0⟩ := open_string Try.underlying9 (hval 0 9 v0 rfl rfl) h0
  obtain ⟨a1, b10, b11, b12, b13, rfl, w10, w11, w12, w13⟩ := open_msg (hval 1 27 v1 rfl rfl) h1
  have hlt1 : ∀ x ∈ p1, x.block < W.heap.size := fun x hx => by
    have := hW'.lt x (by simp [hx])
    simpa using this
  clear hA0 hval0
  simp only [List.append_nil] at hW'
  refine (walk a0 a1 b10 b11 b12 b13 w0 W w10 w11 w12 w13).mono fun e W' ⟨he, bel⟩ => ?_
  subst he
  exact ⟨_, rfl, _, _, _, [], _, [], hW', trodAll_mk1 (shut_bool Try.underlying4 _), (trodAll_cons_mk (shut_string Try.underlying9 w0) (trodAll_cons_mk (Below.trod laidOut (by kernel_rfl) (of_decide_eq_true (by kernel_rfl)) h1 bel hlt1) trodAll_mk0)), rfl, bel.frame _, fun h => by cases h⟩

/-- The statement. -/
theorem proved : Rows.RepliesSaid :=
  OpenClaim.holds_of_wide 3 Try.f3 rfl rfl rfl rfl rfl rfl rfl ⟨rfl, rfl, rfl, rfl, rfl⟩ rfl rfl rfl rfl rfl (by kernel_rfl) Try.func3 (by kernel_rfl)
    (of_decide_eq_true (by kernel_rfl)) (by unfold Func.isWrapper; first | (rw [if_pos (by decide +kernel)]; kernel_rfl) | (rw [if_neg (by decide +kernel)]; exact ⟨rfl, rfl⟩))
    (fun os started H enc _ => lifted os started H enc)
#print axioms proved

end Go.Proofs.Ytbffnicfibfceaa.replies
