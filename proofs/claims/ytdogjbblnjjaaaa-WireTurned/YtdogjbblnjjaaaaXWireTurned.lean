/- WireTurned holds: for every message and two numbers, of what the document writes of it, with one byte turned, package wire reads what the document reads. -/
import Derived.Test.YtdogjbblnjjaaaaXWjH
import Derived.Laws.Closers25b
import Derived.ProofKit
import Derived.OpenShut
import Derived.ShutString
namespace Go.Proofs.Ytdogjbblnjjaaaa.wireTurned
open Go.ChangeShapes Go.WideShapes Go.ChangeAt Go.RowKit
open Go.ChangeMaps (open_string shut_string)
open Pl

theorem byte_of (x : Int) (h0 : 0 ≤ x) (h1 : x ≤ 255) : ∃ b : UInt8, x = (b.toNat : Int) := by
  refine ⟨UInt8.ofNat x.toNat, ?_⟩
  rw [UInt8.toNat_ofNat_of_lt' (by show x.toNat < 256; omega)]
  omega
theorem xor_byte (a c : Int) : ∃ b : UInt8, bits .xor .u8 a c = (b.toNat : Int) := by
  obtain ⟨h0, h1⟩ := bits_within .xor .u8 a c
  exact byte_of _ h0 h1

set_option maxRecDepth 20000 in
set_option maxHeartbeats 4000000 in
theorem w_no (id : Int) (qr : Bool) (op : Int) (aa tc rd ra : Bool) (z rc : Int) (qs : List Qn) (an ns ar : List Rc) (v0 v1 v2 v3 : Value) (y1 y2 : Int) (w : World) (h0 : QRow w v0 qs) (h1 : RRow w v1 an) (h2 : RRow w v2 ns) (h3 : RRow w v3 ar) (hcase : ∃ E : Int, putV ⟨⟨id, qr, op, aa, tc, rd, ra, z, rc⟩, qs, an, ns, ar⟩ = .tuple #[.string ⟨#[]⟩, .int .i64 E] ∧ (E = 700 ∨ E = 701)) :
    Calls Try.prog 5 #[.agg #[.int .i64 id, .bool qr, .int .i64 op, .bool aa, .bool tc, .bool rd, .bool ra, .int .i64 z, .int .i64 rc, v0, v1, v2, v3], .int .i64 y1, .int .i64 y2] w fun e w' => e = .returned (.bool true) ∧ Below w.heap.size w w' := by
  have hb : Below w.heap.size w w := Below.refl _ _
  obtain ⟨x0, c0, rfl⟩ := row_slice h0.1
  obtain ⟨x1, c1, rfl⟩ := row_slice h1.1
  obtain ⟨x2, c2, rfl⟩ := row_slice h2.1
  obtain ⟨x3, c3, rfl⟩ := row_slice h3.1
  have H0 : Hid (QRow w (.slice x0 qs.length c0) qs) := h0
  have H1 : Hid (RRow w (.slice x1 an.length c1) an) := h1
  have H2 : Hid (RRow w (.slice x2 ns.length c2) ns) := h2
  have H3 : Hid (RRow w (.slice x3 ar.length c3) ar) := h3
  obtain ⟨E, hp, hE⟩ := hcase
  obtain ⟨T, hT⟩ : ∃ T : ByteArray, T = ⟨#[]⟩ := ⟨_, rfl⟩
  have HP : Hid (putV ⟨⟨id, qr, op, aa, tc, rd, ra, z, rc⟩, qs, an, ns, ar⟩ = .tuple #[.string T, .int .i64 E]) := by unfold Hid; rw [hT]; exact hp
  have hE0 : (E == 0) = false := by simp; omega
  clear hp hE hT
  have KB := Blk.new w #[.int .i64 id, .bool qr, .int .i64 op, .bool aa, .bool tc, .bool rd, .bool ra, .int .i64 z, .int .i64 rc, .slice x0 qs.length c0, .slice x1 an.length c1, .slice x2 ns.length c2, .slice x3 ar.length c3] 27
  clear h0 h1 h2 h3
  go_enter Try.func5, Try.ntmps5
  go_wp2_with (first
    | (go_at_call 17; go_must (refine (awake_any _).mono ?_); rintro e w0 ⟨rfl, bb⟩; replace hb := next (lay hb _) bb; replace KB := KB.below bb; have m0 : w0.cell? ⟨w.heap.size, 0, none⟩ = some (.int .i64 id) := KB.cell 0; have m1 : w0.cell? ⟨w.heap.size, 1, none⟩ = some (.bool qr) := KB.cell 1; have m2 : w0.cell? ⟨w.heap.size, 2, none⟩ = some (.int .i64 op) := KB.cell 2; have m3 : w0.cell? ⟨w.heap.size, 3, none⟩ = some (.bool aa) := KB.cell 3; have m4 : w0.cell? ⟨w.heap.size, 4, none⟩ = some (.bool tc) := KB.cell 4; have m5 : w0.cell? ⟨w.heap.size, 5, none⟩ = some (.bool rd) := KB.cell 5; have m6 : w0.cell? ⟨w.heap.size, 6, none⟩ = some (.bool ra) := KB.cell 6; have m7 : w0.cell? ⟨w.heap.size, 7, none⟩ = some (.int .i64 z) := KB.cell 7; have m8 : w0.cell? ⟨w.heap.size, 8, none⟩ = some (.int .i64 rc) := KB.cell 8; have m9 : w0.cell? ⟨w.heap.size, 9, none⟩ = some (.slice x0 qs.length c0) := KB.cell 9; have m10 : w0.cell? ⟨w.heap.size, 10, none⟩ = some (.slice x1 an.length c1) := KB.cell 10; have m11 : w0.cell? ⟨w.heap.size, 11, none⟩ = some (.slice x2 ns.length c2) := KB.cell 11; have m12 : w0.cell? ⟨w.heap.size, 12, none⟩ = some (.slice x3 ar.length c3) := KB.cell 12; clear bb)
    | (go_at_call 11; go_must (refine (rput_h id qr op aa tc rd ra z rc qs an ns ar T _ _ _ _ _ _ HP.out (H0.out.below hb) (H1.out.below hb) (H2.out.below hb) (H3.out.below hb)).mono ?_); rintro e w1 ⟨rfl, bb⟩; replace hb := next hb bb; clear m0 m1 m2 m3 m4 m5 m6 m7 m8 m9 m10 m11 m12; clear bb))
  go_ret
  exact ⟨rfl, hb⟩

set_option maxRecDepth 20000 in
set_option maxHeartbeats 4000000 in
theorem w_yes (id : Int) (qr : Bool) (op : Int) (aa tc rd ra : Bool) (z rc : Int) (qs : List Qn) (an ns ar : List Rc) (v0 v1 v2 v3 : Value) (y1 y2 : Int) (w : World) (h0 : QRow w v0 qs) (h1 : RRow w v1 an) (h2 : RRow w v2 ns) (h3 : RRow w v3 ar) (hcase : ∃ T : ByteArray, putV ⟨⟨id, qr, op, aa, tc, rd, ra, z, rc⟩, qs, an, ns, ar⟩ = .tuple #[.string T, .int .i64 0] ∧ T.size ≤ 4096 ∧ 12 ≤ T.size) :
    Calls Try.prog 5 #[.agg #[.int .i64 id, .bool qr, .int .i64 op, .bool aa, .bool tc, .bool rd, .bool ra, .int .i64 z, .int .i64 rc, v0, v1, v2, v3], .int .i64 y1, .int .i64 y2] w fun e w' => e = .returned (.bool true) ∧ Below w.heap.size w w' := by
  have hb : Below w.heap.size w w := Below.refl _ _
  obtain ⟨x0, c0, rfl⟩ := row_slice h0.1
  obtain ⟨x1, c1, rfl⟩ := row_slice h1.1
  obtain ⟨x2, c2, rfl⟩ := row_slice h2.1
  obtain ⟨x3, c3, rfl⟩ := row_slice h3.1
  have H0 : Hid (QRow w (.slice x0 qs.length c0) qs) := h0
  have H1 : Hid (RRow w (.slice x1 an.length c1) an) := h1
  have H2 : Hid (RRow w (.slice x2 ns.length c2) ns) := h2
  have H3 : Hid (RRow w (.slice x3 ar.length c3) ar) := h3
  obtain ⟨T, hp, hT1, hT2⟩ := hcase
  obtain ⟨E, hE⟩ : ∃ E : Int, E = 0 := ⟨_, rfl⟩
  have HP : Hid (putV ⟨⟨id, qr, op, aa, tc, rd, ra, z, rc⟩, qs, an, ns, ar⟩ = .tuple #[.string T, .int .i64 E]) := by unfold Hid; rw [hE]; exact hp
  subst hE
  obtain ⟨k, hk, hkv⟩ : ∃ k : Nat, k < T.size ∧ (IntKind.u64.wrap y1).tmod (T.size : Int) = (k : Int) := by
    have h0 : 0 ≤ IntKind.u64.wrap y1 := by simp [IntKind.wrap, IntKind.bits, IntKind.signed]; omega
    rw [Int.tmod_eq_emod_of_nonneg h0]
    have h1 := Int.emod_nonneg (IntKind.u64.wrap y1) (b := (T.size : Int)) (by omega)
    have h2 := Int.emod_lt_of_pos (IntKind.u64.wrap y1) (b := (T.size : Int)) (by omega)
    exact ⟨((IntKind.u64.wrap y1) % (T.size : Int)).toNat, by omega, by omega⟩
  have hkw : wrap64 (k : Int) = (k : Int) := by unfold wrap64; omega
  obtain ⟨r, hr, hrv⟩ : ∃ r : Nat, r < 255 ∧ (IntKind.u64.wrap y2).tmod 255 = (r : Int) := by
    have h0 : 0 ≤ IntKind.u64.wrap y2 := by simp [IntKind.wrap, IntKind.bits, IntKind.signed]; omega
    rw [Int.tmod_eq_emod_of_nonneg h0]
    exact ⟨((IntKind.u64.wrap y2) % 255).toNat, by omega, by omega⟩
  have hrw : wrap64 (r : Int) = (r : Int) := by unfold wrap64; omega
  clear hp
  have KB := Blk.new w #[.int .i64 id, .bool qr, .int .i64 op, .bool aa, .bool tc, .bool rd, .bool ra, .int .i64 z, .int .i64 rc, .slice x0 qs.length c0, .slice x1 an.length c1, .slice x2 ns.length c2, .slice x3 ar.length c3] 27
  clear h0 h1 h2 h3
  have hkl : k < T.data.toList.length := by rw [data_len]; exact hk
  obtain ⟨c, hc⟩ : ∃ c : UInt8, T.data.toList[k] = c := ⟨_, rfl⟩
  obtain ⟨b, hxb⟩ := xor_byte (c.toNat : Int) (1 + (r : Int))
  have HC : Hid (T.data.toList[k] = c) := hc
  obtain ⟨L, hL⟩ : ∃ L : List UInt8, L = T.data.toList.set k b := ⟨_, rfl⟩
  have HL : Hid (L = T.data.toList.set k b) := hL
  have hLl : L.length = T.size := by rw [hL, List.length_set, data_len]
  obtain ⟨S, hS⟩ : ∃ S : ByteArray, S = ⟨L.toArray⟩ := ⟨_, rfl⟩
  have HS : Hid (S = ⟨L.toArray⟩) := hS
  have hSm : S.size ≤ maxLen := small100 (by rw [hS, toArr_size]; omega)
  have hfew := gM_few S
  obtain ⟨E2, hE2⟩ : ∃ E2, gE S = E2 := ⟨_, rfl⟩
  obtain ⟨x, hx⟩ : ∃ x, gM S = x := ⟨_, rfl⟩
  rw [hx] at hfew
  obtain ⟨⟨id2, qr2, op2, aa2, tc2, rd2, ra2, z2, rc2⟩, qs2, an2, ns2, ar2⟩ := x
  have HG : Hid (gM S = ⟨⟨id2, qr2, op2, aa2, tc2, rd2, ra2, z2, rc2⟩, qs2, an2, ns2, ar2⟩ ∧ gE S = E2) := ⟨hx, hE2⟩
  have HF : Hid _ := hfew
  have HLL : Hid (L.length = T.size) := hLl
  clear hc hL hLl hS hfew hE2 hx
  have t1 : True := trivial
  go_enter Try.func5, Try.ntmps5
  go_wp2_with (first
    | (go_at_call 14; refine (num_any _ _).mono ?_; rintro e w' ⟨rfl, hw⟩; obtain rfl := hw.symm)
    | (go_at_call 17; go_must (refine (awake_any _).mono ?_); rintro e w0 ⟨rfl, bb⟩; replace hb := next (lay hb _) bb; replace KB := KB.below bb; have m0 : w0.cell? ⟨w.heap.size, 0, none⟩ = some (.int .i64 id) := KB.cell 0; have m1 : w0.cell? ⟨w.heap.size, 1, none⟩ = some (.bool qr) := KB.cell 1; have m2 : w0.cell? ⟨w.heap.size, 2, none⟩ = some (.int .i64 op) := KB.cell 2; have m3 : w0.cell? ⟨w.heap.size, 3, none⟩ = some (.bool aa) := KB.cell 3; have m4 : w0.cell? ⟨w.heap.size, 4, none⟩ = some (.bool tc) := KB.cell 4; have m5 : w0.cell? ⟨w.heap.size, 5, none⟩ = some (.bool rd) := KB.cell 5; have m6 : w0.cell? ⟨w.heap.size, 6, none⟩ = some (.bool ra) := KB.cell 6; have m7 : w0.cell? ⟨w.heap.size, 7, none⟩ = some (.int .i64 z) := KB.cell 7; have m8 : w0.cell? ⟨w.heap.size, 8, none⟩ = some (.int .i64 rc) := KB.cell 8; have m9 : w0.cell? ⟨w.heap.size, 9, none⟩ = some (.slice x0 qs.length c0) := KB.cell 9; have m10 : w0.cell? ⟨w.heap.size, 10, none⟩ = some (.slice x1 an.length c1) := KB.cell 10; have m11 : w0.cell? ⟨w.heap.size, 11, none⟩ = some (.slice x2 ns.length c2) := KB.cell 11; have m12 : w0.cell? ⟨w.heap.size, 12, none⟩ = some (.slice x3 ar.length c3) := KB.cell 12; clear bb)
    | (go_at_call 11; go_must (refine (rput_h id qr op aa tc rd ra z rc qs an ns ar T _ _ _ _ _ _ HP.out (H0.out.below hb) (H1.out.below hb) (H2.out.below hb) (H3.out.below hb)).mono ?_); rintro e w1 ⟨rfl, bb⟩; replace hb := next hb bb; clear m0 m1 m2 m3 m4 m5 m6 m7 m8 m9 m10 m11 m12; clear bb)
    | (refine wpList_bytesB _ rfl (.tmp 24) rfl T rfl ?_; intro cap w2 hrow hg hsz; have hb2 : Below w.heap.size w w2 := hb.grown hg hb.size (fun j e => (by simp at e)); have hlt : w.heap.size ≤ w1.heap.size := hb.size; have r1 : w2.cell? ⟨w1.heap.size, k, none⟩ = some (.int .u8 (c.toNat : Int)) := (by rw [hrow.cell k hkl, HC.out]); have r2 := hrow.frozen k hkl; have hst := (hrow.stored k hkl b).1; have HST : Hid (BRow (w2.setCell ⟨w1.heap.size, k, none⟩ (.int .u8 (b.toNat : Int))) w1.heap.size L) := (by rw [HL.out]; exact hst); have HB3 : Hid (Below w.heap.size w (w2.setCell ⟨w1.heap.size, k, none⟩ (.int .u8 (b.toNat : Int)))) := hb2.setCell hlt _; clear hrow hg hsz hst hb2)
    | (refine wpList_stringC _ rfl (.tmp 48) rfl w1.heap.size T.size cap L rfl HLL.out HST.out ?_; rw [← HS.out])
    | (go_at_call 12; go_must (refine (get_h S id2 qr2 op2 aa2 tc2 rd2 ra2 z2 rc2 qs2 an2 ns2 ar2 E2 _ hSm HG.out).mono ?_); rintro e w4 ⟨y0, y1, y2, y3, n0, n1, n2, n3, k0, k1, k2, k3, rfl, oo, bb⟩; have HB4 : Hid (Below w.heap.size w w4) := next HB3.out bb; have HST4 : Hid (BRow w4 w1.heap.size L) := HST.out.below bb; have O4 : Hid (MR w4 (.slice y0 n0 k0) (.slice y1 n1 k1) (.slice y2 n2 k2) (.slice y3 n3 k3) ⟨⟨id2, qr2, op2, aa2, tc2, rd2, ra2, z2, rc2⟩, qs2, an2, ns2, ar2⟩) := oo.mr HF.out; have KX := Blk.new w4 #[.int .i64 id2, .bool qr2, .int .i64 op2, .bool aa2, .bool tc2, .bool rd2, .bool ra2, .int .i64 z2, .int .i64 rc2, .slice y0 n0 k0, .slice y1 n1 k1, .slice y2 n2 k2, .slice y3 n3 k3] 27; clear oo bb HB3 HST r1 r2)
    | (refine wpList_stringC _ rfl (.tmp 54) rfl w1.heap.size T.size cap L rfl HLL.out (HST4.out.below (lay (Below.refl _ _) _)) ?_; rw [← HS.out])
    | (go_at_call 13; go_must (refine (rget_h S id2 qr2 op2 aa2 tc2 rd2 ra2 z2 rc2 qs2 an2 ns2 ar2 E2 _ hSm HG.out).mono ?_); rintro e w5 ⟨f0, f1, f2, f3, g0, g1, g2, g3, l0, l1, l2, l3, rfl, oo, bb⟩; have HB5 : Hid (Below w.heap.size w w5) := next (lay HB4.out _) bb; have O5 : Hid (MR w5 (.slice f0 g0 l0) (.slice f1 g1 l1) (.slice f2 g2 l2) (.slice f3 g3 l3) ⟨⟨id2, qr2, op2, aa2, tc2, rd2, ra2, z2, rc2⟩, qs2, an2, ns2, ar2⟩) := oo.mr HF.out; have O45 : Hid (MR w5 (.slice y0 n0 k0) (.slice y1 n1 k1) (.slice y2 n2 k2) (.slice y3 n3 k3) ⟨⟨id2, qr2, op2, aa2, tc2, rd2, ra2, z2, rc2⟩, qs2, an2, ns2, ar2⟩) := (O4.out.below (lay (Below.refl _ _) _)).below bb; replace KX := KX.below bb; have ltX := KX.lt; have xc0 : w5.cell? ⟨w4.heap.size, 0, none⟩ = some (.int .i64 id2) := KX.cell 0; have xc1 : w5.cell? ⟨w4.heap.size, 1, none⟩ = some (.bool qr2) := KX.cell 1; have xc2 : w5.cell? ⟨w4.heap.size, 2, none⟩ = some (.int .i64 op2) := KX.cell 2; have xc3 : w5.cell? ⟨w4.heap.size, 3, none⟩ = some (.bool aa2) := KX.cell 3; have xc4 : w5.cell? ⟨w4.heap.size, 4, none⟩ = some (.bool tc2) := KX.cell 4; have xc5 : w5.cell? ⟨w4.heap.size, 5, none⟩ = some (.bool rd2) := KX.cell 5; have xc6 : w5.cell? ⟨w4.heap.size, 6, none⟩ = some (.bool ra2) := KX.cell 6; have xc7 : w5.cell? ⟨w4.heap.size, 7, none⟩ = some (.int .i64 z2) := KX.cell 7; have xc8 : w5.cell? ⟨w4.heap.size, 8, none⟩ = some (.int .i64 rc2) := KX.cell 8; have xc9 : w5.cell? ⟨w4.heap.size, 9, none⟩ = some (.slice y0 n0 k0) := KX.cell 9; have xc10 : w5.cell? ⟨w4.heap.size, 10, none⟩ = some (.slice y1 n1 k1) := KX.cell 10; have xc11 : w5.cell? ⟨w4.heap.size, 11, none⟩ = some (.slice y2 n2 k2) := KX.cell 11; have xc12 : w5.cell? ⟨w4.heap.size, 12, none⟩ = some (.slice y3 n3 k3) := KX.cell 12; clear oo bb HB4 O4)
    | (go_at_call 15; go_must (refine (same_h id2 qr2 op2 aa2 tc2 rd2 ra2 z2 rc2 qs2 an2 ns2 ar2 _ _ _ _ _ _ _ _ _ (O45.out.below (lay (Below.refl _ _) _)) (O5.out.below (lay (Below.refl _ _) _))).mono ?_); rintro e w6 ⟨rfl, bb⟩; have HB6 : Hid (Below w.heap.size w w6) := next (lay HB5.out _) bb; clear bb))
  go_ret
  exact ⟨ret_bool (by simp), HB6.out⟩

theorem walk (m : Ms) (v0 v1 v2 v3 : Value) (y1 y2 : Int) (_ : (Lit.int .i64 y1).wf = true) (_ : (Lit.int .i64 y2).wf = true) (w : World) (h0 : QRow w v0 m.qs) (h1 : RRow w v1 m.an) (h2 : RRow w v2 m.ns) (h3 : RRow w v3 m.ar) :
    Calls Try.prog 5 #[.agg (msgC m.h v0 v1 v2 v3), .int .i64 y1, .int .i64 y2] w fun e w' => e = .returned (.bool true) ∧ Below w.heap.size w w' := by
  have hp := put_ways m
  obtain ⟨⟨id, qr, op, aa, tc, rd, ra, z, rc⟩, qs, an, ns, ar⟩ := m
  rcases hp with ⟨T, a, _, b, c⟩ | ⟨E, e1, e2, _⟩
  · exact w_yes id qr op aa tc rd ra z rc qs an ns ar v0 v1 v2 v3 y1 y2 w h0 h1 h2 h3 ⟨T, a, b, c⟩
  · exact w_no id qr op aa tc rd ra z rc qs an ns ar v0 v1 v2 v3 y1 y2 w h0 h1 h2 h3 ⟨E, e1, e2⟩

theorem own : ownKnob Try.prog.godebug = none := by kernel_rfl
theorem laidOut : laidOutB Try.prog = true := by kernel_rfl

set_option maxRecDepth 100000 in
theorem lifted (os : Os) (started : os.Started) (H : Type) (enc : TypeId × Value → H) :
    ReturnsInHanded {} Try.checked os 5 .any (Rows.wireTurnedSpec.pre6 enc Try.prog Try.f5 Rows.wireTurnedRow.domain false) (Rows.wireTurnedSpec.post enc Try.prog Try.f5 false true false false) := by
  refine returnsInHanded_of_change (C := Try.checked) own started (by kernel_rfl) Try.func5
    (ChangeSpec.witness6 (enc := enc) (C := Try.checked) false ⟨#[], #[.agg (msgC hdZ (.slice none 0 0) (.slice none 0 0) (.slice none 0 0) (.slice none 0 0)), .int .i64 0, .int .i64 0], []⟩ 8 (by kernel_rfl) (by kernel_rfl) (by kernel_rfl) (by kernel_rfl)) ?_
  intro W base args ds gs before hval0 hW _ _
  have hval : ∀ (j : Nat) t v, Try.f5.params[j]? = some t → args[j]? = some v → Value.okWide Try.prog W .any base t v := hval0
  have hW' := hW
  obtain ⟨p, q, hA0, hV, rfl, hfz, hnd⟩ := hW
  have hA : DataW.TrodAll enc Try.prog W 0 (fun _ => true) true Try.f5.params.toList args.toList ds p := hA0
  rw [Try.params5] at hA hval
  obtain ⟨v0, vs0, d0, ds0, p0, q0, hargs, rfl, rfl, h0, r0⟩ := trodAll_cons hA
  obtain ⟨v1, vs1, d1, ds1, p1, q1, rfl, rfl, rfl, h1, r1⟩ := trodAll_cons r0
  obtain ⟨v2, vs2, d2, ds2, p2, q2, rfl, rfl, rfl, h2, r2⟩ := trodAll_cons r1
  obtain ⟨rfl, rfl, rfl⟩ := trodAll_nil r2
  obtain rfl : args = #[v0, v1, v2] := by cases args; simp_all
  obtain ⟨rfl, rfl⟩ := trodVars_none hV
  obtain ⟨a0, b00, b01, b02, b03, rfl, w00, w01, w02, w03⟩ := open_msg (hval 0 27 v0 rfl rfl) h0
  obtain ⟨a1, rfl, rfl, rfl, w1⟩ := open_int Try.underlying3 (hval 1 3 v1 rfl rfl) h1
  obtain ⟨a2, rfl, rfl, rfl, w2⟩ := open_int Try.underlying3 (hval 2 3 v2 rfl rfl) h2
  have hlt0 : ∀ x ∈ p0, x.block < W.heap.size := fun x hx => by
    have := hW'.lt x (by simp [hx])
    simpa using this
  clear hA0 hval0
  simp only [List.append_nil] at hW'
  refine (walk a0 b00 b01 b02 b03 a1 a2 w1 w2 W w00 w01 w02 w03).mono fun e W' ⟨he, bel⟩ => ?_
  subst he
  exact ⟨_, rfl, _, _, _, [], _, [], hW', trodAll_mk1 (shut_bool Try.underlying4 _), (trodAll_cons_mk (Below.trod laidOut (by kernel_rfl) (of_decide_eq_true (by kernel_rfl)) h0 bel hlt0) (trodAll_cons_mk (shut_int Try.underlying3 w1) (trodAll_cons_mk (shut_int Try.underlying3 w2) trodAll_mk0))), rfl, bel.frame _, fun h => by cases h⟩

/-- The statement. -/
theorem proved : Rows.WireTurnedSaid :=
  OpenClaim.holds_of_wide 5 Try.f5 rfl rfl rfl rfl rfl rfl rfl ⟨rfl, rfl, rfl, rfl, rfl⟩ rfl rfl rfl rfl rfl (by kernel_rfl) Try.func5 (by kernel_rfl)
    (of_decide_eq_true (by kernel_rfl)) (by unfold Func.isWrapper; first | (rw [if_pos (by decide +kernel)]; kernel_rfl) | (rw [if_neg (by decide +kernel)]; exact ⟨rfl, rfl⟩))
    (fun os started H enc _ => lifted os started H enc)
#print axioms proved

end Go.Proofs.Ytdogjbblnjjaaaa.wireTurned
