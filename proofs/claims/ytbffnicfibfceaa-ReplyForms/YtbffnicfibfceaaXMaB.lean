/- What the document's Reply gives: what package match's gives. -/
import Derived.Test.YtbffnicfibfceaaXMaA
namespace Go.Proofs.Ytbffnicfibfceaa.Ma
open Go.RowKit
open Pl

set_option maxRecDepth 20000 in
set_option maxHeartbeats 2000000 in
theorem rreply_bad (s : ByteArray) (id : Int) (qr : Bool) (op : Int) (aa tc rd ra : Bool) (z rc : Int) (qs : List Qn) (an ns ar : List Rc) (E : Int) (w : World) (hs : s.size ≤ maxLen) (h0 : E ≠ 0) (hg : gM s = ⟨⟨id, qr, op, aa, tc, rd, ra, z, rc⟩, qs, an, ns, ar⟩ ∧ gE s = E) :
    Calls Try.prog 6 #[.string s] w (RpP s w) := by
  have HG : Hid (gM s = ⟨⟨id, qr, op, aa, tc, rd, ra, z, rc⟩, qs, an, ns, ar⟩ ∧ gE s = E) := hg
  have h0' : (E == 0) = false := by simpa using h0
  have HNO : Hid (¬ (gE s = 0 ∧ isR (gM s) = true)) := by
    unfold Hid
    rw [hg.1, hg.2]
    exact fun h => h0 h.1
  clear hg
  have hb : Below w.heap.size w w := Below.refl _ _
  have hsz : Hid (w.heap.size.succ ≤ (w.alloc (.cells #[.int .i64 0, .bool false, .int .i64 0, .bool false, .bool false, .bool false, .bool false, .int .i64 0, .int .i64 0, .slice none 0 0, .slice none 0 0, .slice none 0 0, .slice none 0 0] 27)).heap.size) := by unfold Hid; rw [World.size_alloc]; omega
  have KR := Blk.new w (msgC hdZ (.slice none 0 0) (.slice none 0 0) (.slice none 0 0) (.slice none 0 0)) 27
  unfold msgC hdZ at KR
  simp only at KR
  go_enter Try.func6, Try.ntmps6
  go_wp2_with (first
    | (go_at_call 13; go_must (refine (rget_h s id qr op aa tc rd ra z rc qs an ns ar E _ hs HG.out).mono ?_); rintro e w1 ⟨y0, y1, y2, y3, n0, n1, n2, n3, k0, k1, k2, k3, rfl, oo, bb⟩; obtain rfl := own_len oo.q; obtain rfl := own_len oo.an; obtain rfl := own_len oo.ns; obtain rfl := own_len oo.ar; have OO : Hid (Own w.heap.size.succ w1 (.slice y0 qs.length k0) (.slice y1 an.length k1) (.slice y2 ns.length k2) (.slice y3 ar.length k3) ⟨⟨id, qr, op, aa, tc, rd, ra, z, rc⟩, qs, an, ns, ar⟩ ∧ w.heap.size < w.heap.size.succ) := ⟨own_from oo hsz.out, Nat.lt_succ_self _⟩; replace KR := KR.below bb; replace hb := next (lay hb _) bb; have KM := Blk.new w1 #[.int .i64 id, .bool qr, .int .i64 op, .bool aa, .bool tc, .bool rd, .bool ra, .int .i64 z, .int .i64 rc, .slice y0 qs.length k0, .slice y1 an.length k1, .slice y2 ns.length k2, .slice y3 ar.length k3] 27; clear oo bb hsz; replace KR := KR.alloc (.cells #[.int .i64 id, .bool qr, .int .i64 op, .bool aa, .bool tc, .bool rd, .bool ra, .int .i64 z, .int .i64 rc, .slice y0 qs.length k0, .slice y1 an.length k1, .slice y2 ns.length k2, .slice y3 ar.length k3] 27); replace hb := lay hb (.cells #[.int .i64 id, .bool qr, .int .i64 op, .bool aa, .bool tc, .bool rd, .bool ra, .int .i64 z, .int .i64 rc, .slice y0 qs.length k0, .slice y1 an.length k1, .slice y2 ns.length k2, .slice y3 ar.length k3] 27); obtain ⟨f0, f1, f2, f3, f4, f5, f6, f7, f8, f9, f10, f11, f12⟩ := open13 KR; obtain ⟨z0, z1, z2, z3, z4, z5, z6, z7, z8, z9, z10, z11, z12⟩ := blk13 (h := hdZ) KR; unfold hdZ at z0 z1 z2 z3 z4 z5 z6 z7 z8; simp only at z0 z1 z2 z3 z4 z5 z6 z7 z8))
  obtain ⟨qb, q⟩ := zeroed hb KR
  have hno := HNO.out
  clear f0 f1 f2 f3 f4 f5 f6 f7 f8 f9 f10 f11 f12 z0 z1 z2 z3 z4 z5 z6 z7 z8 z9 z10 z11 z12
  unfold set13 hdZ at qb q
  simp only at qb q
  revert qb q
  generalize ((((((((((((((w1.alloc (.cells #[.int .i64 id, .bool qr, .int .i64 op, .bool aa, .bool tc, .bool rd, .bool ra, .int .i64 z, .int .i64 rc, .slice y0 qs.length k0, .slice y1 an.length k1, .slice y2 ns.length k2, .slice y3 ar.length k3] 27)).setCell ⟨w.heap.size, 0, none⟩ (.int .i64 0)).setCell ⟨w.heap.size, 1, none⟩ (.bool false)).setCell ⟨w.heap.size, 2, none⟩ (.int .i64 0)).setCell ⟨w.heap.size, 3, none⟩ (.bool false)).setCell ⟨w.heap.size, 4, none⟩ (.bool false)).setCell ⟨w.heap.size, 5, none⟩ (.bool false)).setCell ⟨w.heap.size, 6, none⟩ (.bool false)).setCell ⟨w.heap.size, 7, none⟩ (.int .i64 0)).setCell ⟨w.heap.size, 8, none⟩ (.int .i64 0)).setCell ⟨w.heap.size, 9, none⟩ (.slice none 0 0)).setCell ⟨w.heap.size, 10, none⟩ (.slice none 0 0)).setCell ⟨w.heap.size, 11, none⟩ (.slice none 0 0)).setCell ⟨w.heap.size, 12, none⟩ (.slice none 0 0)) = V
  intro qb q
  obtain ⟨m0, m1, m2, m3, m4, m5, m6, m7, m8, m9, m10, m11, m12⟩ := blk13 q
  exact bodyPost_ret (v := .tuple #[.agg (msgC hdZ (.slice none 0 0) (.slice none 0 0) (.slice none 0 0) (.slice none 0 0)), .int .i64 2000]) (by simp [results, Try.results6, go_sem, msgC, hdZ, m0, m1, m2, m3, m4, m5, m6, m7, m8, m9, m10, m11, m12]) rfl (rp_no hno qb)

set_option maxRecDepth 20000 in
set_option maxHeartbeats 2000000 in
theorem rreply_qr (s : ByteArray) (id : Int) (op : Int) (aa tc rd ra : Bool) (z rc : Int) (qs : List Qn) (an ns ar : List Rc) (w : World) (hs : s.size ≤ maxLen) (hg : gM s = ⟨⟨id, false, op, aa, tc, rd, ra, z, rc⟩, qs, an, ns, ar⟩ ∧ gE s = 0) :
    Calls Try.prog 6 #[.string s] w (RpP s w) := by
  have HG : Hid (gM s = ⟨⟨id, false, op, aa, tc, rd, ra, z, rc⟩, qs, an, ns, ar⟩ ∧ gE s = 0) := hg
  have hp : (false && (op == 0 && qs.length == 1)) = false := rfl
  have HNO : Hid (¬ (gE s = 0 ∧ isR (gM s) = true)) := by
    unfold Hid
    rw [hg.1, hg.2]
    exact fun h => by have := h.2; unfold isR at this; rw [hp] at this; simp at this
  clear hp
  clear hg
  have hb : Below w.heap.size w w := Below.refl _ _
  have hsz : Hid (w.heap.size.succ ≤ (w.alloc (.cells #[.int .i64 0, .bool false, .int .i64 0, .bool false, .bool false, .bool false, .bool false, .int .i64 0, .int .i64 0, .slice none 0 0, .slice none 0 0, .slice none 0 0, .slice none 0 0] 27)).heap.size) := by unfold Hid; rw [World.size_alloc]; omega
  have KR := Blk.new w (msgC hdZ (.slice none 0 0) (.slice none 0 0) (.slice none 0 0) (.slice none 0 0)) 27
  unfold msgC hdZ at KR
  simp only at KR
  go_enter Try.func6, Try.ntmps6
  go_wp2_with (first
    | (go_at_call 13; go_must (refine (rget_h s id false op aa tc rd ra z rc qs an ns ar 0 _ hs HG.out).mono ?_); rintro e w1 ⟨y0, y1, y2, y3, n0, n1, n2, n3, k0, k1, k2, k3, rfl, oo, bb⟩; obtain rfl := own_len oo.q; obtain rfl := own_len oo.an; obtain rfl := own_len oo.ns; obtain rfl := own_len oo.ar; have OO : Hid (Own w.heap.size.succ w1 (.slice y0 qs.length k0) (.slice y1 an.length k1) (.slice y2 ns.length k2) (.slice y3 ar.length k3) ⟨⟨id, false, op, aa, tc, rd, ra, z, rc⟩, qs, an, ns, ar⟩ ∧ w.heap.size < w.heap.size.succ) := ⟨own_from oo hsz.out, Nat.lt_succ_self _⟩; replace KR := KR.below bb; replace hb := next (lay hb _) bb; have KM := Blk.new w1 #[.int .i64 id, .bool false, .int .i64 op, .bool aa, .bool tc, .bool rd, .bool ra, .int .i64 z, .int .i64 rc, .slice y0 qs.length k0, .slice y1 an.length k1, .slice y2 ns.length k2, .slice y3 ar.length k3] 27; clear oo bb hsz; replace KR := KR.alloc (.cells #[.int .i64 id, .bool false, .int .i64 op, .bool aa, .bool tc, .bool rd, .bool ra, .int .i64 z, .int .i64 rc, .slice y0 qs.length k0, .slice y1 an.length k1, .slice y2 ns.length k2, .slice y3 ar.length k3] 27); replace hb := lay hb (.cells #[.int .i64 id, .bool false, .int .i64 op, .bool aa, .bool tc, .bool rd, .bool ra, .int .i64 z, .int .i64 rc, .slice y0 qs.length k0, .slice y1 an.length k1, .slice y2 ns.length k2, .slice y3 ar.length k3] 27); obtain ⟨f0, f1, f2, f3, f4, f5, f6, f7, f8, f9, f10, f11, f12⟩ := open13 KR; obtain ⟨z0, z1, z2, z3, z4, z5, z6, z7, z8, z9, z10, z11, z12⟩ := blk13 (h := hdZ) KR; unfold hdZ at z0 z1 z2 z3 z4 z5 z6 z7 z8; simp only at z0 z1 z2 z3 z4 z5 z6 z7 z8; obtain ⟨c0, c1, c2, c3, c4, c5, c6, c7, c8, c9, c10, c11, c12⟩ := blk13 (h := ⟨id, false, op, aa, tc, rd, ra, z, rc⟩) KM; simp only at c0 c1 c2 c3 c4 c5 c6 c7 c8))
  obtain ⟨qb, q⟩ := zeroed hb KR
  have hno := HNO.out
  clear f0 f1 f2 f3 f4 f5 f6 f7 f8 f9 f10 f11 f12 z0 z1 z2 z3 z4 z5 z6 z7 z8 z9 z10 z11 z12 c0 c1 c2 c3 c4 c5 c6 c7 c8 c9 c10 c11 c12
  unfold set13 hdZ at qb q
  simp only at qb q
  revert qb q
  generalize ((((((((((((((w1.alloc (.cells #[.int .i64 id, .bool false, .int .i64 op, .bool aa, .bool tc, .bool rd, .bool ra, .int .i64 z, .int .i64 rc, .slice y0 qs.length k0, .slice y1 an.length k1, .slice y2 ns.length k2, .slice y3 ar.length k3] 27)).setCell ⟨w.heap.size, 0, none⟩ (.int .i64 0)).setCell ⟨w.heap.size, 1, none⟩ (.bool false)).setCell ⟨w.heap.size, 2, none⟩ (.int .i64 0)).setCell ⟨w.heap.size, 3, none⟩ (.bool false)).setCell ⟨w.heap.size, 4, none⟩ (.bool false)).setCell ⟨w.heap.size, 5, none⟩ (.bool false)).setCell ⟨w.heap.size, 6, none⟩ (.bool false)).setCell ⟨w.heap.size, 7, none⟩ (.int .i64 0)).setCell ⟨w.heap.size, 8, none⟩ (.int .i64 0)).setCell ⟨w.heap.size, 9, none⟩ (.slice none 0 0)).setCell ⟨w.heap.size, 10, none⟩ (.slice none 0 0)).setCell ⟨w.heap.size, 11, none⟩ (.slice none 0 0)).setCell ⟨w.heap.size, 12, none⟩ (.slice none 0 0)) = V
  intro qb q
  obtain ⟨m0, m1, m2, m3, m4, m5, m6, m7, m8, m9, m10, m11, m12⟩ := blk13 q
  exact bodyPost_ret (v := .tuple #[.agg (msgC hdZ (.slice none 0 0) (.slice none 0 0) (.slice none 0 0) (.slice none 0 0)), .int .i64 2000]) (by simp [results, Try.results6, go_sem, msgC, hdZ, m0, m1, m2, m3, m4, m5, m6, m7, m8, m9, m10, m11, m12]) rfl (rp_no hno qb)

set_option maxRecDepth 20000 in
set_option maxHeartbeats 2000000 in
theorem rreply_op (s : ByteArray) (id : Int) (op : Int) (aa tc rd ra : Bool) (z rc : Int) (qs : List Qn) (an ns ar : List Rc) (w : World) (hs : s.size ≤ maxLen) (h1 : op ≠ 0) (hg : gM s = ⟨⟨id, true, op, aa, tc, rd, ra, z, rc⟩, qs, an, ns, ar⟩ ∧ gE s = 0) :
    Calls Try.prog 6 #[.string s] w (RpP s w) := by
  have HG : Hid (gM s = ⟨⟨id, true, op, aa, tc, rd, ra, z, rc⟩, qs, an, ns, ar⟩ ∧ gE s = 0) := hg
  have h1' : (op == 0) = false := by simpa using h1
  have hp : (true && (op == 0 && qs.length == 1)) = false := by rw [h1']; rfl
  have HNO : Hid (¬ (gE s = 0 ∧ isR (gM s) = true)) := by
    unfold Hid
    rw [hg.1, hg.2]
    exact fun h => by have := h.2; unfold isR at this; rw [hp] at this; simp at this
  clear hp h1
  clear hg
  have hb : Below w.heap.size w w := Below.refl _ _
  have hsz : Hid (w.heap.size.succ ≤ (w.alloc (.cells #[.int .i64 0, .bool false, .int .i64 0, .bool false, .bool false, .bool false, .bool false, .int .i64 0, .int .i64 0, .slice none 0 0, .slice none 0 0, .slice none 0 0, .slice none 0 0] 27)).heap.size) := by unfold Hid; rw [World.size_alloc]; omega
  have KR := Blk.new w (msgC hdZ (.slice none 0 0) (.slice none 0 0) (.slice none 0 0) (.slice none 0 0)) 27
  unfold msgC hdZ at KR
  simp only at KR
  go_enter Try.func6, Try.ntmps6
  go_wp2_with (first
    | (go_at_call 13; go_must (refine (rget_h s id true op aa tc rd ra z rc qs an ns ar 0 _ hs HG.out).mono ?_); rintro e w1 ⟨y0, y1, y2, y3, n0, n1, n2, n3, k0, k1, k2, k3, rfl, oo, bb⟩; obtain rfl := own_len oo.q; obtain rfl := own_len oo.an; obtain rfl := own_len oo.ns; obtain rfl := own_len oo.ar; have OO : Hid (Own w.heap.size.succ w1 (.slice y0 qs.length k0) (.slice y1 an.length k1) (.slice y2 ns.length k2) (.slice y3 ar.length k3) ⟨⟨id, true, op, aa, tc, rd, ra, z, rc⟩, qs, an, ns, ar⟩ ∧ w.heap.size < w.heap.size.succ) := ⟨own_from oo hsz.out, Nat.lt_succ_self _⟩; replace KR := KR.below bb; replace hb := next (lay hb _) bb; have KM := Blk.new w1 #[.int .i64 id, .bool true, .int .i64 op, .bool aa, .bool tc, .bool rd, .bool ra, .int .i64 z, .int .i64 rc, .slice y0 qs.length k0, .slice y1 an.length k1, .slice y2 ns.length k2, .slice y3 ar.length k3] 27; clear oo bb hsz; replace KR := KR.alloc (.cells #[.int .i64 id, .bool true, .int .i64 op, .bool aa, .bool tc, .bool rd, .bool ra, .int .i64 z, .int .i64 rc, .slice y0 qs.length k0, .slice y1 an.length k1, .slice y2 ns.length k2, .slice y3 ar.length k3] 27); replace hb := lay hb (.cells #[.int .i64 id, .bool true, .int .i64 op, .bool aa, .bool tc, .bool rd, .bool ra, .int .i64 z, .int .i64 rc, .slice y0 qs.length k0, .slice y1 an.length k1, .slice y2 ns.length k2, .slice y3 ar.length k3] 27); obtain ⟨f0, f1, f2, f3, f4, f5, f6, f7, f8, f9, f10, f11, f12⟩ := open13 KR; obtain ⟨z0, z1, z2, z3, z4, z5, z6, z7, z8, z9, z10, z11, z12⟩ := blk13 (h := hdZ) KR; unfold hdZ at z0 z1 z2 z3 z4 z5 z6 z7 z8; simp only at z0 z1 z2 z3 z4 z5 z6 z7 z8; obtain ⟨c0, c1, c2, c3, c4, c5, c6, c7, c8, c9, c10, c11, c12⟩ := blk13 (h := ⟨id, true, op, aa, tc, rd, ra, z, rc⟩) KM; simp only at c0 c1 c2 c3 c4 c5 c6 c7 c8))
  obtain ⟨qb, q⟩ := zeroed hb KR
  have hno := HNO.out
  clear f0 f1 f2 f3 f4 f5 f6 f7 f8 f9 f10 f11 f12 z0 z1 z2 z3 z4 z5 z6 z7 z8 z9 z10 z11 z12 c0 c1 c2 c3 c4 c5 c6 c7 c8 c9 c10 c11 c12
  unfold set13 hdZ at qb q
  simp only at qb q
  revert qb q
  generalize ((((((((((((((w1.alloc (.cells #[.int .i64 id, .bool true, .int .i64 op, .bool aa, .bool tc, .bool rd, .bool ra, .int .i64 z, .int .i64 rc, .slice y0 qs.length k0, .slice y1 an.length k1, .slice y2 ns.length k2, .slice y3 ar.length k3] 27)).setCell ⟨w.heap.size, 0, none⟩ (.int .i64 0)).setCell ⟨w.heap.size, 1, none⟩ (.bool false)).setCell ⟨w.heap.size, 2, none⟩ (.int .i64 0)).setCell ⟨w.heap.size, 3, none⟩ (.bool false)).setCell ⟨w.heap.size, 4, none⟩ (.bool false)).setCell ⟨w.heap.size, 5, none⟩ (.bool false)).setCell ⟨w.heap.size, 6, none⟩ (.bool false)).setCell ⟨w.heap.size, 7, none⟩ (.int .i64 0)).setCell ⟨w.heap.size, 8, none⟩ (.int .i64 0)).setCell ⟨w.heap.size, 9, none⟩ (.slice none 0 0)).setCell ⟨w.heap.size, 10, none⟩ (.slice none 0 0)).setCell ⟨w.heap.size, 11, none⟩ (.slice none 0 0)).setCell ⟨w.heap.size, 12, none⟩ (.slice none 0 0)) = V
  intro qb q
  obtain ⟨m0, m1, m2, m3, m4, m5, m6, m7, m8, m9, m10, m11, m12⟩ := blk13 q
  exact bodyPost_ret (v := .tuple #[.agg (msgC hdZ (.slice none 0 0) (.slice none 0 0) (.slice none 0 0) (.slice none 0 0)), .int .i64 2000]) (by simp [results, Try.results6, go_sem, msgC, hdZ, m0, m1, m2, m3, m4, m5, m6, m7, m8, m9, m10, m11, m12]) rfl (rp_no hno qb)

set_option maxRecDepth 20000 in
set_option maxHeartbeats 2000000 in
theorem rreply_len (s : ByteArray) (id : Int) (aa tc rd ra : Bool) (z rc : Int) (qs : List Qn) (an ns ar : List Rc) (w : World) (hs : s.size ≤ maxLen) (h1 : qs.length ≠ 1) (hg : gM s = ⟨⟨id, true, 0, aa, tc, rd, ra, z, rc⟩, qs, an, ns, ar⟩ ∧ gE s = 0) :
    Calls Try.prog 6 #[.string s] w (RpP s w) := by
  have HG : Hid (gM s = ⟨⟨id, true, 0, aa, tc, rd, ra, z, rc⟩, qs, an, ns, ar⟩ ∧ gE s = 0) := hg
  have h1' : ((qs.length : Int) == 1) = false := by simp; omega
  have hp : (true && ((0 : Int) == 0 && qs.length == 1)) = false := by simp [h1]
  have HNO : Hid (¬ (gE s = 0 ∧ isR (gM s) = true)) := by
    unfold Hid
    rw [hg.1, hg.2]
    exact fun h => by have := h.2; unfold isR at this; rw [hp] at this; simp at this
  clear hp h1
  clear hg
  have hb : Below w.heap.size w w := Below.refl _ _
  have hsz : Hid (w.heap.size.succ ≤ (w.alloc (.cells #[.int .i64 0, .bool false, .int .i64 0, .bool false, .bool false, .bool false, .bool false, .int .i64 0, .int .i64 0, .slice none 0 0, .slice none 0 0, .slice none 0 0, .slice none 0 0] 27)).heap.size) := by unfold Hid; rw [World.size_alloc]; omega
  have KR := Blk.new w (msgC hdZ (.slice none 0 0) (.slice none 0 0) (.slice none 0 0) (.slice none 0 0)) 27
  unfold msgC hdZ at KR
  simp only at KR
  go_enter Try.func6, Try.ntmps6
  go_wp2_with (first
    | (go_at_call 13; go_must (refine (rget_h s id true 0 aa tc rd ra z rc qs an ns ar 0 _ hs HG.out).mono ?_); rintro e w1 ⟨y0, y1, y2, y3, n0, n1, n2, n3, k0, k1, k2, k3, rfl, oo, bb⟩; obtain rfl := own_len oo.q; obtain rfl := own_len oo.an; obtain rfl := own_len oo.ns; obtain rfl := own_len oo.ar; have OO : Hid (Own w.heap.size.succ w1 (.slice y0 qs.length k0) (.slice y1 an.length k1) (.slice y2 ns.length k2) (.slice y3 ar.length k3) ⟨⟨id, true, 0, aa, tc, rd, ra, z, rc⟩, qs, an, ns, ar⟩ ∧ w.heap.size < w.heap.size.succ) := ⟨own_from oo hsz.out, Nat.lt_succ_self _⟩; replace KR := KR.below bb; replace hb := next (lay hb _) bb; have KM := Blk.new w1 #[.int .i64 id, .bool true, .int .i64 0, .bool aa, .bool tc, .bool rd, .bool ra, .int .i64 z, .int .i64 rc, .slice y0 qs.length k0, .slice y1 an.length k1, .slice y2 ns.length k2, .slice y3 ar.length k3] 27; clear oo bb hsz; replace KR := KR.alloc (.cells #[.int .i64 id, .bool true, .int .i64 0, .bool aa, .bool tc, .bool rd, .bool ra, .int .i64 z, .int .i64 rc, .slice y0 qs.length k0, .slice y1 an.length k1, .slice y2 ns.length k2, .slice y3 ar.length k3] 27); replace hb := lay hb (.cells #[.int .i64 id, .bool true, .int .i64 0, .bool aa, .bool tc, .bool rd, .bool ra, .int .i64 z, .int .i64 rc, .slice y0 qs.length k0, .slice y1 an.length k1, .slice y2 ns.length k2, .slice y3 ar.length k3] 27); obtain ⟨f0, f1, f2, f3, f4, f5, f6, f7, f8, f9, f10, f11, f12⟩ := open13 KR; obtain ⟨z0, z1, z2, z3, z4, z5, z6, z7, z8, z9, z10, z11, z12⟩ := blk13 (h := hdZ) KR; unfold hdZ at z0 z1 z2 z3 z4 z5 z6 z7 z8; simp only at z0 z1 z2 z3 z4 z5 z6 z7 z8; obtain ⟨c0, c1, c2, c3, c4, c5, c6, c7, c8, c9, c10, c11, c12⟩ := blk13 (h := ⟨id, true, 0, aa, tc, rd, ra, z, rc⟩) KM; simp only at c0 c1 c2 c3 c4 c5 c6 c7 c8))
  obtain ⟨qb, q⟩ := zeroed hb KR
  have hno := HNO.out
  clear f0 f1 f2 f3 f4 f5 f6 f7 f8 f9 f10 f11 f12 z0 z1 z2 z3 z4 z5 z6 z7 z8 z9 z10 z11 z12 c0 c1 c2 c3 c4 c5 c6 c7 c8 c9 c10 c11 c12
  unfold set13 hdZ at qb q
  simp only at qb q
  revert qb q
  generalize ((((((((((((((w1.alloc (.cells #[.int .i64 id, .bool true, .int .i64 0, .bool aa, .bool tc, .bool rd, .bool ra, .int .i64 z, .int .i64 rc, .slice y0 qs.length k0, .slice y1 an.length k1, .slice y2 ns.length k2, .slice y3 ar.length k3] 27)).setCell ⟨w.heap.size, 0, none⟩ (.int .i64 0)).setCell ⟨w.heap.size, 1, none⟩ (.bool false)).setCell ⟨w.heap.size, 2, none⟩ (.int .i64 0)).setCell ⟨w.heap.size, 3, none⟩ (.bool false)).setCell ⟨w.heap.size, 4, none⟩ (.bool false)).setCell ⟨w.heap.size, 5, none⟩ (.bool false)).setCell ⟨w.heap.size, 6, none⟩ (.bool false)).setCell ⟨w.heap.size, 7, none⟩ (.int .i64 0)).setCell ⟨w.heap.size, 8, none⟩ (.int .i64 0)).setCell ⟨w.heap.size, 9, none⟩ (.slice none 0 0)).setCell ⟨w.heap.size, 10, none⟩ (.slice none 0 0)).setCell ⟨w.heap.size, 11, none⟩ (.slice none 0 0)).setCell ⟨w.heap.size, 12, none⟩ (.slice none 0 0)) = V
  intro qb q
  obtain ⟨m0, m1, m2, m3, m4, m5, m6, m7, m8, m9, m10, m11, m12⟩ := blk13 q
  exact bodyPost_ret (v := .tuple #[.agg (msgC hdZ (.slice none 0 0) (.slice none 0 0) (.slice none 0 0) (.slice none 0 0)), .int .i64 2000]) (by simp [results, Try.results6, go_sem, msgC, hdZ, m0, m1, m2, m3, m4, m5, m6, m7, m8, m9, m10, m11, m12]) rfl (rp_no hno qb)

set_option maxRecDepth 20000 in
set_option maxHeartbeats 2000000 in
theorem rreply_yes (s : ByteArray) (id : Int) (aa tc rd ra : Bool) (z rc : Int) (qs : List Qn) (an ns ar : List Rc) (w : World) (hs : s.size ≤ maxLen) (h1 : qs.length = 1) (hg : gM s = ⟨⟨id, true, 0, aa, tc, rd, ra, z, rc⟩, qs, an, ns, ar⟩ ∧ gE s = 0) :
    Calls Try.prog 6 #[.string s] w (RpP s w) := by
  have HG : Hid (gM s = ⟨⟨id, true, 0, aa, tc, rd, ra, z, rc⟩, qs, an, ns, ar⟩ ∧ gE s = 0) := hg
  have h1' : ((qs.length : Int) == 1) = true := by simp; omega
  have HYE : Hid (isR ⟨⟨id, true, 0, aa, tc, rd, ra, z, rc⟩, qs, an, ns, ar⟩ = true) := by unfold Hid isR; simp [h1]
  clear h1
  clear hg
  have hb : Below w.heap.size w w := Below.refl _ _
  have hsz : Hid (w.heap.size.succ ≤ (w.alloc (.cells #[.int .i64 0, .bool false, .int .i64 0, .bool false, .bool false, .bool false, .bool false, .int .i64 0, .int .i64 0, .slice none 0 0, .slice none 0 0, .slice none 0 0, .slice none 0 0] 27)).heap.size) := by unfold Hid; rw [World.size_alloc]; omega
  have KR := Blk.new w (msgC hdZ (.slice none 0 0) (.slice none 0 0) (.slice none 0 0) (.slice none 0 0)) 27
  unfold msgC hdZ at KR
  simp only at KR
  go_enter Try.func6, Try.ntmps6
  go_wp2_with (first
    | (go_at_call 13; go_must (refine (rget_h s id true 0 aa tc rd ra z rc qs an ns ar 0 _ hs HG.out).mono ?_); rintro e w1 ⟨y0, y1, y2, y3, n0, n1, n2, n3, k0, k1, k2, k3, rfl, oo, bb⟩; obtain rfl := own_len oo.q; obtain rfl := own_len oo.an; obtain rfl := own_len oo.ns; obtain rfl := own_len oo.ar; have OO : Hid (Own w.heap.size.succ w1 (.slice y0 qs.length k0) (.slice y1 an.length k1) (.slice y2 ns.length k2) (.slice y3 ar.length k3) ⟨⟨id, true, 0, aa, tc, rd, ra, z, rc⟩, qs, an, ns, ar⟩ ∧ w.heap.size < w.heap.size.succ) := ⟨own_from oo hsz.out, Nat.lt_succ_self _⟩; replace KR := KR.below bb; replace hb := next (lay hb _) bb; have KM := Blk.new w1 #[.int .i64 id, .bool true, .int .i64 0, .bool aa, .bool tc, .bool rd, .bool ra, .int .i64 z, .int .i64 rc, .slice y0 qs.length k0, .slice y1 an.length k1, .slice y2 ns.length k2, .slice y3 ar.length k3] 27; clear oo bb hsz; replace KR := KR.alloc (.cells #[.int .i64 id, .bool true, .int .i64 0, .bool aa, .bool tc, .bool rd, .bool ra, .int .i64 z, .int .i64 rc, .slice y0 qs.length k0, .slice y1 an.length k1, .slice y2 ns.length k2, .slice y3 ar.length k3] 27); replace hb := lay hb (.cells #[.int .i64 id, .bool true, .int .i64 0, .bool aa, .bool tc, .bool rd, .bool ra, .int .i64 z, .int .i64 rc, .slice y0 qs.length k0, .slice y1 an.length k1, .slice y2 ns.length k2, .slice y3 ar.length k3] 27); obtain ⟨f0, f1, f2, f3, f4, f5, f6, f7, f8, f9, f10, f11, f12⟩ := open13 KR; obtain ⟨z0, z1, z2, z3, z4, z5, z6, z7, z8, z9, z10, z11, z12⟩ := blk13 (h := hdZ) KR; unfold hdZ at z0 z1 z2 z3 z4 z5 z6 z7 z8; simp only at z0 z1 z2 z3 z4 z5 z6 z7 z8; obtain ⟨c0, c1, c2, c3, c4, c5, c6, c7, c8, c9, c10, c11, c12⟩ := blk13 (h := ⟨id, true, 0, aa, tc, rd, ra, z, rc⟩) KM; simp only at c0 c1 c2 c3 c4 c5 c6 c7 c8))
  have hlt := OO.out.2
  have q := set13_blk (h := ⟨id, true, 0, aa, tc, rd, ra, z, rc⟩) (v0 := .slice y0 qs.length k0) (v1 := .slice y1 an.length k1) (v2 := .slice y2 ns.length k2) (v3 := .slice y3 ar.length k3) (h' := hdZ) KR
  have qb := Turn.below hb (set13_turn (w1.alloc (.cells #[.int .i64 id, .bool true, .int .i64 0, .bool aa, .bool tc, .bool rd, .bool ra, .int .i64 z, .int .i64 rc, .slice y0 qs.length k0, .slice y1 an.length k1, .slice y2 ns.length k2, .slice y3 ar.length k3] 27)) w.heap.size ⟨id, true, 0, aa, tc, rd, ra, z, rc⟩ (.slice y0 qs.length k0) (.slice y1 an.length k1) (.slice y2 ns.length k2) (.slice y3 ar.length k3)) hb.size (fun i e => by omega)
  have qo := own_turn (OO.out.1.below (lay (Below.refl _ _) _)) (set13_turn (w1.alloc (.cells #[.int .i64 id, .bool true, .int .i64 0, .bool aa, .bool tc, .bool rd, .bool ra, .int .i64 z, .int .i64 rc, .slice y0 qs.length k0, .slice y1 an.length k1, .slice y2 ns.length k2, .slice y3 ar.length k3] 27)) w.heap.size ⟨id, true, 0, aa, tc, rd, ra, z, rc⟩ (.slice y0 qs.length k0) (.slice y1 an.length k1) (.slice y2 ns.length k2) (.slice y3 ar.length k3)) (by omega)
  have hye := HYE.out
  have hg := HG.out
  clear f0 f1 f2 f3 f4 f5 f6 f7 f8 f9 f10 f11 f12 z0 z1 z2 z3 z4 z5 z6 z7 z8 z9 z10 z11 z12 c0 c1 c2 c3 c4 c5 c6 c7 c8 c9 c10 c11 c12
  unfold set13 at qb q qo
  simp only at qb q qo
  revert qb q qo
  generalize ((((((((((((((w1.alloc (.cells #[.int .i64 id, .bool true, .int .i64 0, .bool aa, .bool tc, .bool rd, .bool ra, .int .i64 z, .int .i64 rc, .slice y0 qs.length k0, .slice y1 an.length k1, .slice y2 ns.length k2, .slice y3 ar.length k3] 27)).setCell ⟨w.heap.size, 0, none⟩ (.int .i64 id)).setCell ⟨w.heap.size, 1, none⟩ (.bool true)).setCell ⟨w.heap.size, 2, none⟩ (.int .i64 0)).setCell ⟨w.heap.size, 3, none⟩ (.bool aa)).setCell ⟨w.heap.size, 4, none⟩ (.bool tc)).setCell ⟨w.heap.size, 5, none⟩ (.bool rd)).setCell ⟨w.heap.size, 6, none⟩ (.bool ra)).setCell ⟨w.heap.size, 7, none⟩ (.int .i64 z)).setCell ⟨w.heap.size, 8, none⟩ (.int .i64 rc)).setCell ⟨w.heap.size, 9, none⟩ (.slice y0 qs.length k0)).setCell ⟨w.heap.size, 10, none⟩ (.slice y1 an.length k1)).setCell ⟨w.heap.size, 11, none⟩ (.slice y2 ns.length k2)).setCell ⟨w.heap.size, 12, none⟩ (.slice y3 ar.length k3)) = V
  intro q qb qo
  obtain ⟨m0, m1, m2, m3, m4, m5, m6, m7, m8, m9, m10, m11, m12⟩ := blk13 q
  exact bodyPost_ret (v := .tuple #[.agg (msgC ⟨id, true, 0, aa, tc, rd, ra, z, rc⟩ (.slice y0 qs.length k0) (.slice y1 an.length k1) (.slice y2 ns.length k2) (.slice y3 ar.length k3)), .int .i64 0]) (by simp [results, Try.results6, go_sem, msgC, m0, m1, m2, m3, m4, m5, m6, m7, m8, m9, m10, m11, m12]) rfl (rp_yes hye hg ⟨_, _, _, _, rfl, own_from qo (by omega), qb⟩)

theorem rreply_w (s : ByteArray) (w : World) (hs : s.size ≤ maxLen) : Calls Try.prog 6 #[.string s] w (RpP s w) := by
  obtain ⟨x, hx⟩ : ∃ x, gM s = x := ⟨_, rfl⟩
  obtain ⟨⟨id, qr, op, aa, tc, rd, ra, z, rc⟩, qs, an, ns, ar⟩ := x
  by_cases h0 : gE s = 0
  · cases qr with
    | false => exact rreply_qr s id op aa tc rd ra z rc qs an ns ar w hs ⟨hx, h0⟩
    | true =>
      by_cases h1 : op = 0
      · subst h1
        by_cases h2 : qs.length = 1
        · exact rreply_yes s id aa tc rd ra z rc qs an ns ar w hs h2 ⟨hx, h0⟩
        · exact rreply_len s id aa tc rd ra z rc qs an ns ar w hs h2 ⟨hx, h0⟩
      · exact rreply_op s id op aa tc rd ra z rc qs an ns ar w hs h1 ⟨hx, h0⟩
  · exact rreply_bad s id qr op aa tc rd ra z rc qs an ns ar _ w hs h0 ⟨hx, rfl⟩
/-- .. where it is known what it gives. -/
theorem rreply_h (s : ByteArray) (id : Int) (qr : Bool) (op : Int) (aa tc rd ra : Bool) (z rc : Int) (qs : List Qn) (an ns ar : List Rc) (E : Int) (w : World) (hs : s.size ≤ maxLen) (h : rpM s = ⟨⟨id, qr, op, aa, tc, rd, ra, z, rc⟩, qs, an, ns, ar⟩ ∧ rpE s = E) :
    Calls Try.prog 6 #[.string s] w fun e w' => ∃ (y0 y1 y2 y3 : Option Addr) (k0 k1 k2 k3 : Nat), e = .returned (.tuple #[.agg #[.int .i64 id, .bool qr, .int .i64 op, .bool aa, .bool tc, .bool rd, .bool ra, .int .i64 z, .int .i64 rc, .slice y0 qs.length k0, .slice y1 an.length k1, .slice y2 ns.length k2, .slice y3 ar.length k3], .int .i64 E]) ∧ Own w.heap.size w' (.slice y0 qs.length k0) (.slice y1 an.length k1) (.slice y2 ns.length k2) (.slice y3 ar.length k3) ⟨⟨id, qr, op, aa, tc, rd, ra, z, rc⟩, qs, an, ns, ar⟩ ∧ Below w.heap.size w w' := by
  have := rreply_w s w hs
  unfold RpP at this
  rw [h.1, h.2] at this
  refine this.mono fun e w' ⟨v0, v1, v2, v3, he, ho, hb⟩ => ?_
  obtain ⟨y0, k0, rfl⟩ := row_slice (Row.of_own ho.q)
  obtain ⟨y1, k1, rfl⟩ := row_slice (Row.of_own ho.an)
  obtain ⟨y2, k2, rfl⟩ := row_slice (Row.of_own ho.ns)
  obtain ⟨y3, k3, rfl⟩ := row_slice (Row.of_own ho.ar)
  exact ⟨_, _, _, _, _, _, _, _, he, ho, hb⟩

end Go.Proofs.Ytbffnicfibfceaa.Ma
