/- What Reply of package match gives: the message, if it is a reply. -/
import Derived.Test.YtbffnicfibfceaaXP15
import Derived.Test.YtbffnicfibfceaaXP8
namespace Go.Proofs.Ytbffnicfibfceaa.Ma
open Go.RowKit
open Pl

/-- A reply to what asked one thing. -/
def isR (m : Ms) : Bool := m.h.qr && (m.h.op == 0 && m.qs.length == 1)
/-- What Reply gives: the message, the number of its error. -/
def rpM (s : ByteArray) : Ms := if gE s = 0 ∧ isR (gM s) = true then gM s else msZ
def rpE (s : ByteArray) : Int := if gE s = 0 ∧ isR (gM s) = true then 0 else 2000
def RpP (s : ByteArray) (w : World) (e : Ending) (w' : World) : Prop := ∃ v0 v1 v2 v3, e = .returned (.tuple #[.agg (msgC (rpM s).h v0 v1 v2 v3), .int .i64 (rpE s)]) ∧ Own w.heap.size w' v0 v1 v2 v3 (rpM s) ∧ Below w.heap.size w w'
theorem rp_z {s : ByteArray} (h : ¬ (gE s = 0 ∧ isR (gM s) = true)) : rpM s = msZ ∧ rpE s = 2000 := by unfold rpM rpE; rw [if_neg h, if_neg h]; exact ⟨rfl, rfl⟩
theorem rp_m {s : ByteArray} (h : gE s = 0 ∧ isR (gM s) = true) : rpM s = gM s ∧ rpE s = 0 := by unfold rpM rpE; rw [if_pos h, if_pos h]; exact ⟨rfl, rfl⟩
theorem rp_no {s : ByteArray} {w w' : World} (h : ¬ (gE s = 0 ∧ isR (gM s) = true)) (hb : Below w.heap.size w w') : RpP s w (.returned (.tuple #[.agg (msgC hdZ (.slice none 0 0) (.slice none 0 0) (.slice none 0 0) (.slice none 0 0)), .int .i64 2000])) w' := by
  unfold RpP
  rw [(rp_z h).1, (rp_z h).2]
  exact ⟨_, _, _, _, rfl, Own.none _ _, hb⟩
theorem rp_yes {s : ByteArray} {w w' : World} {m : Ms} {e : Ending} (hr : isR m = true) (hg : gM s = m ∧ gE s = 0) (h : ∃ v0 v1 v2 v3, e = .returned (.tuple #[.agg (msgC m.h v0 v1 v2 v3), .int .i64 0]) ∧ Own w.heap.size w' v0 v1 v2 v3 m ∧ Below w.heap.size w w') : RpP s w e w' := by
  unfold RpP
  have h1 := rp_m (s := s) ⟨hg.2, by rw [hg.1]; exact hr⟩
  rw [h1.1, h1.2, hg.1]
  exact h
theorem rpM_few (s : ByteArray) : (rpM s).qs.length ≤ 64 ∧ (rpM s).an.length ≤ 64 ∧ (rpM s).ns.length ≤ 64 ∧ (rpM s).ar.length ≤ 64 := by
  unfold rpM
  split
  · exact gM_few s
  · decide

set_option maxRecDepth 20000 in
set_option maxHeartbeats 2000000 in
theorem isReply_any (id : Int) (qr : Bool) (op : Int) (aa tc rd ra : Bool) (z rc : Int) (y0 : Option Addr) (n0 k0 : Nat) (v1 v2 v3 : Value) (w : World) (p : Bool) (hp : (qr && (op == 0 && n0 == 1)) = p) :
    Calls Try.prog 12 #[.agg #[.int .i64 id, .bool qr, .int .i64 op, .bool aa, .bool tc, .bool rd, .bool ra, .int .i64 z, .int .i64 rc, .slice y0 n0 k0, v1, v2, v3]] w fun e w' => e = .returned (.bool p) ∧ Below w.heap.size w w' := by
  have hb := lay (Below.refl w.heap.size w) (.cells #[.int .i64 id, .bool qr, .int .i64 op, .bool aa, .bool tc, .bool rd, .bool ra, .int .i64 z, .int .i64 rc, .slice y0 n0 k0, v1, v2, v3] 27)
  subst hp
  cases qr
  · go_enter Try.func12, Try.ntmps12
    go_wp2
    go_ret
    exact ⟨ret_bool (by simp), hb⟩
  · by_cases h1 : op = 0
    · subst h1
      by_cases h2 : n0 = 1
      · subst h2
        go_enter Try.func12, Try.ntmps12
        go_wp2
        go_ret
        exact ⟨ret_bool (by simp), hb⟩
      · have h2' : ((n0 : Int) == 1) = false := by simp; omega
        go_enter Try.func12, Try.ntmps12
        go_wp2
        go_ret
        exact ⟨ret_bool (by simp [h2]), hb⟩
    · have h1' : (op == 0) = false := by simpa using h1
      go_enter Try.func12, Try.ntmps12
      go_wp2
      go_ret
      exact ⟨ret_bool (by simp [h1]), hb⟩

set_option maxRecDepth 20000 in
set_option maxHeartbeats 2000000 in
theorem reply_bad (s : ByteArray) (id : Int) (qr : Bool) (op : Int) (aa tc rd ra : Bool) (z rc : Int) (qs : List Qn) (an ns ar : List Rc) (E : Int) (w : World) (hs : s.size ≤ maxLen) (h0 : E ≠ 0) (hg : gM s = ⟨⟨id, qr, op, aa, tc, rd, ra, z, rc⟩, qs, an, ns, ar⟩ ∧ gE s = E) :
    Calls Try.prog 5 #[.string s] w (RpP s w) := by
  have HG : Hid (gM s = ⟨⟨id, qr, op, aa, tc, rd, ra, z, rc⟩, qs, an, ns, ar⟩ ∧ gE s = E) := hg
  have h0' : (E == 0) = false := by simpa using h0
  have HNO : Hid (¬ (gE s = 0 ∧ isR (gM s) = true)) := by
    unfold Hid
    rw [hg.1, hg.2]
    exact fun h => h0 h.1
  clear hg
  have hb : Below w.heap.size w w := Below.refl _ _
  have hsz : Hid (w.heap.size.succ ≤ (w.alloc (.cells #[.int .i64 0, .bool false, .int .i64 0, .bool false, .bool false, .bool false, .bool false, .int .i64 0, .int .i64 0, .slice none 0 0, .slice none 0 0, .slice none 0 0, .slice none 0 0] 27)).heap.size) := by unfold Hid; rw [World.size_alloc]; omega
  have KR := Blk.new w (msgC hdZ (.slice none 0 0) (.slice none 0 0) (.slice none 0 0) (.slice none 0 0)) 27
  unfold msgC hdZ at KR
  simp only at KR
  go_enter Try.func5, Try.ntmps5
  go_wp2_with (first
    | (go_at_call 11; go_must (refine (get_h s id qr op aa tc rd ra z rc qs an ns ar E _ hs HG.out).mono ?_); rintro e w1 ⟨y0, y1, y2, y3, n0, n1, n2, n3, k0, k1, k2, k3, rfl, oo, bb⟩; obtain rfl := own_len oo.q; obtain rfl := own_len oo.an; obtain rfl := own_len oo.ns; obtain rfl := own_len oo.ar; have OO : Hid (Own w.heap.size.succ w1 (.slice y0 qs.length k0) (.slice y1 an.length k1) (.slice y2 ns.length k2) (.slice y3 ar.length k3) ⟨⟨id, qr, op, aa, tc, rd, ra, z, rc⟩, qs, an, ns, ar⟩ ∧ w.heap.size < w.heap.size.succ) := ⟨own_from oo hsz.out, Nat.lt_succ_self _⟩; replace KR := KR.below bb; replace hb := next (lay hb _) bb; have KM := Blk.new w1 #[.int .i64 id, .bool qr, .int .i64 op, .bool aa, .bool tc, .bool rd, .bool ra, .int .i64 z, .int .i64 rc, .slice y0 qs.length k0, .slice y1 an.length k1, .slice y2 ns.length k2, .slice y3 ar.length k3] 27; clear oo bb hsz; replace KR := KR.alloc (.cells #[.int .i64 id, .bool qr, .int .i64 op, .bool aa, .bool tc, .bool rd, .bool ra, .int .i64 z, .int .i64 rc, .slice y0 qs.length k0, .slice y1 an.length k1, .slice y2 ns.length k2, .slice y3 ar.length k3] 27); replace hb := lay hb (.cells #[.int .i64 id, .bool qr, .int .i64 op, .bool aa, .bool tc, .bool rd, .bool ra, .int .i64 z, .int .i64 rc, .slice y0 qs.length k0, .slice y1 an.length k1, .slice y2 ns.length k2, .slice y3 ar.length k3] 27); obtain ⟨f0, f1, f2, f3, f4, f5, f6, f7, f8, f9, f10, f11, f12⟩ := open13 KR; obtain ⟨z0, z1, z2, z3, z4, z5, z6, z7, z8, z9, z10, z11, z12⟩ := blk13 (h := hdZ) KR; unfold hdZ at z0 z1 z2 z3 z4 z5 z6 z7 z8; simp only at z0 z1 z2 z3 z4 z5 z6 z7 z8))
  obtain ⟨qb, q⟩ := zeroed hb KR
  have hno := HNO.out
  clear f0 f1 f2 f3 f4 f5 f6 f7 f8 f9 f10 f11 f12 z0 z1 z2 z3 z4 z5 z6 z7 z8 z9 z10 z11 z12
  unfold set13 hdZ at qb q
  simp only at qb q
  revert qb q
  generalize ((((((((((((((w1.alloc (.cells #[.int .i64 id, .bool qr, .int .i64 op, .bool aa, .bool tc, .bool rd, .bool ra, .int .i64 z, .int .i64 rc, .slice y0 qs.length k0, .slice y1 an.length k1, .slice y2 ns.length k2, .slice y3 ar.length k3] 27)).setCell ⟨w.heap.size, 0, none⟩ (.int .i64 0)).setCell ⟨w.heap.size, 1, none⟩ (.bool false)).setCell ⟨w.heap.size, 2, none⟩ (.int .i64 0)).setCell ⟨w.heap.size, 3, none⟩ (.bool false)).setCell ⟨w.heap.size, 4, none⟩ (.bool false)).setCell ⟨w.heap.size, 5, none⟩ (.bool false)).setCell ⟨w.heap.size, 6, none⟩ (.bool false)).setCell ⟨w.heap.size, 7, none⟩ (.int .i64 0)).setCell ⟨w.heap.size, 8, none⟩ (.int .i64 0)).setCell ⟨w.heap.size, 9, none⟩ (.slice none 0 0)).setCell ⟨w.heap.size, 10, none⟩ (.slice none 0 0)).setCell ⟨w.heap.size, 11, none⟩ (.slice none 0 0)).setCell ⟨w.heap.size, 12, none⟩ (.slice none 0 0)) = V
  intro qb q
  obtain ⟨m0, m1, m2, m3, m4, m5, m6, m7, m8, m9, m10, m11, m12⟩ := blk13 q
  exact bodyPost_ret (v := .tuple #[.agg (msgC hdZ (.slice none 0 0) (.slice none 0 0) (.slice none 0 0) (.slice none 0 0)), .int .i64 2000]) (by simp [results, Try.results5, go_sem, msgC, hdZ, m0, m1, m2, m3, m4, m5, m6, m7, m8, m9, m10, m11, m12]) rfl (rp_no hno qb)

set_option maxRecDepth 20000 in
set_option maxHeartbeats 2000000 in
theorem reply_not (s : ByteArray) (id : Int) (qr : Bool) (op : Int) (aa tc rd ra : Bool) (z rc : Int) (qs : List Qn) (an ns ar : List Rc) (w : World) (hs : s.size ≤ maxLen) (hp : (qr && (op == 0 && qs.length == 1)) = false) (hg : gM s = ⟨⟨id, qr, op, aa, tc, rd, ra, z, rc⟩, qs, an, ns, ar⟩ ∧ gE s = 0) :
    Calls Try.prog 5 #[.string s] w (RpP s w) := by
  have HG : Hid (gM s = ⟨⟨id, qr, op, aa, tc, rd, ra, z, rc⟩, qs, an, ns, ar⟩ ∧ gE s = 0) := hg
  have HP : Hid ((qr && (op == 0 && qs.length == 1)) = false) := hp
  have HNO : Hid (¬ (gE s = 0 ∧ isR (gM s) = true)) := by
    unfold Hid
    rw [hg.1, hg.2]
    exact fun h => by have := h.2; unfold isR at this; rw [hp] at this; simp at this
  clear hp
  clear hg
  have hb : Below w.heap.size w w := Below.refl _ _
  have hsz : Hid (w.heap.size.succ ≤ (w.alloc (.cells #[.int .i64 0, .bool false, .int .i64 0, .bool false, .bool false, .bool false, .bool false, .int .i64 0, .int .i64 0, .slice none 0 0, .slice none 0 0, .slice none 0 0, .slice none 0 0] 27)).heap.size) := by unfold Hid; rw [World.size_alloc]; omega
  have KR := Blk.new w (msgC hdZ (.slice none 0 0) (.slice none 0 0) (.slice none 0 0) (.slice none 0 0)) 27
  unfold msgC hdZ at KR
  simp only at KR
  go_enter Try.func5, Try.ntmps5
  go_wp2_with (first
    | (go_at_call 11; go_must (refine (get_h s id qr op aa tc rd ra z rc qs an ns ar 0 _ hs HG.out).mono ?_); rintro e w1 ⟨y0, y1, y2, y3, n0, n1, n2, n3, k0, k1, k2, k3, rfl, oo, bb⟩; obtain rfl := own_len oo.q; obtain rfl := own_len oo.an; obtain rfl := own_len oo.ns; obtain rfl := own_len oo.ar; have OO : Hid (Own w.heap.size.succ w1 (.slice y0 qs.length k0) (.slice y1 an.length k1) (.slice y2 ns.length k2) (.slice y3 ar.length k3) ⟨⟨id, qr, op, aa, tc, rd, ra, z, rc⟩, qs, an, ns, ar⟩ ∧ w.heap.size < w.heap.size.succ) := ⟨own_from oo hsz.out, Nat.lt_succ_self _⟩; replace KR := KR.below bb; replace hb := next (lay hb _) bb; have KM := Blk.new w1 #[.int .i64 id, .bool qr, .int .i64 op, .bool aa, .bool tc, .bool rd, .bool ra, .int .i64 z, .int .i64 rc, .slice y0 qs.length k0, .slice y1 an.length k1, .slice y2 ns.length k2, .slice y3 ar.length k3] 27; clear oo bb hsz)
    | (go_at_call 12; go_must (refine (isReply_any id qr op aa tc rd ra z rc _ _ _ _ _ _ _ false HP.out).mono ?_); rintro e w2 ⟨rfl, bb⟩; replace KR := (KR.alloc _).below bb; replace KM := KM.below bb; replace OO : Hid (Own w.heap.size.succ w2 (.slice y0 qs.length k0) (.slice y1 an.length k1) (.slice y2 ns.length k2) (.slice y3 ar.length k3) ⟨⟨id, qr, op, aa, tc, rd, ra, z, rc⟩, qs, an, ns, ar⟩ ∧ w.heap.size < w.heap.size.succ) := ⟨OO.out.1.below (next (lay (Below.refl _ _) _) bb), OO.out.2⟩; replace hb := next (lay hb _) bb; clear bb; obtain ⟨f0, f1, f2, f3, f4, f5, f6, f7, f8, f9, f10, f11, f12⟩ := open13 KR; obtain ⟨z0, z1, z2, z3, z4, z5, z6, z7, z8, z9, z10, z11, z12⟩ := blk13 (h := hdZ) KR; unfold hdZ at z0 z1 z2 z3 z4 z5 z6 z7 z8; simp only at z0 z1 z2 z3 z4 z5 z6 z7 z8; obtain ⟨c0, c1, c2, c3, c4, c5, c6, c7, c8, c9, c10, c11, c12⟩ := blk13 (h := ⟨id, qr, op, aa, tc, rd, ra, z, rc⟩) KM; simp only at c0 c1 c2 c3 c4 c5 c6 c7 c8))
  obtain ⟨qb, q⟩ := zeroed hb KR
  have hno := HNO.out
  clear f0 f1 f2 f3 f4 f5 f6 f7 f8 f9 f10 f11 f12 z0 z1 z2 z3 z4 z5 z6 z7 z8 z9 z10 z11 z12 c0 c1 c2 c3 c4 c5 c6 c7 c8 c9 c10 c11 c12
  unfold set13 hdZ at qb q
  simp only at qb q
  revert qb q
  generalize (((((((((((((w2.setCell ⟨w.heap.size, 0, none⟩ (.int .i64 0)).setCell ⟨w.heap.size, 1, none⟩ (.bool false)).setCell ⟨w.heap.size, 2, none⟩ (.int .i64 0)).setCell ⟨w.heap.size, 3, none⟩ (.bool false)).setCell ⟨w.heap.size, 4, none⟩ (.bool false)).setCell ⟨w.heap.size, 5, none⟩ (.bool false)).setCell ⟨w.heap.size, 6, none⟩ (.bool false)).setCell ⟨w.heap.size, 7, none⟩ (.int .i64 0)).setCell ⟨w.heap.size, 8, none⟩ (.int .i64 0)).setCell ⟨w.heap.size, 9, none⟩ (.slice none 0 0)).setCell ⟨w.heap.size, 10, none⟩ (.slice none 0 0)).setCell ⟨w.heap.size, 11, none⟩ (.slice none 0 0)).setCell ⟨w.heap.size, 12, none⟩ (.slice none 0 0)) = V
  intro qb q
  obtain ⟨m0, m1, m2, m3, m4, m5, m6, m7, m8, m9, m10, m11, m12⟩ := blk13 q
  exact bodyPost_ret (v := .tuple #[.agg (msgC hdZ (.slice none 0 0) (.slice none 0 0) (.slice none 0 0) (.slice none 0 0)), .int .i64 2000]) (by simp [results, Try.results5, go_sem, msgC, hdZ, m0, m1, m2, m3, m4, m5, m6, m7, m8, m9, m10, m11, m12]) rfl (rp_no hno qb)

set_option maxRecDepth 20000 in
set_option maxHeartbeats 2000000 in
theorem reply_yes (s : ByteArray) (id : Int) (qr : Bool) (op : Int) (aa tc rd ra : Bool) (z rc : Int) (qs : List Qn) (an ns ar : List Rc) (w : World) (hs : s.size ≤ maxLen) (hp : (qr && (op == 0 && qs.length == 1)) = true) (hg : gM s = ⟨⟨id, qr, op, aa, tc, rd, ra, z, rc⟩, qs, an, ns, ar⟩ ∧ gE s = 0) :
    Calls Try.prog 5 #[.string s] w (RpP s w) := by
  have HG : Hid (gM s = ⟨⟨id, qr, op, aa, tc, rd, ra, z, rc⟩, qs, an, ns, ar⟩ ∧ gE s = 0) := hg
  have HP : Hid ((qr && (op == 0 && qs.length == 1)) = true) := hp
  have HYE : Hid (isR ⟨⟨id, qr, op, aa, tc, rd, ra, z, rc⟩, qs, an, ns, ar⟩ = true) := hp
  clear hp
  clear hg
  have hb : Below w.heap.size w w := Below.refl _ _
  have hsz : Hid (w.heap.size.succ ≤ (w.alloc (.cells #[.int .i64 0, .bool false, .int .i64 0, .bool false, .bool false, .bool false, .bool false, .int .i64 0, .int .i64 0, .slice none 0 0, .slice none 0 0, .slice none 0 0, .slice none 0 0] 27)).heap.size) := by unfold Hid; rw [World.size_alloc]; omega
  have KR := Blk.new w (msgC hdZ (.slice none 0 0) (.slice none 0 0) (.slice none 0 0) (.slice none 0 0)) 27
  unfold msgC hdZ at KR
  simp only at KR
  go_enter Try.func5, Try.ntmps5
  go_wp2_with (first
    | (go_at_call 11; go_must (refine (get_h s id qr op aa tc rd ra z rc qs an ns ar 0 _ hs HG.out).mono ?_); rintro e w1 ⟨y0, y1, y2, y3, n0, n1, n2, n3, k0, k1, k2, k3, rfl, oo, bb⟩; obtain rfl := own_len oo.q; obtain rfl := own_len oo.an; obtain rfl := own_len oo.ns; obtain rfl := own_len oo.ar; have OO : Hid (Own w.heap.size.succ w1 (.slice y0 qs.length k0) (.slice y1 an.length k1) (.slice y2 ns.length k2) (.slice y3 ar.length k3) ⟨⟨id, qr, op, aa, tc, rd, ra, z, rc⟩, qs, an, ns, ar⟩ ∧ w.heap.size < w.heap.size.succ) := ⟨own_from oo hsz.out, Nat.lt_succ_self _⟩; replace KR := KR.below bb; replace hb := next (lay hb _) bb; have KM := Blk.new w1 #[.int .i64 id, .bool qr, .int .i64 op, .bool aa, .bool tc, .bool rd, .bool ra, .int .i64 z, .int .i64 rc, .slice y0 qs.length k0, .slice y1 an.length k1, .slice y2 ns.length k2, .slice y3 ar.length k3] 27; clear oo bb hsz)
    | (go_at_call 12; go_must (refine (isReply_any id qr op aa tc rd ra z rc _ _ _ _ _ _ _ true HP.out).mono ?_); rintro e w2 ⟨rfl, bb⟩; replace KR := (KR.alloc _).below bb; replace KM := KM.below bb; replace OO : Hid (Own w.heap.size.succ w2 (.slice y0 qs.length k0) (.slice y1 an.length k1) (.slice y2 ns.length k2) (.slice y3 ar.length k3) ⟨⟨id, qr, op, aa, tc, rd, ra, z, rc⟩, qs, an, ns, ar⟩ ∧ w.heap.size < w.heap.size.succ) := ⟨OO.out.1.below (next (lay (Below.refl _ _) _) bb), OO.out.2⟩; replace hb := next (lay hb _) bb; clear bb; obtain ⟨f0, f1, f2, f3, f4, f5, f6, f7, f8, f9, f10, f11, f12⟩ := open13 KR; obtain ⟨z0, z1, z2, z3, z4, z5, z6, z7, z8, z9, z10, z11, z12⟩ := blk13 (h := hdZ) KR; unfold hdZ at z0 z1 z2 z3 z4 z5 z6 z7 z8; simp only at z0 z1 z2 z3 z4 z5 z6 z7 z8; obtain ⟨c0, c1, c2, c3, c4, c5, c6, c7, c8, c9, c10, c11, c12⟩ := blk13 (h := ⟨id, qr, op, aa, tc, rd, ra, z, rc⟩) KM; simp only at c0 c1 c2 c3 c4 c5 c6 c7 c8))
  have hlt := OO.out.2
  have q := set13_blk (h := ⟨id, qr, op, aa, tc, rd, ra, z, rc⟩) (v0 := .slice y0 qs.length k0) (v1 := .slice y1 an.length k1) (v2 := .slice y2 ns.length k2) (v3 := .slice y3 ar.length k3) (h' := hdZ) KR
  have qb := Turn.below hb (set13_turn w2 w.heap.size ⟨id, qr, op, aa, tc, rd, ra, z, rc⟩ (.slice y0 qs.length k0) (.slice y1 an.length k1) (.slice y2 ns.length k2) (.slice y3 ar.length k3)) hb.size (fun i e => by omega)
  have qo := own_turn OO.out.1 (set13_turn w2 w.heap.size ⟨id, qr, op, aa, tc, rd, ra, z, rc⟩ (.slice y0 qs.length k0) (.slice y1 an.length k1) (.slice y2 ns.length k2) (.slice y3 ar.length k3)) (by omega)
  have hye := HYE.out
  have hg := HG.out
  clear f0 f1 f2 f3 f4 f5 f6 f7 f8 f9 f10 f11 f12 z0 z1 z2 z3 z4 z5 z6 z7 z8 z9 z10 z11 z12 c0 c1 c2 c3 c4 c5 c6 c7 c8 c9 c10 c11 c12
  unfold set13 at qb q qo
  simp only at qb q qo
  revert qb q qo
  generalize (((((((((((((w2.setCell ⟨w.heap.size, 0, none⟩ (.int .i64 id)).setCell ⟨w.heap.size, 1, none⟩ (.bool qr)).setCell ⟨w.heap.size, 2, none⟩ (.int .i64 op)).setCell ⟨w.heap.size, 3, none⟩ (.bool aa)).setCell ⟨w.heap.size, 4, none⟩ (.bool tc)).setCell ⟨w.heap.size, 5, none⟩ (.bool rd)).setCell ⟨w.heap.size, 6, none⟩ (.bool ra)).setCell ⟨w.heap.size, 7, none⟩ (.int .i64 z)).setCell ⟨w.heap.size, 8, none⟩ (.int .i64 rc)).setCell ⟨w.heap.size, 9, none⟩ (.slice y0 qs.length k0)).setCell ⟨w.heap.size, 10, none⟩ (.slice y1 an.length k1)).setCell ⟨w.heap.size, 11, none⟩ (.slice y2 ns.length k2)).setCell ⟨w.heap.size, 12, none⟩ (.slice y3 ar.length k3)) = V
  intro q qb qo
  obtain ⟨m0, m1, m2, m3, m4, m5, m6, m7, m8, m9, m10, m11, m12⟩ := blk13 q
  exact bodyPost_ret (v := .tuple #[.agg (msgC ⟨id, qr, op, aa, tc, rd, ra, z, rc⟩ (.slice y0 qs.length k0) (.slice y1 an.length k1) (.slice y2 ns.length k2) (.slice y3 ar.length k3)), .int .i64 0]) (by simp [results, Try.results5, go_sem, msgC, m0, m1, m2, m3, m4, m5, m6, m7, m8, m9, m10, m11, m12]) rfl (rp_yes hye hg ⟨_, _, _, _, rfl, own_from qo (by omega), qb⟩)

theorem reply_w (s : ByteArray) (w : World) (hs : s.size ≤ maxLen) : Calls Try.prog 5 #[.string s] w (RpP s w) := by
  obtain ⟨x, hx⟩ : ∃ x, gM s = x := ⟨_, rfl⟩
  obtain ⟨⟨id, qr, op, aa, tc, rd, ra, z, rc⟩, qs, an, ns, ar⟩ := x
  by_cases h0 : gE s = 0
  · cases hp : (qr && (op == 0 && qs.length == 1)) with
    | true => exact reply_yes s id qr op aa tc rd ra z rc qs an ns ar w hs hp ⟨hx, h0⟩
    | false => exact reply_not s id qr op aa tc rd ra z rc qs an ns ar w hs hp ⟨hx, h0⟩
  · exact reply_bad s id qr op aa tc rd ra z rc qs an ns ar _ w hs h0 ⟨hx, rfl⟩
/-- .. where it is known what it gives. -/
theorem reply_h (s : ByteArray) (id : Int) (qr : Bool) (op : Int) (aa tc rd ra : Bool) (z rc : Int) (qs : List Qn) (an ns ar : List Rc) (E : Int) (w : World) (hs : s.size ≤ maxLen) (h : rpM s = ⟨⟨id, qr, op, aa, tc, rd, ra, z, rc⟩, qs, an, ns, ar⟩ ∧ rpE s = E) :
    Calls Try.prog 5 #[.string s] w fun e w' => ∃ (y0 y1 y2 y3 : Option Addr) (k0 k1 k2 k3 : Nat), e = .returned (.tuple #[.agg #[.int .i64 id, .bool qr, .int .i64 op, .bool aa, .bool tc, .bool rd, .bool ra, .int .i64 z, .int .i64 rc, .slice y0 qs.length k0, .slice y1 an.length k1, .slice y2 ns.length k2, .slice y3 ar.length k3], .int .i64 E]) ∧ Own w.heap.size w' (.slice y0 qs.length k0) (.slice y1 an.length k1) (.slice y2 ns.length k2) (.slice y3 ar.length k3) ⟨⟨id, qr, op, aa, tc, rd, ra, z, rc⟩, qs, an, ns, ar⟩ ∧ Below w.heap.size w w' := by
  have := reply_w s w hs
  unfold RpP at this
  rw [h.1, h.2] at this
  refine this.mono fun e w' ⟨v0, v1, v2, v3, he, ho, hb⟩ => ?_
  obtain ⟨y0, k0, rfl⟩ := row_slice (Row.of_own ho.q)
  obtain ⟨y1, k1, rfl⟩ := row_slice (Row.of_own ho.an)
  obtain ⟨y2, k2, rfl⟩ := row_slice (Row.of_own ho.ns)
  obtain ⟨y3, k3, rfl⟩ := row_slice (Row.of_own ho.ar)
  exact ⟨_, _, _, _, _, _, _, _, he, ho, hb⟩

end Go.Proofs.Ytbffnicfibfceaa.Ma
