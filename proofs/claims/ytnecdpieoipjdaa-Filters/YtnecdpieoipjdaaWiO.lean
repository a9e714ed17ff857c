/- What SameMsg gives of two messages that are one: true. -/
import Derived.Test.YtnecdpieoipjdaaMsA
namespace Go.Proofs.Ytnecdpieoipjdaa
open Go.RowKit
open Pl

set_option maxRecDepth 20000 in
theorem sameQ_yes (v v' : Value) (qs : List Qn) (w : World) (h : Row w v qs.length (qC qs)) (h' : Row w v' qs.length (qC qs)) (hm : qs.length ≤ maxLen) :
    Calls Try.prog 16 #[v, v'] w fun e w' => e = .returned (.bool true) ∧ Below w.heap.size w w' := by
  obtain ⟨n, hn⟩ : ∃ n, n = qs.length := ⟨_, rfl⟩
  unfold maxLen at hm
  have HN : Hid (n = qs.length) := hn
  rw [← hn] at h h' hm
  obtain ⟨x, c, rfl⟩ := row_slice h
  obtain ⟨x', c', rfl⟩ := row_slice h'
  have HR : Hid (Row w (.slice x n c) n (qC qs)) := h
  have HR' : Hid (Row w (.slice x' n c') n (qC qs)) := h'
  have hb : Below w.heap.size w w := Below.refl _ _
  clear h h' hn
  go_enter Try.func16, Try.ntmps16
  go_wp2
  go_loopw [5] (fun i wr => ∃ k : Nat, k ≤ n ∧ i = .int .i64 (k : Int) ∧ Below w.heap.size w wr) (fun i _ => n - (intOf i).toNat)
  case atStart => exact ⟨0, Nat.zero_le _, rfl, hb⟩
  case round =>
    clear hb
    obtain ⟨k, hk, rfl, hb⟩ := hrel
    by_cases hkn : k < n
    · have hkm : k < qs.length := by have := HN.out; omega
      have hkn' : (k : Int) < (n : Int) := by omega
      obtain ⟨g, o, cap, hx, hc⟩ := row_at (HR.out.below hb) (by omega)
      obtain ⟨g', o', cap', hx', hc'⟩ := row_at (HR'.out.below hb) (by omega)
      simp only [Value.slice.injEq] at hx hx'
      obtain ⟨rfl, -, rfl⟩ := hx
      obtain ⟨rfl, -, rfl⟩ := hx'
      obtain ⟨d0, d1, d2⟩ := q_cells hc hkm
      obtain ⟨e0, e1, e2⟩ := q_cells hc' hkm
      obtain ⟨q, hq⟩ : ∃ q, q = qs[k] := ⟨_, rfl⟩
      simp only [← hq] at d0 d1 d2 e0 e1 e2
      obtain ⟨qn, qt, qc⟩ := q
      simp only at d0 d1 d2 e0 e1 e2
      clear hc hq hc'
      go_wp2
      go_region
      go_wp2
      go_roundw
      case rel => exact ⟨k + 1, by omega, by go_num, next hb (below_drew ⟨1, rfl⟩)⟩
      case measure => simp [intOf]; omega
    · have hkn' : decide (k < n) = false := by simpa using hkn
      go_wp2
      go_ret
      exact ⟨rfl, hb⟩

set_option maxRecDepth 20000 in
theorem sameR_yes (v v' : Value) (qs : List Rc) (w : World) (h : Row w v qs.length (rC qs)) (h' : Row w v' qs.length (rC qs)) (hm : qs.length ≤ maxLen) :
    Calls Try.prog 17 #[v, v'] w fun e w' => e = .returned (.bool true) ∧ Below w.heap.size w w' := by
  obtain ⟨n, hn⟩ : ∃ n, n = qs.length := ⟨_, rfl⟩
  unfold maxLen at hm
  have HN : Hid (n = qs.length) := hn
  rw [← hn] at h h' hm
  obtain ⟨x, c, rfl⟩ := row_slice h
  obtain ⟨x', c', rfl⟩ := row_slice h'
  have HR : Hid (Row w (.slice x n c) n (rC qs)) := h
  have HR' : Hid (Row w (.slice x' n c') n (rC qs)) := h'
  have hb : Below w.heap.size w w := Below.refl _ _
  clear h h' hn
  go_enter Try.func17, Try.ntmps17
  go_wp2
  go_loopw [5] (fun i wr => ∃ k : Nat, k ≤ n ∧ i = .int .i64 (k : Int) ∧ Below w.heap.size w wr) (fun i _ => n - (intOf i).toNat)
  case atStart => exact ⟨0, Nat.zero_le _, rfl, hb⟩
  case round =>
    clear hb
    obtain ⟨k, hk, rfl, hb⟩ := hrel
    by_cases hkn : k < n
    · have hkm : k < qs.length := by have := HN.out; omega
      have hkn' : (k : Int) < (n : Int) := by omega
      obtain ⟨g, o, cap, hx, hc⟩ := row_at (HR.out.below hb) (by omega)
      obtain ⟨g', o', cap', hx', hc'⟩ := row_at (HR'.out.below hb) (by omega)
      simp only [Value.slice.injEq] at hx hx'
      obtain ⟨rfl, -, rfl⟩ := hx
      obtain ⟨rfl, -, rfl⟩ := hx'
      obtain ⟨d0, d1, d2, d3, d4⟩ := r_cells hc hkm
      obtain ⟨e0, e1, e2, e3, e4⟩ := r_cells hc' hkm
      obtain ⟨q, hq⟩ : ∃ q, q = qs[k] := ⟨_, rfl⟩
      simp only [← hq] at d0 d1 d2 d3 d4 e0 e1 e2 e3 e4
      obtain ⟨qn, qt, qc, ql, qd⟩ := q
      simp only at d0 d1 d2 d3 d4 e0 e1 e2 e3 e4
      clear hc hq hc'
      go_wp2
      go_region
      go_wp2
      go_roundw
      case rel => exact ⟨k + 1, by omega, by go_num, next hb (below_drew ⟨1, rfl⟩)⟩
      case measure => simp [intOf]; omega
    · have hkn' : decide (k < n) = false := by simpa using hkn
      go_wp2
      go_ret
      exact ⟨rfl, hb⟩

/-- The rows of a message, as they are read. -/
def MR (w : World) (v0 v1 v2 v3 : Value) (m : Ms) : Prop := Row w v0 m.qs.length (qC m.qs) ∧ Row w v1 m.an.length (rC m.an) ∧ Row w v2 m.ns.length (rC m.ns) ∧ Row w v3 m.ar.length (rC m.ar) ∧ m.qs.length ≤ maxLen ∧ m.an.length ≤ maxLen ∧ m.ns.length ≤ maxLen ∧ m.ar.length ≤ maxLen
theorem MR.below {w w' : World} {v0 v1 v2 v3 : Value} {m : Ms} (h : MR w v0 v1 v2 v3 m) (hb : Below w.heap.size w w') : MR w' v0 v1 v2 v3 m := ⟨h.1.below hb, h.2.1.below hb, h.2.2.1.below hb, h.2.2.2.1.below hb, h.2.2.2.2⟩

set_option maxRecDepth 20000 in
set_option maxHeartbeats 2000000 in
theorem sameMsg_yes (m : Ms) (v0 v1 v2 v3 u0 u1 u2 u3 : Value) (w : World) (a : MR w v0 v1 v2 v3 m) (b : MR w u0 u1 u2 u3 m) :
    Calls Try.prog 10 #[.agg (msgC m.h v0 v1 v2 v3), .agg (msgC m.h u0 u1 u2 u3)] w fun e w' => e = .returned (.bool true) ∧ Below w.heap.size w w' := by
  obtain ⟨hd, qs, an, ns, ar⟩ := m
  obtain ⟨id, qr, op, aa, tc, rd, ra, z, rc⟩ := hd
  obtain ⟨a0, a1, a2, a3, n0, n1, n2, n3⟩ := a
  obtain ⟨b0, b1, b2, b3, -⟩ := b
  simp only at a0 a1 a2 a3 b0 b1 b2 b3 n0 n1 n2 n3 ⊢
  obtain ⟨x0, c0, rfl⟩ := row_slice a0
  obtain ⟨x1, c1, rfl⟩ := row_slice a1
  obtain ⟨x2, c2, rfl⟩ := row_slice a2
  obtain ⟨x3, c3, rfl⟩ := row_slice a3
  obtain ⟨y0, d0, rfl⟩ := row_slice b0
  obtain ⟨y1, d1, rfl⟩ := row_slice b1
  obtain ⟨y2, d2, rfl⟩ := row_slice b2
  obtain ⟨y3, d3, rfl⟩ := row_slice b3
  have K0 : ∀ u, Hid (Below w.heap.size w u) → _ := fun u hu => sameQ_yes _ _ qs u (a0.below hu.out) (b0.below hu.out) n0
  have K1 : ∀ u, Hid (Below w.heap.size w u) → _ := fun u hu => sameR_yes _ _ an u (a1.below hu.out) (b1.below hu.out) n1
  have K2 : ∀ u, Hid (Below w.heap.size w u) → _ := fun u hu => sameR_yes _ _ ns u (a2.below hu.out) (b2.below hu.out) n2
  have K3 : ∀ u, Hid (Below w.heap.size w u) → _ := fun u hu => sameR_yes _ _ ar u (a3.below hu.out) (b3.below hu.out) n3
  unfold msgC
  simp only
  have KA := (Blk.new w #[.int .i64 id, .bool qr, .int .i64 op, .bool aa, .bool tc, .bool rd, .bool ra, .int .i64 z, .int .i64 rc, .slice x0 qs.length c0, .slice x1 an.length c1, .slice x2 ns.length c2, .slice x3 ar.length c3] 27).alloc (.cells #[.int .i64 id, .bool qr, .int .i64 op, .bool aa, .bool tc, .bool rd, .bool ra, .int .i64 z, .int .i64 rc, .slice y0 qs.length d0, .slice y1 an.length d1, .slice y2 ns.length d2, .slice y3 ar.length d3] 27)
  have KB := Blk.new (w.alloc (.cells #[.int .i64 id, .bool qr, .int .i64 op, .bool aa, .bool tc, .bool rd, .bool ra, .int .i64 z, .int .i64 rc, .slice x0 qs.length c0, .slice x1 an.length c1, .slice x2 ns.length c2, .slice x3 ar.length c3] 27)) #[.int .i64 id, .bool qr, .int .i64 op, .bool aa, .bool tc, .bool rd, .bool ra, .int .i64 z, .int .i64 rc, .slice y0 qs.length d0, .slice y1 an.length d1, .slice y2 ns.length d2, .slice y3 ar.length d3] 27
  have es : (w.alloc (.cells #[.int .i64 id, .bool qr, .int .i64 op, .bool aa, .bool tc, .bool rd, .bool ra, .int .i64 z, .int .i64 rc, .slice x0 qs.length c0, .slice x1 an.length c1, .slice x2 ns.length c2, .slice x3 ar.length c3] 27)).heap.size = w.heap.size + 1 := by simp
  rw [es] at KB
  have hb : Below w.heap.size w w := Below.refl _ _
  have t1 : True := trivial
  have t2 : True := trivial
  clear a0 a1 a2 a3 b0 b1 b2 b3 n0 n1 n2 n3 es
  go_enter Try.func10, Try.ntmps10
  go_wp2_with (first
    | (go_at_call 16; go_must (refine (K0 _ (lay (lay hb _) _)).mono ?_); rintro e w1 ⟨rfl, b1⟩; replace hb := next (lay (lay hb _) _) b1; replace KA := KA.below b1; replace KB := KB.below b1; have f10 : w1.cell? ⟨w.heap.size, 10, none⟩ = some (.slice x1 an.length c1) := KA.cell 10; have e10 : w1.cell? ⟨w.heap.size + 1, 10, none⟩ = some (.slice y1 an.length d1) := KB.cell 10; have f11 : w1.cell? ⟨w.heap.size, 11, none⟩ = some (.slice x2 ns.length c2) := KA.cell 11; have e11 : w1.cell? ⟨w.heap.size + 1, 11, none⟩ = some (.slice y2 ns.length d2) := KB.cell 11; have f12 : w1.cell? ⟨w.heap.size, 12, none⟩ = some (.slice x3 ar.length c3) := KA.cell 12; have e12 : w1.cell? ⟨w.heap.size + 1, 12, none⟩ = some (.slice y3 ar.length d3) := KB.cell 12; clear b1)
    | (go_at_call 17; have _t := t1; go_must (refine (K1 _ hb).mono ?_); rintro e w2 ⟨rfl, b1⟩; replace hb := next hb b1; replace KA := KA.below b1; replace KB := KB.below b1; clear f10 e10 f11 e11 f12 e12; have f11 : w2.cell? ⟨w.heap.size, 11, none⟩ = some (.slice x2 ns.length c2) := KA.cell 11; have e11 : w2.cell? ⟨w.heap.size + 1, 11, none⟩ = some (.slice y2 ns.length d2) := KB.cell 11; have f12 : w2.cell? ⟨w.heap.size, 12, none⟩ = some (.slice x3 ar.length c3) := KA.cell 12; have e12 : w2.cell? ⟨w.heap.size + 1, 12, none⟩ = some (.slice y3 ar.length d3) := KB.cell 12; clear b1 t1 _t)
    | (go_at_call 17; have _t := t2; go_must (refine (K2 _ hb).mono ?_); rintro e w3 ⟨rfl, b1⟩; replace hb := next hb b1; replace KA := KA.below b1; replace KB := KB.below b1; clear f11 e11 f12 e12; have f12 : w3.cell? ⟨w.heap.size, 12, none⟩ = some (.slice x3 ar.length c3) := KA.cell 12; have e12 : w3.cell? ⟨w.heap.size + 1, 12, none⟩ = some (.slice y3 ar.length d3) := KB.cell 12; clear b1 t2 _t)
    | (go_at_call 17; go_must (refine (K3 _ hb).mono ?_); rintro e w4 ⟨rfl, b1⟩; replace hb := next hb b1; clear b1))
  go_ret
  exact ⟨ret_bool (by simp), hb⟩

end Go.Proofs.Ytnecdpieoipjdaa
