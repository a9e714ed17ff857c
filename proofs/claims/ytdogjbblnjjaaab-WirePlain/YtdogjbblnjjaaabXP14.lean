/- What Get of package wire gives: a header, and what stands behind it. -/
import Derived.Test.YtdogjbblnjjaaabXP13
namespace Go.Proofs.Ytdogjbblnjjaaab
open Go.RowKit
open Pl

theorem ga_start {w w1 : World} (s : ByteArray) (id : Int) (qr : Bool) (op : Int) (aa tc rd ra : Bool) (z rc : Int) (n0 n1 n2 n3 : Nat) (h12 : 12 ≤ s.size) (kb : Below w.heap.size w w1) (kz : Blk w1 w.heap.size (msgC hdZ (.slice none 0 0) (.slice none 0 0) (.slice none 0 0) (.slice none 0 0)) 33) :
    GA w ((((w1.alloc (.cells #[.int .i64 id, .bool qr, .int .i64 op, .bool aa, .bool tc, .bool rd, .bool ra, .int .i64 z, .int .i64 rc] 29)).alloc (.cells #[.int .i64 (n0 : Int), .int .i64 (n1 : Int), .int .i64 (n2 : Int), .int .i64 (n3 : Int)] 47)).alloc (.cells #[.string s, .int .i64 12, .bool false] 52)).alloc (.cells #[.int .i64 id, .bool qr, .int .i64 op, .bool aa, .bool tc, .bool rd, .bool ra, .int .i64 z, .int .i64 rc, .slice none 0 0, .slice none 0 0, .slice none 0 0, .slice none 0 0] 33)) (w1.heap.size + 1 + 1) (w1.heap.size + 1) (w1.heap.size + 1 + 1 + 1) s 12 false #[.int .i64 (n0 : Int), .int .i64 (n1 : Int), .int .i64 (n2 : Int), .int .i64 (n3 : Int)] (msgC ⟨id, qr, op, aa, tc, rd, ra, z, rc⟩ (.slice none 0 0) (.slice none 0 0) (.slice none 0 0) (.slice none 0 0)) := by
  have e1 : (w1.alloc (.cells #[.int .i64 id, .bool qr, .int .i64 op, .bool aa, .bool tc, .bool rd, .bool ra, .int .i64 z, .int .i64 rc] 29)).heap.size = w1.heap.size + 1 := by simp
  have e2 : ((w1.alloc (.cells #[.int .i64 id, .bool qr, .int .i64 op, .bool aa, .bool tc, .bool rd, .bool ra, .int .i64 z, .int .i64 rc] 29)).alloc (.cells #[.int .i64 (n0 : Int), .int .i64 (n1 : Int), .int .i64 (n2 : Int), .int .i64 (n3 : Int)] 47)).heap.size = w1.heap.size + 1 + 1 := by simp
  have e3 : (((w1.alloc (.cells #[.int .i64 id, .bool qr, .int .i64 op, .bool aa, .bool tc, .bool rd, .bool ra, .int .i64 z, .int .i64 rc] 29)).alloc (.cells #[.int .i64 (n0 : Int), .int .i64 (n1 : Int), .int .i64 (n2 : Int), .int .i64 (n3 : Int)] 47)).alloc (.cells #[.string s, .int .i64 12, .bool false] 52)).heap.size = w1.heap.size + 1 + 1 + 1 := by simp
  have k2 := ((Blk.new (w1.alloc (.cells #[.int .i64 id, .bool qr, .int .i64 op, .bool aa, .bool tc, .bool rd, .bool ra, .int .i64 z, .int .i64 rc] 29)) #[.int .i64 (n0 : Int), .int .i64 (n1 : Int), .int .i64 (n2 : Int), .int .i64 (n3 : Int)] 47).alloc (.cells #[.string s, .int .i64 12, .bool false] 52)).alloc (.cells #[.int .i64 id, .bool qr, .int .i64 op, .bool aa, .bool tc, .bool rd, .bool ra, .int .i64 z, .int .i64 rc, .slice none 0 0, .slice none 0 0, .slice none 0 0, .slice none 0 0] 33)
  have k3 := (Blk.new ((w1.alloc (.cells #[.int .i64 id, .bool qr, .int .i64 op, .bool aa, .bool tc, .bool rd, .bool ra, .int .i64 z, .int .i64 rc] 29)).alloc (.cells #[.int .i64 (n0 : Int), .int .i64 (n1 : Int), .int .i64 (n2 : Int), .int .i64 (n3 : Int)] 47)) #[.string s, .int .i64 12, .bool false] 52).alloc (.cells #[.int .i64 id, .bool qr, .int .i64 op, .bool aa, .bool tc, .bool rd, .bool ra, .int .i64 z, .int .i64 rc, .slice none 0 0, .slice none 0 0, .slice none 0 0, .slice none 0 0] 33)
  have k4 := Blk.new (((w1.alloc (.cells #[.int .i64 id, .bool qr, .int .i64 op, .bool aa, .bool tc, .bool rd, .bool ra, .int .i64 z, .int .i64 rc] 29)).alloc (.cells #[.int .i64 (n0 : Int), .int .i64 (n1 : Int), .int .i64 (n2 : Int), .int .i64 (n3 : Int)] 47)).alloc (.cells #[.string s, .int .i64 12, .bool false] 52)) #[.int .i64 id, .bool qr, .int .i64 op, .bool aa, .bool tc, .bool rd, .bool ra, .int .i64 z, .int .i64 rc, .slice none 0 0, .slice none 0 0, .slice none 0 0, .slice none 0 0] 33
  rw [e1] at k2
  rw [e2] at k3
  rw [e3] at k4
  have hlt := kz.lt
  exact ⟨⟨k3, h12⟩, lay (lay (lay (lay kb _) _) _) _, (((kz.alloc _).alloc _).alloc _).alloc _, k2, k4, by omega, by omega, by omega, k4.lt⟩

/-- What stands behind a header, as getM says it. -/
theorem get_fin {s : ByteArray} {qs : List Qn} {an ns ar : List Rc} {p3 : Nat} {b3 : Bool} (h12 : 12 ≤ s.size) (hs : s.size ≤ 4096) (h : (b3 = false ∧ parts s = some ((qs, an, ns, ar), p3)) ∨ (b3 = true ∧ parts s = none)) :
    (b3 = false → p3 = s.size → gM s = ⟨hdOf s, qs, an, ns, ar⟩ ∧ gE s = 0) ∧ (b3 = false → p3 ≠ s.size → gM s = msZ ∧ gE s = 700) ∧ (b3 = true → gM s = msZ ∧ gE s = 700) := by
  refine ⟨fun hb hp => ?_, fun hb hp => ?_, fun hb => ?_⟩
  · rcases h with ⟨_, h⟩ | ⟨e, _⟩
    · exact g_some hs (by unfold getM; rw [if_pos h12, h]; simp only; rw [if_pos hp])
    · rw [hb] at e; simp at e
  · rcases h with ⟨_, h⟩ | ⟨e, _⟩
    · exact g_none hs (by unfold getM; rw [if_pos h12, h]; simp only; rw [if_neg hp])
    · rw [hb] at e; simp at e
  · rcases h with ⟨e, _⟩ | ⟨_, h⟩
    · rw [hb] at e; simp at e
    · exact g_none hs (by unfold getM; rw [if_pos h12, h])

/-- The rows that were read. -/
structure Rows4 (w : World) (gm B0 B1 B2 B3 : Nat) (v0 v1 v2 v3 : Value) (qs : List Qn) (an ns ar : List Rc) : Prop where
  q : w.ownsRow B0 38 3 v0 qs.length (qC qs)
  an : w.ownsRow B1 25 5 v1 an.length (rC an)
  ns : w.ownsRow B2 25 5 v2 ns.length (rC ns)
  ar : w.ownsRow B3 25 5 v3 ar.length (rC ar)
  a1 : ∀ k, v1.ownBlock = some k → k < B2
  a2 : ∀ k, v2.ownBlock = some k → k < B3
  b0 : gm < B0
  b1 : gm < B1
  b2 : gm < B2
  b3 : gm < B3
  b23 : B2 ≤ B3
theorem Rows4.own {w : World} {gm B0 B1 B2 B3 : Nat} {v0 v1 v2 v3 : Value} {qs : List Qn} {an ns ar : List Rc} (h : Rows4 w gm B0 B1 B2 B3 v0 v1 v2 v3 qs an ns ar) {B : Nat} (hB : B ≤ gm) (hd : Hd) : Own B w v0 v1 v2 v3 ⟨hd, qs, an, ns, ar⟩ :=
  ⟨own_base h.q (by have := h.b0; omega), own_base h.an (by have := h.b1; omega), own_base h.ns (by have := h.b2; omega), own_base h.ar (by have := h.b3; omega),
   fun k e1 e2 => by have := h.a1 k e1; have := (h.ns.lt k e2).1; omega, fun k e1 e2 => by have := h.a1 k e1; have := (h.ar.lt k e2).1; have := h.b23; omega, fun k e1 e2 => by have := h.a2 k e1; have := (h.ar.lt k e2).1; omega⟩
theorem Rows4.turn {w w' : World} {g gm B0 B1 B2 B3 : Nat} {v0 v1 v2 v3 : Value} {qs : List Qn} {an ns ar : List Rc} (h : Rows4 w gm B0 B1 B2 B3 v0 v1 v2 v3 qs an ns ar) (ht : Turn (fun k => k = g) w w') (hg : g ≤ gm) : Rows4 w' gm B0 B1 B2 B3 v0 v1 v2 v3 qs an ns ar :=
  ⟨ht.row h.q (fun k hk e => by have := (h.q.lt k hk).1; have := h.b0; omega), ht.row h.an (fun k hk e => by have := (h.an.lt k hk).1; have := h.b1; omega), ht.row h.ns (fun k hk e => by have := (h.ns.lt k hk).1; have := h.b2; omega), ht.row h.ar (fun k hk e => by have := (h.ar.lt k hk).1; have := h.b3; omega), h.a1, h.a2, h.b0, h.b1, h.b2, h.b3, h.b23⟩

theorem Rows4.one {w : World} {gm B0 n : Nat} {v0 : Value} {qs : List Qn} (h : w.ownsRow B0 38 3 v0 n (qC qs)) (hn : n = qs.length) (hb : gm < B0) : Rows4 w gm B0 B0 B0 B0 v0 (.slice none 0 0) (.slice none 0 0) (.slice none 0 0) qs [] [] [] :=
  ⟨by rw [← hn]; exact h, World.ownsRow_nil _ _ _ _, World.ownsRow_nil _ _ _ _, World.ownsRow_nil _ _ _ _, fun k e => by simp [Value.ownBlock] at e, fun k e => by simp [Value.ownBlock] at e, hb, hb, hb, hb, Nat.le_refl _⟩
theorem Rows4.add1 {w : World} {gm B0 C1 C2 C3 B1 : Nat} {v0 v1 : Value} {qs : List Qn} {an : List Rc} (h : Rows4 w gm B0 C1 C2 C3 v0 (.slice none 0 0) (.slice none 0 0) (.slice none 0 0) qs [] [] []) (o : w.ownsRow B1 25 5 v1 an.length (rC an)) (hb : gm < B1) (hw : gm < w.heap.size) : Rows4 w gm B0 B1 w.heap.size w.heap.size v0 v1 (.slice none 0 0) (.slice none 0 0) qs an [] [] :=
  ⟨h.q, o, World.ownsRow_nil _ _ _ _, World.ownsRow_nil _ _ _ _, fun k e => (o.lt k e).2, fun k e => by simp [Value.ownBlock] at e, h.b0, hb, hw, hw, Nat.le_refl _⟩
theorem Rows4.add2 {w : World} {gm B0 B1 B2 C3 B : Nat} {v0 v1 v2 : Value} {qs : List Qn} {an ns : List Rc} (h : Rows4 w gm B0 B1 B2 C3 v0 v1 (.slice none 0 0) (.slice none 0 0) qs an [] []) (o : w.ownsRow B 25 5 v2 ns.length (rC ns)) (hb : B2 ≤ B) (hw : B2 ≤ w.heap.size) : Rows4 w gm B0 B1 B2 w.heap.size v0 v1 v2 (.slice none 0 0) qs an ns [] :=
  ⟨h.q, h.an, own_base o hb, World.ownsRow_nil _ _ _ _, h.a1, fun k e => (o.lt k e).2, h.b0, h.b1, h.b2, by have := h.b2; omega, hw⟩
theorem Rows4.add3 {w : World} {gm B0 B1 B2 B3 B : Nat} {v0 v1 v2 v3 : Value} {qs : List Qn} {an ns ar : List Rc} (h : Rows4 w gm B0 B1 B2 B3 v0 v1 v2 (.slice none 0 0) qs an ns []) (o : w.ownsRow B 25 5 v3 ar.length (rC ar)) (hb : B3 ≤ B) : Rows4 w gm B0 B1 B2 B3 v0 v1 v2 v3 qs an ns ar :=
  ⟨h.q, h.an, h.ns, own_base o hb, h.a1, h.a2, h.b0, h.b1, h.b2, h.b3, h.b23⟩
theorem Rows4.put {w : World} {gm B0 B1 B2 B3 : Nat} {v0 v1 v2 v3 : Value} {qs : List Qn} {an ns ar : List Rc} (h : Rows4 w gm B0 B1 B2 B3 v0 v1 v2 v3 qs an ns ar) (i : Nat) (x : Value) : Rows4 (w.setCell ⟨gm, i, none⟩ x) gm B0 B1 B2 B3 v0 v1 v2 v3 qs an ns ar :=
  h.turn (g := gm) (Turn.of_set (S := fun k => k = gm) w (p := ⟨gm, i, none⟩) rfl x) (Nat.le_refl _)
theorem set_size (w : World) (p : Addr) (v : Value) : (w.setCell p v).heap.size = w.heap.size := by simp

set_option maxRecDepth 20000 in
set_option maxHeartbeats 8000000 in
theorem get_main (s : ByteArray) (w : World) (h12 : 12 ≤ s.size) (hs : s.size ≤ 4096) :
    Calls Try.prog 6 #[.string s] w (GetP s w) := by
  have hm : s.size ≤ maxLen := by unfold maxLen; omega
  have hl' : decide ((4096 : Int) < (s.size : Int)) = false := by simp; omega
  have kz := Blk.new w (msgC hdZ (.slice none 0 0) (.slice none 0 0) (.slice none 0 0) (.slice none 0 0)) 33
  have kb : Below w.heap.size w _ := lay (Below.refl _ _) (.cells (msgC hdZ (.slice none 0 0) (.slice none 0 0) (.slice none 0 0) (.slice none 0 0)) 33)
  have hcall := fun u => get_yes s u hm h12
  simp only [cntC_as, headW_as] at hcall
  have l0 := cnt_lt s 0
  have l1 := cnt_lt s 1
  have l2 := cnt_lt s 2
  have l3 := cnt_lt s 3
  have HF : Hid (∀ (qs : List Qn) (an ns ar : List Rc) (p0 p1 p2 p3 : Nat) (b0 b1 b2 b3 : Bool), ((b0 = false ∧ false = false ∧ part (getQ s) (cnt s 0) 12 = some (qs, p0)) ∨ (b0 = true ∧ (false = true ∨ part (getQ s) (cnt s 0) 12 = none))) →
    ((b1 = false ∧ b0 = false ∧ part (getR s) (cnt s 1) p0 = some (an, p1)) ∨ (b1 = true ∧ (b0 = true ∨ part (getR s) (cnt s 1) p0 = none))) →
    ((b2 = false ∧ b1 = false ∧ part (getR s) (cnt s 2) p1 = some (ns, p2)) ∨ (b2 = true ∧ (b1 = true ∨ part (getR s) (cnt s 2) p1 = none))) →
    ((b3 = false ∧ b2 = false ∧ part (getR s) (cnt s 3) p2 = some (ar, p3)) ∨ (b3 = true ∧ (b2 = true ∨ part (getR s) (cnt s 3) p2 = none))) →
    (b3 = false → p3 = s.size → gM s = ⟨hdOf s, qs, an, ns, ar⟩ ∧ gE s = 0) ∧ (b3 = false → p3 ≠ s.size → gM s = msZ ∧ gE s = 700) ∧ (b3 = true → gM s = msZ ∧ gE s = 700)) :=
    fun qs an ns ar p0 p1 p2 p3 b0 b1 b2 b3 a0 a1 a2 a3 => get_fin h12 hs (parts_fin a0 a1 a2 a3)
  obtain ⟨n0, e0⟩ : ∃ n, n = cnt s 0 := ⟨_, rfl⟩
  obtain ⟨n1, e1⟩ : ∃ n, n = cnt s 1 := ⟨_, rfl⟩
  obtain ⟨n2, e2⟩ : ∃ n, n = cnt s 2 := ⟨_, rfl⟩
  obtain ⟨n3, e3⟩ : ∃ n, n = cnt s 3 := ⟨_, rfl⟩
  obtain ⟨hd, ehd⟩ : ∃ hd, hd = hdOf s := ⟨_, rfl⟩
  rw [← e0, ← e1, ← e2, ← e3, ← ehd] at HF
  simp only [← e0, ← e1, ← e2, ← e3, ← ehd] at hcall l0 l1 l2 l3
  clear e0 e1 e2 e3 ehd
  obtain ⟨id, qr, op, aa, tc, rd, ra, z, rc⟩ := hd
  unfold headV cntV at hcall
  simp only at hcall
  have t1 : True := trivial
  have t2 : True := trivial
  have t3 : True := trivial
  go_enter Try.func6, Try.ntmps6
  go_wp2_with (first
    | (go_at_call 11; go_must (refine (hcall _).mono ?_); rintro e w1 ⟨rfl, b1⟩; replace kz := kz.below b1; replace kb := next kb b1; have klt := kz.lt; clear b1)
    | (go_at_call 12; have j := ga_start s id qr op aa tc rd ra z rc n0 n1 n2 n3 h12 kb kz; have hB0 := j.n4; obtain ⟨W, hW⟩ : ∃ W, W = ((((w1.alloc (.cells #[.int .i64 id, .bool qr, .int .i64 op, .bool aa, .bool tc, .bool rd, .bool ra, .int .i64 z, .int .i64 rc] 29)).alloc (.cells #[.int .i64 (n0 : Int), .int .i64 (n1 : Int), .int .i64 (n2 : Int), .int .i64 (n3 : Int)] 47)).alloc (.cells #[.string s, .int .i64 12, .bool false] 52)).alloc (.cells #[.int .i64 id, .bool qr, .int .i64 op, .bool aa, .bool tc, .bool rd, .bool ra, .int .i64 z, .int .i64 rc, .slice none 0 0, .slice none 0 0, .slice none 0 0, .slice none 0 0] 33)) := ⟨_, rfl⟩; rw [← hW] at j hB0 ⊢; clear kz kb hcall; go_must (refine (getPartQ_r n0 l0 hs j.rd).mono ?_); rintro e w2 ⟨v0, qs, p0, b0, rfl, r, u, o0, a0⟩; replace j := j.step r u; obtain ⟨y0, k0, rfl⟩ := row_shape o0; have A0 : Hid _ := a0; have OO : Hid (Rows4 w2 (w1.heap.size + 1 + 1 + 1) W.heap.size W.heap.size W.heap.size W.heap.size (.slice y0 qs.length k0) (.slice none 0 0) (.slice none 0 0) (.slice none 0 0) qs [] [] []) := Rows4.one o0 rfl hB0; have fz := j.msg.frozen 9; have cl : w2.cell? ⟨(w1.heap.size + 1 + 1 + 1), 9, none⟩ = some (.slice none 0 0) := j.msg.cell 9; have cc : w2.cell? ⟨(w1.heap.size + 1), 1, none⟩ = some (.int .i64 (n1 : Int)) := j.cnt.cell 1; clear r u o0 a0 hW hB0)
    | (go_at_call 14; have _t := t1; replace j := j.put 9 (.slice y0 qs.length k0) (msgC ⟨id, qr, op, aa, tc, rd, ra, z, rc⟩ (.slice y0 qs.length k0) (.slice none 0 0) (.slice none 0 0) (.slice none 0 0)) rfl; go_must (refine (getPartR_r n1 l1 hs j.rd).mono ?_); rintro e w3 ⟨v1, an, p1, b1, rfl, r, u, o1, a1⟩; have hB := j.n4; replace j := j.step r u; obtain ⟨y1, k1, rfl⟩ := row_shape o1; have A1 : Hid _ := a1; have O1 : Hid (Rows4 w3 (w1.heap.size + 1 + 1 + 1) W.heap.size w2.heap.size w3.heap.size w3.heap.size (.slice y0 qs.length k0) (.slice y1 an.length k1) (.slice none 0 0) (.slice none 0 0) qs an [] []) := Rows4.add1 ((OO.out.put 9 (.slice y0 qs.length k0)).turn u (by omega)) (by rw [set_size] at o1; exact o1) (by rw [set_size] at hB; exact hB) j.n4; clear fz cl cc; have fz := j.msg.frozen 10; have cl : w3.cell? ⟨(w1.heap.size + 1 + 1 + 1), 10, none⟩ = some (.slice none 0 0) := j.msg.cell 10; have cc : w3.cell? ⟨(w1.heap.size + 1), 2, none⟩ = some (.int .i64 (n2 : Int)) := j.cnt.cell 2; clear r u o1 a1 hB OO t1 _t)
    | (go_at_call 14; have _t := t2; replace j := j.put 10 (.slice y1 an.length k1) (msgC ⟨id, qr, op, aa, tc, rd, ra, z, rc⟩ (.slice y0 qs.length k0) (.slice y1 an.length k1) (.slice none 0 0) (.slice none 0 0)) rfl; go_must (refine (getPartR_r n2 l2 hs j.rd).mono ?_); rintro e w4 ⟨v2, ns, p2, b2, rfl, r, u, o2, a2⟩; replace j := j.step r u; obtain ⟨y2, k2, rfl⟩ := row_shape o2; have A2 : Hid _ := a2; have O2 : Hid (Rows4 w4 (w1.heap.size + 1 + 1 + 1) W.heap.size w2.heap.size w3.heap.size w4.heap.size (.slice y0 qs.length k0) (.slice y1 an.length k1) (.slice y2 ns.length k2) (.slice none 0 0) qs an ns []) := Rows4.add2 ((O1.out.put 10 (.slice y1 an.length k1)).turn u (by omega)) o2 (by rw [set_size]; exact Nat.le_refl _) (by have := u.size; rw [set_size] at this; exact this); clear fz cl cc; have fz := j.msg.frozen 11; have cl : w4.cell? ⟨(w1.heap.size + 1 + 1 + 1), 11, none⟩ = some (.slice none 0 0) := j.msg.cell 11; have cc : w4.cell? ⟨(w1.heap.size + 1), 3, none⟩ = some (.int .i64 (n3 : Int)) := j.cnt.cell 3; clear r u o2 a2 O1 t2 _t)
    | (go_at_call 14; replace j := j.put 11 (.slice y2 ns.length k2) (msgC ⟨id, qr, op, aa, tc, rd, ra, z, rc⟩ (.slice y0 qs.length k0) (.slice y1 an.length k1) (.slice y2 ns.length k2) (.slice none 0 0)) rfl; go_must (refine (getPartR_r n3 l3 hs j.rd).mono ?_); rintro e w5 ⟨v3, ar, p3, b3, rfl, r, u, o3, a3⟩; replace j := j.step r u; obtain ⟨y3, k3, rfl⟩ := row_shape o3; have HG : Hid _ := HF.out qs an ns ar p0 p1 p2 p3 b0 b1 b2 b3 A0.out A1.out A2.out a3; have O3 : Hid (Rows4 w5 (w1.heap.size + 1 + 1 + 1) W.heap.size w2.heap.size w3.heap.size w4.heap.size (.slice y0 qs.length k0) (.slice y1 an.length k1) (.slice y2 ns.length k2) (.slice y3 ar.length k3) qs an ns ar) := Rows4.add3 ((O2.out.put 11 (.slice y2 ns.length k2)).turn u (by omega)) o3 (by rw [set_size]; exact Nat.le_refl _); clear fz cl cc; have fz := j.msg.frozen 12; obtain ⟨c0, c1, c2, c3, c4, c5, c6, c7, c8, c9, c10, c11, c12⟩ := blk13 j.msg; obtain ⟨x0, x1, x2, x3, x4, x5, x6, x7, x8, x9, x10, x11, x12⟩ := blk13 j.res; obtain ⟨f0, f1, f2, f3, f4, f5, f6, f7, f8, f9, f10, f11, f12⟩ := open13 j.res; obtain ⟨g0, g1, g2⟩ := j.rd.cells; clear r u o3 a3 O2 HF A0 A1 A2; cases b3))
  all_goals replace j := j.put 12 (.slice y3 ar.length k3) (msgC ⟨id, qr, op, aa, tc, rd, ra, z, rc⟩ (.slice y0 qs.length k0) (.slice y1 an.length k1) (.slice y2 ns.length k2) (.slice y3 ar.length k3)) rfl
  · rename_i hp
    have hp' : p3 ≠ s.size := by simp at hp; omega
    obtain ⟨qb, q⟩ := zeroed j.bel j.res
    clear j c0 c1 c2 c3 c4 c5 c6 c7 c8 c9 c10 c11 c12 x0 x1 x2 x3 x4 x5 x6 x7 x8 x9 x10 x11 x12 f0 f1 f2 f3 f4 f5 f6 f7 f8 f9 f10 f11 f12
    unfold set13 hdZ at qb q
    simp only at qb q
    revert qb q
    generalize ((((((((((((((w5.setCell ⟨(w1.heap.size + 1 + 1 + 1), 12, none⟩ (.slice y3 ar.length k3)).setCell ⟨w.heap.size, 0, none⟩ (.int .i64 0)).setCell ⟨w.heap.size, 1, none⟩ (.bool false)).setCell ⟨w.heap.size, 2, none⟩ (.int .i64 0)).setCell ⟨w.heap.size, 3, none⟩ (.bool false)).setCell ⟨w.heap.size, 4, none⟩ (.bool false)).setCell ⟨w.heap.size, 5, none⟩ (.bool false)).setCell ⟨w.heap.size, 6, none⟩ (.bool false)).setCell ⟨w.heap.size, 7, none⟩ (.int .i64 0)).setCell ⟨w.heap.size, 8, none⟩ (.int .i64 0)).setCell ⟨w.heap.size, 9, none⟩ (.slice none 0 0)).setCell ⟨w.heap.size, 10, none⟩ (.slice none 0 0)).setCell ⟨w.heap.size, 11, none⟩ (.slice none 0 0)).setCell ⟨w.heap.size, 12, none⟩ (.slice none 0 0)) = Z
    intro qb q
    obtain ⟨m0, m1, m2, m3, m4, m5, m6, m7, m8, m9, m10, m11, m12⟩ := blk13 q
    refine bodyPost_ret (v := .tuple #[.agg (msgC hdZ (.slice none 0 0) (.slice none 0 0) (.slice none 0 0) (.slice none 0 0)), .int .i64 700]) (by simp [results, Try.results6, go_sem, msgC, hdZ, m0, m1, m2, m3, m4, m5, m6, m7, m8, m9, m10, m11, m12]) rfl (getP_no (HG.out.2.1 trivial hp') qb)
  · rename_i hp
    have hp' : p3 = s.size := by simp at hp; omega
    have q := set13_blk (h := ⟨id, qr, op, aa, tc, rd, ra, z, rc⟩) (v0 := (.slice y0 qs.length k0)) (v1 := (.slice y1 an.length k1)) (v2 := (.slice y2 ns.length k2)) (v3 := (.slice y3 ar.length k3)) j.res
    have qb := Turn.below j.bel (set13_turn (w5.setCell ⟨(w1.heap.size + 1 + 1 + 1), 12, none⟩ (.slice y3 ar.length k3)) w.heap.size ⟨id, qr, op, aa, tc, rd, ra, z, rc⟩ (.slice y0 qs.length k0) (.slice y1 an.length k1) (.slice y2 ns.length k2) (.slice y3 ar.length k3)) j.bel.size (fun i e => by omega)
    have qo := ((O3.out.put 12 (.slice y3 ar.length k3)).turn (set13_turn (w5.setCell ⟨(w1.heap.size + 1 + 1 + 1), 12, none⟩ (.slice y3 ar.length k3)) w.heap.size ⟨id, qr, op, aa, tc, rd, ra, z, rc⟩ (.slice y0 qs.length k0) (.slice y1 an.length k1) (.slice y2 ns.length k2) (.slice y3 ar.length k3)) (by omega)).own (B := w.heap.size) (by omega) ⟨id, qr, op, aa, tc, rd, ra, z, rc⟩
    have hg := HG.out.1 trivial hp'
    clear j c0 c1 c2 c3 c4 c5 c6 c7 c8 c9 c10 c11 c12 x0 x1 x2 x3 x4 x5 x6 x7 x8 x9 x10 x11 x12 f0 f1 f2 f3 f4 f5 f6 f7 f8 f9 f10 f11 f12
    unfold set13 at qb q qo
    simp only at qb q qo
    revert qb q qo
    generalize ((((((((((((((w5.setCell ⟨(w1.heap.size + 1 + 1 + 1), 12, none⟩ (.slice y3 ar.length k3)).setCell ⟨w.heap.size, 0, none⟩ (.int .i64 id)).setCell ⟨w.heap.size, 1, none⟩ (.bool qr)).setCell ⟨w.heap.size, 2, none⟩ (.int .i64 op)).setCell ⟨w.heap.size, 3, none⟩ (.bool aa)).setCell ⟨w.heap.size, 4, none⟩ (.bool tc)).setCell ⟨w.heap.size, 5, none⟩ (.bool rd)).setCell ⟨w.heap.size, 6, none⟩ (.bool ra)).setCell ⟨w.heap.size, 7, none⟩ (.int .i64 z)).setCell ⟨w.heap.size, 8, none⟩ (.int .i64 rc)).setCell ⟨w.heap.size, 9, none⟩ (.slice y0 qs.length k0)).setCell ⟨w.heap.size, 10, none⟩ (.slice y1 an.length k1)).setCell ⟨w.heap.size, 11, none⟩ (.slice y2 ns.length k2)).setCell ⟨w.heap.size, 12, none⟩ (.slice y3 ar.length k3)) = Z
    intro q qb qo
    obtain ⟨m0, m1, m2, m3, m4, m5, m6, m7, m8, m9, m10, m11, m12⟩ := blk13 q
    refine bodyPost_ret (v := .tuple #[.agg (msgC ⟨id, qr, op, aa, tc, rd, ra, z, rc⟩ (.slice y0 qs.length k0) (.slice y1 an.length k1) (.slice y2 ns.length k2) (.slice y3 ar.length k3)), .int .i64 0]) (by simp [results, Try.results6, go_sem, msgC, m0, m1, m2, m3, m4, m5, m6, m7, m8, m9, m10, m11, m12]) rfl ?_
    unfold GetP
    rw [hg.1, hg.2]
    exact ⟨_, _, _, _, rfl, qo, qb⟩
  · skip
    obtain ⟨qb, q⟩ := zeroed j.bel j.res
    clear j c0 c1 c2 c3 c4 c5 c6 c7 c8 c9 c10 c11 c12 x0 x1 x2 x3 x4 x5 x6 x7 x8 x9 x10 x11 x12 f0 f1 f2 f3 f4 f5 f6 f7 f8 f9 f10 f11 f12
    unfold set13 hdZ at qb q
    simp only at qb q
    revert qb q
    generalize ((((((((((((((w5.setCell ⟨(w1.heap.size + 1 + 1 + 1), 12, none⟩ (.slice y3 ar.length k3)).setCell ⟨w.heap.size, 0, none⟩ (.int .i64 0)).setCell ⟨w.heap.size, 1, none⟩ (.bool false)).setCell ⟨w.heap.size, 2, none⟩ (.int .i64 0)).setCell ⟨w.heap.size, 3, none⟩ (.bool false)).setCell ⟨w.heap.size, 4, none⟩ (.bool false)).setCell ⟨w.heap.size, 5, none⟩ (.bool false)).setCell ⟨w.heap.size, 6, none⟩ (.bool false)).setCell ⟨w.heap.size, 7, none⟩ (.int .i64 0)).setCell ⟨w.heap.size, 8, none⟩ (.int .i64 0)).setCell ⟨w.heap.size, 9, none⟩ (.slice none 0 0)).setCell ⟨w.heap.size, 10, none⟩ (.slice none 0 0)).setCell ⟨w.heap.size, 11, none⟩ (.slice none 0 0)).setCell ⟨w.heap.size, 12, none⟩ (.slice none 0 0)) = Z
    intro qb q
    obtain ⟨m0, m1, m2, m3, m4, m5, m6, m7, m8, m9, m10, m11, m12⟩ := blk13 q
    refine bodyPost_ret (v := .tuple #[.agg (msgC hdZ (.slice none 0 0) (.slice none 0 0) (.slice none 0 0) (.slice none 0 0)), .int .i64 700]) (by simp [results, Try.results6, go_sem, msgC, hdZ, m0, m1, m2, m3, m4, m5, m6, m7, m8, m9, m10, m11, m12]) rfl (getP_no (HG.out.2.2 trivial) qb)

theorem get_w (s : ByteArray) (w : World) (hs : s.size ≤ maxLen) : Calls Try.prog 6 #[.string s] w (GetP s w) := by
  by_cases h1 : s.size ≤ 4096
  · by_cases h2 : 12 ≤ s.size
    · exact get_main s w h2 h1
    · exact get_few12 s w (by omega)
  · exact get_long s w hs h1

end Go.Proofs.Ytdogjbblnjjaaab

/- What SameMsg gives of two messages that are one: true. -/
namespace Go.Proofs.Ytdogjbblnjjaaab
open Go.RowKit
open Pl

set_option maxRecDepth 20000 in
theorem sameQ_yes (v v' : Value) (qs : List Qn) (w : World) (h : Row w v qs.length (qC qs)) (h' : Row w v' qs.length (qC qs)) (hm : qs.length ≤ maxLen) :
    Calls Try.prog 25 #[v, v'] w fun e w' => e = .returned (.bool true) ∧ Below w.heap.size w w' := by
  obtain ⟨n, hn⟩ : ∃ n, n = qs.length := ⟨_, rfl⟩
  unfold maxLen at hm
  have HN : Hid (n = qs.length) := hn
  rw [← hn] at h h' hm
  obtain ⟨x, c, rfl⟩ := row_slice h
  obtain ⟨x', c', rfl⟩ := row_slice h'
  have HR : Hid (Row w (.slice x n c) n (qC qs)) := h
  have HR' : Hid (Row w (.slice x' n c') n (qC qs)) := h'
  have hb : Below w.heap.size w w := Below.refl _ _
  clear h h' hn
  go_enter Try.func25, Try.ntmps25
  go_wp2
  go_loopw [5] (fun i wr => ∃ k : Nat, k ≤ n ∧ i = .int .i64 (k : Int) ∧ Below w.heap.size w wr) (fun i _ => n - (intOf i).toNat)
  case atStart => exact ⟨0, Nat.zero_le _, rfl, hb⟩
  case round =>
    clear hb
    obtain ⟨k, hk, rfl, hb⟩ := hrel
    by_cases hkn : k < n
    · have hkm : k < qs.length := by have := HN.out; omega
      have hkn' : (k : Int) < (n : Int) := by omega
      obtain ⟨g, o, cap, hx, hc⟩ := row_at (HR.out.below hb) (by omega)
      obtain ⟨g', o', cap', hx', hc'⟩ := row_at (HR'.out.below hb) (by omega)
      simp only [Value.slice.injEq] at hx hx'
      obtain ⟨rfl, -, rfl⟩ := hx
      obtain ⟨rfl, -, rfl⟩ := hx'
      obtain ⟨d0, d1, d2⟩ := q_cells hc hkm
      obtain ⟨e0, e1, e2⟩ := q_cells hc' hkm
      obtain ⟨q, hq⟩ : ∃ q, q = qs[k] := ⟨_, rfl⟩
      simp only [← hq] at d0 d1 d2 e0 e1 e2
      obtain ⟨qn, qt, qc⟩ := q
      simp only at d0 d1 d2 e0 e1 e2
      clear hc hq hc'
      go_wp2
      go_region
      go_wp2
      go_roundw
      case rel => exact ⟨k + 1, by omega, by go_num, next hb (below_drew ⟨1, rfl⟩)⟩
      case measure => simp [intOf]; omega
    · have hkn' : decide (k < n) = false := by simpa using hkn
      go_wp2
      go_ret
      exact ⟨rfl, hb⟩

set_option maxRecDepth 20000 in
theorem sameR_yes (v v' : Value) (qs : List Rc) (w : World) (h : Row w v qs.length (rC qs)) (h' : Row w v' qs.length (rC qs)) (hm : qs.length ≤ maxLen) :
    Calls Try.prog 26 #[v, v'] w fun e w' => e = .returned (.bool true) ∧ Below w.heap.size w w' := by
  obtain ⟨n, hn⟩ : ∃ n, n = qs.length := ⟨_, rfl⟩
  unfold maxLen at hm
  have HN : Hid (n = qs.length) := hn
  rw [← hn] at h h' hm
  obtain ⟨x, c, rfl⟩ := row_slice h
  obtain ⟨x', c', rfl⟩ := row_slice h'
  have HR : Hid (Row w (.slice x n c) n (rC qs)) := h
  have HR' : Hid (Row w (.slice x' n c') n (rC qs)) := h'
  have hb : Below w.heap.size w w := Below.refl _ _
  clear h h' hn
  go_enter Try.func26, Try.ntmps26
  go_wp2
  go_loopw [5] (fun i wr => ∃ k : Nat, k ≤ n ∧ i = .int .i64 (k : Int) ∧ Below w.heap.size w wr) (fun i _ => n - (intOf i).toNat)
  case atStart => exact ⟨0, Nat.zero_le _, rfl, hb⟩
  case round =>
    clear hb
    obtain ⟨k, hk, rfl, hb⟩ := hrel
    by_cases hkn : k < n
    · have hkm : k < qs.length := by have := HN.out; omega
      have hkn' : (k : Int) < (n : Int) := by omega
      obtain ⟨g, o, cap, hx, hc⟩ := row_at (HR.out.below hb) (by omega)
      obtain ⟨g', o', cap', hx', hc'⟩ := row_at (HR'.out.below hb) (by omega)
      simp only [Value.slice.injEq] at hx hx'
      obtain ⟨rfl, -, rfl⟩ := hx
      obtain ⟨rfl, -, rfl⟩ := hx'
      obtain ⟨d0, d1, d2, d3, d4⟩ := r_cells hc hkm
      obtain ⟨e0, e1, e2, e3, e4⟩ := r_cells hc' hkm
      obtain ⟨q, hq⟩ : ∃ q, q = qs[k] := ⟨_, rfl⟩
      simp only [← hq] at d0 d1 d2 d3 d4 e0 e1 e2 e3 e4
      obtain ⟨qn, qt, qc, ql, qd⟩ := q
      simp only at d0 d1 d2 d3 d4 e0 e1 e2 e3 e4
      clear hc hq hc'
      go_wp2
      go_region
      go_wp2
      go_roundw
      case rel => exact ⟨k + 1, by omega, by go_num, next hb (below_drew ⟨1, rfl⟩)⟩
      case measure => simp [intOf]; omega
    · have hkn' : decide (k < n) = false := by simpa using hkn
      go_wp2
      go_ret
      exact ⟨rfl, hb⟩

/-- The rows of a message, as they are read. -/
def MR (w : World) (v0 v1 v2 v3 : Value) (m : Ms) : Prop := Row w v0 m.qs.length (qC m.qs) ∧ Row w v1 m.an.length (rC m.an) ∧ Row w v2 m.ns.length (rC m.ns) ∧ Row w v3 m.ar.length (rC m.ar) ∧ m.qs.length ≤ maxLen ∧ m.an.length ≤ maxLen ∧ m.ns.length ≤ maxLen ∧ m.ar.length ≤ maxLen
theorem MR.below {w w' : World} {v0 v1 v2 v3 : Value} {m : Ms} (h : MR w v0 v1 v2 v3 m) (hb : Below w.heap.size w w') : MR w' v0 v1 v2 v3 m := ⟨h.1.below hb, h.2.1.below hb, h.2.2.1.below hb, h.2.2.2.1.below hb, h.2.2.2.2⟩

set_option maxRecDepth 20000 in
set_option maxHeartbeats 2000000 in
theorem sameMsg_yes (m : Ms) (v0 v1 v2 v3 u0 u1 u2 u3 : Value) (w : World) (a : MR w v0 v1 v2 v3 m) (b : MR w u0 u1 u2 u3 m) :
    Calls Try.prog 9 #[.agg (msgC m.h v0 v1 v2 v3), .agg (msgC m.h u0 u1 u2 u3)] w fun e w' => e = .returned (.bool true) ∧ Below w.heap.size w w' := by
  obtain ⟨hd, qs, an, ns, ar⟩ := m
  obtain ⟨id, qr, op, aa, tc, rd, ra, z, rc⟩ := hd
  obtain ⟨a0, a1, a2, a3, n0, n1, n2, n3⟩ := a
  obtain ⟨b0, b1, b2, b3, -⟩ := b
  simp only at a0 a1 a2 a3 b0 b1 b2 b3 n0 n1 n2 n3 ⊢
  obtain ⟨x0, c0, rfl⟩ := row_slice a0
  obtain ⟨x1, c1, rfl⟩ := row_slice a1
  obtain ⟨x2, c2, rfl⟩ := row_slice a2
  obtain ⟨x3, c3, rfl⟩ := row_slice a3
  obtain ⟨y0, d0, rfl⟩ := row_slice b0
  obtain ⟨y1, d1, rfl⟩ := row_slice b1
  obtain ⟨y2, d2, rfl⟩ := row_slice b2
  obtain ⟨y3, d3, rfl⟩ := row_slice b3
  have K0 : ∀ u, Hid (Below w.heap.size w u) → _ := fun u hu => sameQ_yes _ _ qs u (a0.below hu.out) (b0.below hu.out) n0
  have K1 : ∀ u, Hid (Below w.heap.size w u) → _ := fun u hu => sameR_yes _ _ an u (a1.below hu.out) (b1.below hu.out) n1
  have K2 : ∀ u, Hid (Below w.heap.size w u) → _ := fun u hu => sameR_yes _ _ ns u (a2.below hu.out) (b2.below hu.out) n2
  have K3 : ∀ u, Hid (Below w.heap.size w u) → _ := fun u hu => sameR_yes _ _ ar u (a3.below hu.out) (b3.below hu.out) n3
  unfold msgC
  simp only
  have KA := (Blk.new w #[.int .i64 id, .bool qr, .int .i64 op, .bool aa, .bool tc, .bool rd, .bool ra, .int .i64 z, .int .i64 rc, .slice x0 qs.length c0, .slice x1 an.length c1, .slice x2 ns.length c2, .slice x3 ar.length c3] 33).alloc (.cells #[.int .i64 id, .bool qr, .int .i64 op, .bool aa, .bool tc, .bool rd, .bool ra, .int .i64 z, .int .i64 rc, .slice y0 qs.length d0, .slice y1 an.length d1, .slice y2 ns.length d2, .slice y3 ar.length d3] 33)
  have KB := Blk.new (w.alloc (.cells #[.int .i64 id, .bool qr, .int .i64 op, .bool aa, .bool tc, .bool rd, .bool ra, .int .i64 z, .int .i64 rc, .slice x0 qs.length c0, .slice x1 an.length c1, .slice x2 ns.length c2, .slice x3 ar.length c3] 33)) #[.int .i64 id, .bool qr, .int .i64 op, .bool aa, .bool tc, .bool rd, .bool ra, .int .i64 z, .int .i64 rc, .slice y0 qs.length d0, .slice y1 an.length d1, .slice y2 ns.length d2, .slice y3 ar.length d3] 33
  have es : (w.alloc (.cells #[.int .i64 id, .bool qr, .int .i64 op, .bool aa, .bool tc, .bool rd, .bool ra, .int .i64 z, .int .i64 rc, .slice x0 qs.length c0, .slice x1 an.length c1, .slice x2 ns.length c2, .slice x3 ar.length c3] 33)).heap.size = w.heap.size + 1 := by simp
  rw [es] at KB
  have hb : Below w.heap.size w w := Below.refl _ _
  have t1 : True := trivial
  have t2 : True := trivial
  clear a0 a1 a2 a3 b0 b1 b2 b3 n0 n1 n2 n3 es
  go_enter Try.func9, Try.ntmps9
  go_wp2_with (first
    | (go_at_call 25; go_must (refine (K0 _ (lay (lay hb _) _)).mono ?_); rintro e w1 ⟨rfl, b1⟩; replace hb := next (lay (lay hb _) _) b1; replace KA := KA.below b1; replace KB := KB.below b1; have f10 : w1.cell? ⟨w.heap.size, 10, none⟩ = some (.slice x1 an.length c1) := KA.cell 10; have e10 : w1.cell? ⟨w.heap.size + 1, 10, none⟩ = some (.slice y1 an.length d1) := KB.cell 10; have f11 : w1.cell? ⟨w.heap.size, 11, none⟩ = some (.slice x2 ns.length c2) := KA.cell 11; have e11 : w1.cell? ⟨w.heap.size + 1, 11, none⟩ = some (.slice y2 ns.length d2) := KB.cell 11; have f12 : w1.cell? ⟨w.heap.size, 12, none⟩ = some (.slice x3 ar.length c3) := KA.cell 12; have e12 : w1.cell? ⟨w.heap.size + 1, 12, none⟩ = some (.slice y3 ar.length d3) := KB.cell 12; clear b1)
    | (go_at_call 26; have _t := t1; go_must (refine (K1 _ hb).mono ?_); rintro e w2 ⟨rfl, b1⟩; replace hb := next hb b1; replace KA := KA.below b1; replace KB := KB.below b1; clear f10 e10 f11 e11 f12 e12; have f11 : w2.cell? ⟨w.heap.size, 11, none⟩ = some (.slice x2 ns.length c2) := KA.cell 11; have e11 : w2.cell? ⟨w.heap.size + 1, 11, none⟩ = some (.slice y2 ns.length d2) := KB.cell 11; have f12 : w2.cell? ⟨w.heap.size, 12, none⟩ = some (.slice x3 ar.length c3) := KA.cell 12; have e12 : w2.cell? ⟨w.heap.size + 1, 12, none⟩ = some (.slice y3 ar.length d3) := KB.cell 12; clear b1 t1 _t)
    | (go_at_call 26; have _t := t2; go_must (refine (K2 _ hb).mono ?_); rintro e w3 ⟨rfl, b1⟩; replace hb := next hb b1; replace KA := KA.below b1; replace KB := KB.below b1; clear f11 e11 f12 e12; have f12 : w3.cell? ⟨w.heap.size, 12, none⟩ = some (.slice x3 ar.length c3) := KA.cell 12; have e12 : w3.cell? ⟨w.heap.size + 1, 12, none⟩ = some (.slice y3 ar.length d3) := KB.cell 12; clear b1 t2 _t)
    | (go_at_call 26; go_must (refine (K3 _ hb).mono ?_); rintro e w4 ⟨rfl, b1⟩; replace hb := next hb b1; clear b1))
  go_ret
  exact ⟨ret_bool (by simp), hb⟩

end Go.Proofs.Ytdogjbblnjjaaab
