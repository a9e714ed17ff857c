/- What Get of package wire gives: a header, and what stands behind it. -/
import Derived.Test.YtbffnicfibfceaaXP6
namespace Go.Proofs.Ytbffnicfibfceaa
open Go.RowKit
open Pl

theorem ga_start {w w1 : World} (s : ByteArray) (id : Int) (qr : Bool) (op : Int) (aa tc rd ra : Bool) (z rc : Int) (n0 n1 n2 n3 : Nat) (h12 : 12 ≤ s.size) (kb : Below w.heap.size w w1) (kz : Blk w1 w.heap.size (msgC hdZ (.slice none 0 0) (.slice none 0 0) (.slice none 0 0) (.slice none 0 0)) 27) :
    GA w ((((w1.alloc (.cells #[.int .i64 id, .bool qr, .int .i64 op, .bool aa, .bool tc, .bool rd, .bool ra, .int .i64 z, .int .i64 rc] 23)).alloc (.cells #[.int .i64 (n0 : Int), .int .i64 (n1 : Int), .int .i64 (n2 : Int), .int .i64 (n3 : Int)] 48)).alloc (.cells #[.string s, .int .i64 12, .bool false] 62)).alloc (.cells #[.int .i64 id, .bool qr, .int .i64 op, .bool aa, .bool tc, .bool rd, .bool ra, .int .i64 z, .int .i64 rc, .slice none 0 0, .slice none 0 0, .slice none 0 0, .slice none 0 0] 27)) (w1.heap.size + 1 + 1) (w1.heap.size + 1) (w1.heap.size + 1 + 1 + 1) s 12 false #[.int .i64 (n0 : Int), .int .i64 (n1 : Int), .int .i64 (n2 : Int), .int .i64 (n3 : Int)] (msgC ⟨id, qr, op, aa, tc, rd, ra, z, rc⟩ (.slice none 0 0) (.slice none 0 0) (.slice none 0 0) (.slice none 0 0)) := by
  have e1 : (w1.alloc (.cells #[.int .i64 id, .bool qr, .int .i64 op, .bool aa, .bool tc, .bool rd, .bool ra, .int .i64 z, .int .i64 rc] 23)).heap.size = w1.heap.size + 1 := by simp
  have e2 : ((w1.alloc (.cells #[.int .i64 id, .bool qr, .int .i64 op, .bool aa, .bool tc, .bool rd, .bool ra, .int .i64 z, .int .i64 rc] 23)).alloc (.cells #[.int .i64 (n0 : Int), .int .i64 (n1 : Int), .int .i64 (n2 : Int), .int .i64 (n3 : Int)] 48)).heap.size = w1.heap.size + 1 + 1 := by simp
  have e3 : (((w1.alloc (.cells #[.int .i64 id, .bool qr, .int .i64 op, .bool aa, .bool tc, .bool rd, .bool ra, .int .i64 z, .int .i64 rc] 23)).alloc (.cells #[.int .i64 (n0 : Int), .int .i64 (n1 : Int), .int .i64 (n2 : Int), .int .i64 (n3 : Int)] 48)).alloc (.cells #[.string s, .int .i64 12, .bool false] 62)).heap.size = w1.heap.size + 1 + 1 + 1 := by simp
  have k2 := ((Blk.new (w1.alloc (.cells #[.int .i64 id, .bool qr, .int .i64 op, .bool aa, .bool tc, .bool rd, .bool ra, .int .i64 z, .int .i64 rc] 23)) #[.int .i64 (n0 : Int), .int .i64 (n1 : Int), .int .i64 (n2 : Int), .int .i64 (n3 : Int)] 48).alloc (.cells #[.string s, .int .i64 12, .bool false] 62)).alloc (.cells #[.int .i64 id, .bool qr, .int .i64 op, .bool aa, .bool tc, .bool rd, .bool ra, .int .i64 z, .int .i64 rc, .slice none 0 0, .slice none 0 0, .slice none 0 0, .slice none 0 0] 27)
  have k3 := (Blk.new ((w1.alloc (.cells #[.int .i64 id, .bool qr, .int .i64 op, .bool aa, .bool tc, .bool rd, .bool ra, .int .i64 z, .int .i64 rc] 23)).alloc (.cells #[.int .i64 (n0 : Int), .int .i64 (n1 : Int), .int .i64 (n2 : Int), .int .i64 (n3 : Int)] 48)) #[.string s, .int .i64 12, .bool false] 62).alloc (.cells #[.int .i64 id, .bool qr, .int .i64 op, .bool aa, .bool tc, .bool rd, .bool ra, .int .i64 z, .int .i64 rc, .slice none 0 0, .slice none 0 0, .slice none 0 0, .slice none 0 0] 27)
  have k4 := Blk.new (((w1.alloc (.cells #[.int .i64 id, .bool qr, .int .i64 op, .bool aa, .bool tc, .bool rd, .bool ra, .int .i64 z, .int .i64 rc] 23)).alloc (.cells #[.int .i64 (n0 : Int), .int .i64 (n1 : Int), .int .i64 (n2 : Int), .int .i64 (n3 : Int)] 48)).alloc (.cells #[.string s, .int .i64 12, .bool false] 62)) #[.int .i64 id, .bool qr, .int .i64 op, .bool aa, .bool tc, .bool rd, .bool ra, .int .i64 z, .int .i64 rc, .slice none 0 0, .slice none 0 0, .slice none 0 0, .slice none 0 0] 27
  rw [e1] at k2
  rw [e2] at k3
  rw [e3] at k4
  have hlt := kz.lt
  exact ⟨⟨k3, h12⟩, lay (lay (lay (lay kb _) _) _) _, (((kz.alloc _).alloc _).alloc _).alloc _, k2, k4, by omega, by omega, by omega, k4.lt⟩

/-- What stands behind a header, as getM says it. -/
theorem get_fin {s : ByteArray} {qs : List Qn} {an ns ar : List Rc} {p3 : Nat} {b3 : Bool} (h12 : 12 ≤ s.size) (hs : s.size ≤ 4096) (h : (b3 = false ∧ parts s = some ((qs, an, ns, ar), p3)) ∨ (b3 = true ∧ parts s = none)) :
    (b3 = false → p3 = s.size → gM s = ⟨hdOf s, qs, an, ns, ar⟩ ∧ gE s = 0) ∧ (b3 = false → p3 ≠ s.size → gM s = msZ ∧ gE s = 700) ∧ (b3 = true → gM s = msZ ∧ gE s = 700) := by
  refine ⟨fun hb hp => ?_, fun hb hp => ?_, fun hb => ?_⟩
  · rcases h with ⟨_, h⟩ | ⟨e, _⟩
    · exact g_some hs (by unfold getM; rw [if_pos h12, h]; simp only; rw [if_pos hp])
    · rw [hb] at e; simp at e
  · rcases h with ⟨_, h⟩ | ⟨e, _⟩
    · exact g_none hs (by unfold getM; rw [if_pos h12, h]; simp only; rw [if_neg hp])
    · rw [hb] at e; simp at e
  · rcases h with ⟨e, _⟩ | ⟨_, h⟩
    · rw [hb] at e; simp at e
    · exact g_none hs (by unfold getM; rw [if_pos h12, h])

/-- The rows that were read. -/
structure Rows4 (w : World) (gm B0 B1 B2 B3 : Nat) (v0 v1 v2 v3 : Value) (qs : List Qn) (an ns ar : List Rc) : Prop where
  q : w.ownsRow B0 40 3 v0 qs.length (qC qs)
  an : w.ownsRow B1 54 5 v1 an.length (rC an)
  ns : w.ownsRow B2 54 5 v2 ns.length (rC ns)
  ar : w.ownsRow B3 54 5 v3 ar.length (rC ar)
  a1 : ∀ k, v1.ownBlock = some k → k < B2
  a2 : ∀ k, v2.ownBlock = some k → k < B3
  b0 : gm < B0
  b1 : gm < B1
  b2 : gm < B2
  b3 : gm < B3
  b23 : B2 ≤ B3
theorem Rows4.own {w : World} {gm B0 B1 B2 B3 : Nat} {v0 v1 v2 v3 : Value} {qs : List Qn} {an ns ar : List Rc} (h : Rows4 w gm B0 B1 B2 B3 v0 v1 v2 v3 qs an ns ar) {B : Nat} (hB : B ≤ gm) (hd : Hd) : Own B w v0 v1 v2 v3 ⟨hd, qs, an, ns, ar⟩ :=
  ⟨own_base h.q (by have := h.b0; omega), own_base h.an (by have := h.b1; omega), own_base h.ns (by have := h.b2; omega), own_base h.ar (by have := h.b3; omega),
   fun k e1 e2 => by have := h.a1 k e1; have := (h.ns.lt k e2).1; omega, fun k e1 e2 => by have := h.a1 k e1; have := (h.ar.lt k e2).1; have := h.b23; omega, fun k e1 e2 => by have := h.a2 k e1; have := (h.ar.lt k e2).1; omega⟩
theorem Rows4.turn {w w' : World} {g gm B0 B1 B2 B3 : Nat} {v0 v1 v2 v3 : Value} {qs : List Qn} {an ns ar : List Rc} (h : Rows4 w gm B0 B1 B2 B3 v0 v1 v2 v3 qs an ns ar) (ht : Turn (fun k => k = g) w w') (hg : g ≤ gm) : Rows4 w' gm B0 B1 B2 B3 v0 v1 v2 v3 qs an ns ar :=
  ⟨ht.row h.q (fun k hk e => by have := (h.q.lt k hk).1; have := h.b0; omega), ht.row h.an (fun k hk e => by have := (h.an.lt k hk).1; have := h.b1; omega), ht.row h.ns (fun k hk e => by have := (h.ns.lt k hk).1; have := h.b2; omega), ht.row h.ar (fun k hk e => by have := (h.ar.lt k hk).1; have := h.b3; omega), h.a1, h.a2, h.b0, h.b1, h.b2, h.b3, h.b23⟩

theorem Rows4.one {w : World} {gm B0 n : Nat} {v0 : Value} {qs : List Qn} (h : w.ownsRow B0 40 3 v0 n (qC qs)) (hn : n = qs.length) (hb : gm < B0) : Rows4 w gm B0 B0 B0 B0 v0 (.slice none 0 0) (.slice none 0 0) (.slice none 0 0) qs [] [] [] :=
  ⟨by rw [← hn]; exact h, World.ownsRow_nil _ _ _ _, World.ownsRow_nil _ _ _ _, World.ownsRow_nil _ _ _ _, fun k e => by simp [Value.ownBlock] at e, fun k e => by simp [Value.ownBlock] at e, hb, hb, hb, hb, Nat.le_refl _⟩
theorem Rows4.add1 {w : World} {gm B0 C1 C2 C3 B1 : Nat} {v0 v1 : Value} {qs : List Qn} {an : List Rc} (h : Rows4 w gm B0 C1 C2 C3 v0 (.slice none 0 0) (.slice none 0 0) (.slice none 0 0) qs [] [] []) (o : w.ownsRow B1 54 5 v1 an.length (rC an)) (hb : gm < B1) (hw : gm < w.heap.size) : Rows4 w gm B0 B1 w.heap.size w.heap.size v0 v1 (.slice none 0 0) (.slice none 0 0) qs an [] [] :=
  ⟨h.q, o, World.ownsRow_nil _ _ _ _, World.ownsRow_nil _ _ _ _, fun k e => (o.lt k e).2, fun k e => by simp [Value.ownBlock] at e, h.b0, hb, hw, hw, Nat.le_refl _⟩
theorem Rows4.add2 {w : World} {gm B0 B1 B2 C3 B : Nat} {v0 v1 v2 : Value} {qs : List Qn} {an ns : List Rc} (h : Rows4 w gm B0 B1 B2 C3 v0 v1 (.slice none 0 0) (.slice none 0 0) qs an [] []) (o : w.ownsRow B 54 5 v2 ns.length (rC ns)) (hb : B2 ≤ B) (hw : B2 ≤ w.heap.size) : Rows4 w gm B0 B1 B2 w.heap.size v0 v1 v2 (.slice none 0 0) qs an ns [] :=
  ⟨h.q, h.an, own_base o hb, World.ownsRow_nil _ _ _ _, h.a1, fun k e => (o.lt k e).2, h.b0, h.b1, h.b2, by have := h.b2; omega, hw⟩
theorem Rows4.add3 {w : World} {gm B0 B1 B2 B3 B : Nat} {v0 v1 v2 v3 : Value} {qs : List Qn} {an ns ar : List Rc} (h : Rows4 w gm B0 B1 B2 B3 v0 v1 v2 (.slice none 0 0) qs an ns []) (o : w.ownsRow B 54 5 v3 ar.length (rC ar)) (hb : B3 ≤ B) : Rows4 w gm B0 B1 B2 B3 v0 v1 v2 v3 qs an ns ar :=
  ⟨h.q, h.an, h.ns, own_base o hb, h.a1, h.a2, h.b0, h.b1, h.b2, h.b3, h.b23⟩
theorem Rows4.put {w : World} {gm B0 B1 B2 B3 : Nat} {v0 v1 v2 v3 : Value} {qs : List Qn} {an ns ar : List Rc} (h : Rows4 w gm B0 B1 B2 B3 v0 v1 v2 v3 qs an ns ar) (i : Nat) (x : Value) : Rows4 (w.setCell ⟨gm, i, none⟩ x) gm B0 B1 B2 B3 v0 v1 v2 v3 qs an ns ar :=
  h.turn (g := gm) (Turn.of_set (S := fun k => k = gm) w (p := ⟨gm, i, none⟩) rfl x) (Nat.le_refl _)
theorem set_size (w : World) (p : Addr) (v : Value) : (w.setCell p v).heap.size = w.heap.size := by simp

set_option maxRecDepth 20000 in
set_option maxHeartbeats 8000000 in
theorem get_main (s : ByteArray) (w : World) (h12 : 12 ≤ s.size) (hs : s.size ≤ 4096) :
    Calls Try.prog 11 #[.string s] w (GetP s w) := by
  have hm : s.size ≤ maxLen := by unfold maxLen; omega
  have hl' : decide ((4096 : Int) < (s.size : Int)) = false := by simp; omega
  have kz := Blk.new w (msgC hdZ (.slice none 0 0) (.slice none 0 0) (.slice none 0 0) (.slice none 0 0)) 27
  have kb : Below w.heap.size w _ := lay (Below.refl _ _) (.cells (msgC hdZ (.slice none 0 0) (.slice none 0 0) (.slice none 0 0) (.slice none 0 0)) 27)
  have hcall := fun u => get_yes s u hm h12
  simp only [cntC_as, headW_as] at hcall
  have l0 := cnt_lt s 0
  have l1 := cnt_lt s 1
  have l2 := cnt_lt s 2
  have l3 := cnt_lt s 3
  have HF : Hid (∀ (qs : List Qn) (an ns ar : List Rc) (p0 p1 p2 p3 : Nat) (b0 b1 b2 b3 : Bool), ((b0 = false ∧ false = false ∧ part (getQ s) (cnt s 0) 12 = some (qs, p0)) ∨ (b0 = true ∧ (false = true ∨ part (getQ s) (cnt s 0) 12 = none))) →
    ((b1 = false ∧ b0 = false ∧ part (getR s) (cnt s 1) p0 = some (an, p1)) ∨ (b1 = true ∧ (b0 = true ∨ part (getR s) (cnt s 1) p0 = none))) →
    ((b2 = false ∧ b1 = false ∧ part (getR s) (cnt s 2) p1 = some (ns, p2)) ∨ (b2 = true ∧ (b1 = true ∨ part (getR s) (cnt s 2) p1 = none))) →
    ((b3 = false ∧ b2 = false ∧ part (getR s) (cnt s 3) p2 = some (ar, p3)) ∨ (b3 = true ∧ (b2 = true ∨ part (getR s) (cnt s 3) p2 = none))) →
    (b3 = false → p3 = s.size → gM s = ⟨hdOf s, qs, an, ns, ar⟩ ∧ gE s = 0) ∧ (b3 = false → p3 ≠ s.size → gM s = msZ ∧ gE s = 700) ∧ (b3 = true → gM s = msZ ∧ gE s = 700)) :=
    fun qs an ns ar p0 p1 p2 p3 b0 b1 b2 b3 a0 a1 a2 a3 => get_fin h12 hs (parts_fin a0 a1 a2 a3)
  obtain ⟨n0, e0⟩ : ∃ n, n = cnt s 0 := ⟨_, rfl⟩
  obtain ⟨n1, e1⟩ : ∃ n, n = cnt s 1 := ⟨_, rfl⟩
  obtain ⟨n2, e2⟩ : ∃ n, n = cnt s 2 := ⟨_, rfl⟩
  obtain ⟨n3, e3⟩ : ∃ n, n = cnt s 3 := ⟨_, rfl⟩
  obtain ⟨hd, ehd⟩ : ∃ hd, hd = hdOf s := ⟨_, rfl⟩
  rw [← e0, ← e1, ← e2, ← e3, ← ehd] at HF
  simp only [← e0, ← e1, ← e2, ← e3, ← ehd] at hcall l0 l1 l2 l3
  clear e0 e1 e2 e3 ehd
  obtain ⟨id, qr, op, aa, tc, rd, ra, z, rc⟩ := hd
  unfold headV cntV at hcall
  simp only at hcall
  have t1 : True := trivial
  have t2 : True := trivial
  have t3 : True := trivial
  go_enter Try.func11, Try.ntmps11
  go_wp2_with (first
    | (go_at_call 23; go_must (refine (hcall _).mono ?_); rintro e w1 ⟨rfl, b1⟩; replace kz := kz.below b1; replace kb := next kb b1; have klt := kz.lt; clear b1)
    | (go_at_call 24; have j := ga_start s id qr op aa tc rd ra z rc n0 n1 n2 n3 h12 kb kz; have hB0 := j.n4; obtain ⟨W, hW⟩ : ∃ W, W = ((((w1.alloc (.cells #[.int .i64 id, .bool qr, .int .i64 op, .bool aa, .bool tc, .bool rd, .bool ra, .int .i64 z, .int .i64 rc] 23)).alloc (.cells #[.int .i64 (n0 : Int), .int .i64 (n1 : Int), .int .i64 (n2 : Int), .int .i64 (n3 : Int)] 48)).alloc (.cells #[.string s, .int .i64 12, .bool false] 62)).alloc (.cells #[.int .i64 id, .bool qr, .int .i64 op, .bool aa, .bool tc, .bool rd, .bool ra, .int .i64 z, .int .i64 rc, .slice none 0 0, .slice none 0 0, .slice none 0 0, .slice none 0 0] 27)) := ⟨_, rfl⟩; rw [← hW] at j hB0 ⊢; clear kz kb hcall; go_must (refine (getPartQ_r n0 l0 hs j.rd).mono ?_); rintro e w2 ⟨v0, qs, p0, b0, rfl, r, u, o0, a0⟩; replace j := j.step r u; obtain ⟨y0, k0, rfl⟩ := row_shape o0; have A0 : Hid _ := a0; have OO : Hid (Rows4 w2 (w1.heap.size + 1 + 1 + 1) W.heap.size W.heap.size W.heap.size W.heap.size (.slice y0 qs.length k0) (.slice none 0 0) (.slice none 0 0) (.slice none 0 0) qs [] [] []) := Rows4.one o0 rfl hB0; have fz := j.msg.frozen 9; have cl : w2.cell? ⟨(w1.heap.size + 1 + 1 + 1), 9, none⟩ = some (.slice none 0 0) := j.msg.cell 9; have cc : w2.cell? ⟨(w1.heap.size + 1), 1, none⟩ = some (.int .i64 (n1 : Int)) := j.cnt.cell 1; clear r u o0 a0 hW hB0)
    | (go_at_call 26; have _t := t1; replace j := j.put 9 (.slice y0 qs.length k0) (msgC ⟨id, qr, op, aa, tc, rd, ra, z, rc⟩ (.slice y0 qs.length k0) (.slice none 0 0) (.slice none 0 0) (.slice none 0 0)) rfl; go_must (refine (getPartR_r n1 l1 hs j.rd).mono ?_); rintro e w3 ⟨v1, an, p1, b1, rfl, r, u, o1, a1⟩; have hB := j.n4; replace j := j.step r u; obtain ⟨y1, k1, rfl⟩ := row_shape o1; have A1 : Hid _ := a1; have O1 : Hid (Rows4 w3 (w1.heap.size + 1 + 1 + 1) W.heap.size w2.heap.size w3.heap.size w3.heap.size (.slice y0 qs.length k0) (.slice y1 an.length k1) (.slice none 0 0) (.slice none 0 0) qs an [] []) := Rows4.add1 ((OO.out.put 9 (.slice y0 qs.length k0)).turn u (by omega)) (by rw [set_size] at o1; exact o1) (by rw [set_size] at hB; exact hB) j.n4; clear fz cl cc; have fz := j.msg.frozen 10; have cl : w3.cell? ⟨(w1.heap.size + 1 + 1 + 1), 10, none⟩ = some (.slice none 0 0) := j.msg.cell 10; have cc : w3.cell? ⟨(w1.heap.size + 1), 2, none⟩ = some (.int .i64 (n2 : Int)) := j.cnt.cell 2; clear r u o1 a1 hB OO t1 _t)
    | (go_at_call 26; have _t := t2; replace j := j.put 10 (.slice y1 an.length k1) (msgC ⟨id, qr, op, aa, tc, rd, ra, z, rc⟩ (.slice y0 qs.length k0) (.slice y1 an.length k1) (.slice none 0 0) (.slice none 0 0)) rfl; go_must (refine (getPartR_r n2 l2 hs j.rd).mono ?_); rintro e w4 ⟨v2, ns, p2, b2, rfl, r, u, o2, a2⟩; replace j := j.step r u; obtain ⟨y2, k2, rfl⟩ := row_shape o2; have A2 : Hid _ := a2; have O2 : Hid (Rows4 w4 (w1.heap.size + 1 + 1 + 1) W.heap.size w2.heap.size w3.heap.size w4.heap.size (.slice y0 qs.length k0) (.slice y1 an.length k1) (.slice y2 ns.length k2) (.slice none 0 0) qs an ns []) := Rows4.add2 ((O1.out.put 10 (.slice y1 an.length k1)).turn u (by omega)) o2 (by rw [set_size]; exact Nat.le_refl _) (by have := u.size; rw [set_size] at this; exact this); clear fz cl cc; have fz := j.msg.frozen 11; have cl : w4.cell? ⟨(w1.heap.size + 1 + 1 + 1), 11, none⟩ = some (.slice none 0 0) := j.msg.cell 11; have cc : w4.cell? ⟨(w1.heap.size + 1), 3, none⟩ = some (.int .i64 (n3 : Int)) := j.cnt.cell 3; clear r u o2 a2 O1 t2 _t)
    | (go_at_call 26; replace j := j.put 11 (.slice y2 ns.length k2) (msgC ⟨id, qr, op, aa, tc, rd, ra, z, rc⟩ (.slice y0 qs.length k0) (.slice y1 an.length k1) (.slice y2 ns.length k2) (.slice none 0 0)) rfl; go_must (refine (getPartR_r n3 l3 hs j.rd).mono ?_); rintro e w5 ⟨v3, ar, p3, b3, rfl, r, u, o3, a3⟩; replace j := j.step r u; obtain ⟨y3, k3, rfl⟩ := row_shape o3; have HG : Hid _ := HF.out qs an ns ar p0 p1 p2 p3 b0 b1 b2 b3 A0.out A1.out A2.out a3; have O3 : Hid (Rows4 w5 (w1.heap.size + 1 + 1 + 1) W.heap.size w2.heap.size w3.heap.size w4.heap.size (.slice y0 qs.length k0) (.slice y1 an.length k1) (.slice y2 ns.length k2) (.slice y3 ar.length k3) qs an ns ar) := Rows4.add3 ((O2.out.put 11 (.slice y2 ns.length k2)).turn u (by omega)) o3 (by rw [set_size]; exact Nat.le_refl _); clear fz cl cc; have fz := j.msg.frozen 12; obtain ⟨c0, c1, c2, c3, c4, c5, c6, c7, c8, c9, c10, c11, c12⟩ := blk13 j.msg; obtain ⟨x0, x1, x2, x3, x4, x5, x6, x7, x8, x9, x10, x11, x12⟩ := blk13 j.res; obtain ⟨f0, f1, f2, f3, f4, f5, f6, f7, f8, f9, f10, f11, f12⟩ := open13 j.res; obtain ⟨g0, g1, g2⟩ := j.rd.cells; clear r u o3 a3 O2 HF A0 A1 A2; cases b3))
  all_goals replace j := j.put 12 (.slice y3 ar.length k3) (msgC ⟨id, qr, op, aa, tc, rd, ra, z, rc⟩ (.slice y0 qs.length k0) (.slice y1 an.length k1) (.slice y2 ns.length k2) (.slice y3 ar.length k3)) rfl
  · rename_i hp
    have hp' : p3 ≠ s.size := by simp at hp; omega
    obtain ⟨qb, q⟩ := zeroed j.bel j.res
    clear j c0 c1 c2 c3 c4 c5 c6 c7 c8 c9 c10 c11 c12 x0 x1 x2 x3 x4 x5 x6 x7 x8 x9 x10 x11 x12 f0 f1 f2 f3 f4 f5 f6 f7 f8 f9 f10 f11 f12
    unfold set13 hdZ at qb q
    simp only at qb q
    revert qb q
    generalize ((((((((((((((w5.setCell ⟨(w1.heap.size + 1 + 1 + 1), 12, none⟩ (.slice y3 ar.length k3)).setCell ⟨w.heap.size, 0, none⟩ (.int .i64 0)).setCell ⟨w.heap.size, 1, none⟩ (.bool false)).setCell ⟨w.heap.size, 2, none⟩ (.int .i64 0)).setCell ⟨w.heap.size, 3, none⟩ (.bool false)).setCell ⟨w.heap.size, 4, none⟩ (.bool false)).setCell ⟨w.heap.size, 5, none⟩ (.bool false)).setCell ⟨w.heap.size, 6, none⟩ (.bool false)).setCell ⟨w.heap.size, 7, none⟩ (.int .i64 0)).setCell ⟨w.heap.size, 8, none⟩ (.int .i64 0)).setCell ⟨w.heap.size, 9, none⟩ (.slice none 0 0)).setCell ⟨w.heap.size, 10, none⟩ (.slice none 0 0)).setCell ⟨w.heap.size, 11, none⟩ (.slice none 0 0)).setCell ⟨w.heap.size, 12, none⟩ (.slice none 0 0)) = Z
    intro qb q
    obtain ⟨m0, m1, m2, m3, m4, m5, m6, m7, m8, m9, m10, m11, m12⟩ := blk13 q
    refine bodyPost_ret (v := .tuple #[.agg (msgC hdZ (.slice none 0 0) (.slice none 0 0) (.slice none 0 0) (.slice none 0 0)), .int .i64 700]) (by simp [results, Try.results11, go_sem, msgC, hdZ, m0, m1, m2, m3, m4, m5, m6, m7, m8, m9, m10, m11, m12]) rfl (getP_no (HG.out.2.1 trivial hp') qb)
  · rename_i hp
    have hp' : p3 = s.size := by simp at hp; omega
    have q := set13_blk (h := ⟨id, qr, op, aa, tc, rd, ra, z, rc⟩) (v0 := (.slice y0 qs.length k0)) (v1 := (.slice y1 an.length k1)) (v2 := (.slice y2 ns.length k2)) (v3 := (.slice y3 ar.length k3)) j.res
    have qb := Turn.below j.bel (set13_turn (w5.setCell ⟨(w1.heap.size + 1 + 1 + 1), 12, none⟩ (.slice y3 ar.length k3)) w.heap.size ⟨id, qr, op, aa, tc, rd, ra, z, rc⟩ (.slice y0 qs.length k0) (.slice y1 an.length k1) (.slice y2 ns.length k2) (.slice y3 ar.length k3)) j.bel.size (fun i e => by omega)
    have qo := ((O3.out.put 12 (.slice y3 ar.length k3)).turn (set13_turn (w5.setCell ⟨(w1.heap.size + 1 + 1 + 1), 12, none⟩ (.slice y3 ar.length k3)) w.heap.size ⟨id, qr, op, aa, tc, rd, ra, z, rc⟩ (.slice y0 qs.length k0) (.slice y1 an.length k1) (.slice y2 ns.length k2) (.slice y3 ar.length k3)) (by omega)).own (B := w.heap.size) (by omega) ⟨id, qr, op, aa, tc, rd, ra, z, rc⟩
    have hg := HG.out.1 trivial hp'
    clear j c0 c1 c2 c3 c4 c5 c6 c7 c8 c9 c10 c11 c12 x0 x1 x2 x3 x4 x5 x6 x7 x8 x9 x10 x11 x12 f0 f1 f2 f3 f4 f5 f6 f7 f8 f9 f10 f11 f12
    unfold set13 at qb q qo
    simp only at qb q qo
    revert qb q qo
    generalize ((((((((((((((w5.setCell ⟨(w1.heap.size + 1 + 1 + 1), 12, none⟩ (.slice y3 ar.length k3)).setCell ⟨w.heap.size, 0, none⟩ (.int .i64 id)).setCell ⟨w.heap.size, 1, none⟩ (.bool qr)).setCell ⟨w.heap.size, 2, none⟩ (.int .i64 op)).setCell ⟨w.heap.size, 3, none⟩ (.bool aa)).setCell ⟨w.heap.size, 4, none⟩ (.bool tc)).setCell ⟨w.heap.size, 5, none⟩ (.bool rd)).setCell ⟨w.heap.size, 6, none⟩ (.bool ra)).setCell ⟨w.heap.size, 7, none⟩ (.int .i64 z)).setCell ⟨w.heap.size, 8, none⟩ (.int .i64 rc)).setCell ⟨w.heap.size, 9, none⟩ (.slice y0 qs.length k0)).setCell ⟨w.heap.size, 10, none⟩ (.slice y1 an.length k1)).setCell ⟨w.heap.size, 11, none⟩ (.slice y2 ns.length k2)).setCell ⟨w.heap.size, 12, none⟩ (.slice y3 ar.length k3)) = Z
    intro q qb qo
    obtain ⟨m0, m1, m2, m3, m4, m5, m6, m7, m8, m9, m10, m11, m12⟩ := blk13 q
    refine bodyPost_ret (v := .tuple #[.agg (msgC ⟨id, qr, op, aa, tc, rd, ra, z, rc⟩ (.slice y0 qs.length k0) (.slice y1 an.length k1) (.slice y2 ns.length k2) (.slice y3 ar.length k3)), .int .i64 0]) (by simp [results, Try.results11, go_sem, msgC, m0, m1, m2, m3, m4, m5, m6, m7, m8, m9, m10, m11, m12]) rfl ?_
    unfold GetP
    rw [hg.1, hg.2]
    exact ⟨_, _, _, _, rfl, qo, qb⟩
  · skip
    obtain ⟨qb, q⟩ := zeroed j.bel j.res
    clear j c0 c1 c2 c3 c4 c5 c6 c7 c8 c9 c10 c11 c12 x0 x1 x2 x3 x4 x5 x6 x7 x8 x9 x10 x11 x12 f0 f1 f2 f3 f4 f5 f6 f7 f8 f9 f10 f11 f12
    unfold set13 hdZ at qb q
    simp only at qb q
    revert qb q
    generalize ((((((((((((((w5.setCell ⟨(w1.heap.size + 1 + 1 + 1), 12, none⟩ (.slice y3 ar.length k3)).setCell ⟨w.heap.size, 0, none⟩ (.int .i64 0)).setCell ⟨w.heap.size, 1, none⟩ (.bool false)).setCell ⟨w.heap.size, 2, none⟩ (.int .i64 0)).setCell ⟨w.heap.size, 3, none⟩ (.bool false)).setCell ⟨w.heap.size, 4, none⟩ (.bool false)).setCell ⟨w.heap.size, 5, none⟩ (.bool false)).setCell ⟨w.heap.size, 6, none⟩ (.bool false)).setCell ⟨w.heap.size, 7, none⟩ (.int .i64 0)).setCell ⟨w.heap.size, 8, none⟩ (.int .i64 0)).setCell ⟨w.heap.size, 9, none⟩ (.slice none 0 0)).setCell ⟨w.heap.size, 10, none⟩ (.slice none 0 0)).setCell ⟨w.heap.size, 11, none⟩ (.slice none 0 0)).setCell ⟨w.heap.size, 12, none⟩ (.slice none 0 0)) = Z
    intro qb q
    obtain ⟨m0, m1, m2, m3, m4, m5, m6, m7, m8, m9, m10, m11, m12⟩ := blk13 q
    refine bodyPost_ret (v := .tuple #[.agg (msgC hdZ (.slice none 0 0) (.slice none 0 0) (.slice none 0 0) (.slice none 0 0)), .int .i64 700]) (by simp [results, Try.results11, go_sem, msgC, hdZ, m0, m1, m2, m3, m4, m5, m6, m7, m8, m9, m10, m11, m12]) rfl (getP_no (HG.out.2.2 trivial) qb)

theorem get_w (s : ByteArray) (w : World) (hs : s.size ≤ maxLen) : Calls Try.prog 11 #[.string s] w (GetP s w) := by
  by_cases h1 : s.size ≤ 4096
  · by_cases h2 : 12 ≤ s.size
    · exact get_main s w h2 h1
    · exact get_few12 s w (by omega)
  · exact get_long s w hs h1

end Go.Proofs.Ytbffnicfibfceaa

/- What SameMsg gives of two messages that are one: true. -/
namespace Go.Proofs.Ytbffnicfibfceaa
open Go.RowKit
open Pl

set_option maxRecDepth 20000 in
theorem sameQ_yes (v v' : Value) (qs : List Qn) (w : World) (h : Row w v qs.length (qC qs)) (h' : Row w v' qs.length (qC qs)) (hm : qs.length ≤ maxLen) :
    Calls Try.prog 21 #[v, v'] w fun e w' => e = .returned (.bool true) ∧ Below w.heap.size w w' := by
  obtain ⟨n, hn⟩ : ∃ n, n = qs.length := ⟨_, rfl⟩
  unfold maxLen at hm
  have HN : Hid (n = qs.length) := hn
  rw [← hn] at h h' hm
  obtain ⟨x, c, rfl⟩ := row_slice h
  obtain ⟨x', c', rfl⟩ := row_slice h'
  have HR : Hid (Row w (.slice x n c) n (qC qs)) := h
  have HR' : Hid (Row w (.slice x' n c') n (qC qs)) := h'
  have hb : Below w.heap.size w w := Below.refl _ _
  clear h h' hn
  go_enter Try.func21, Try.ntmps21
  go_wp2
  go_loopw [5] (fun i wr => ∃ k : Nat, k ≤ n ∧ i = .int .i64 (k : Int) ∧ Below w.heap.size w wr) (fun i _ => n - (intOf i).toNat)
  case atStart => exact ⟨0, Nat.zero_le _, rfl, hb⟩
  case round =>
    clear hb
    obtain ⟨k, hk, rfl, hb⟩ := hrel
    by_cases hkn : k < n
    · have hkm : k < qs.length := by have := HN.out; omega
      have hkn' : (k : Int) < (n : Int) := by omega
      obtain ⟨g, o, cap, hx, hc⟩ := row_at (HR.out.below hb) (by omega)
      obtain ⟨g', o', cap', hx', hc'⟩ := row_at (HR'.out.below hb) (by omega)
      simp only [Value.slice.injEq] at hx hx'
      obtain ⟨rfl, -, rfl⟩ := hx
      obtain ⟨rfl, -, rfl⟩ := hx'
      obtain ⟨d0, d1, d2⟩ := q_cells hc hkm
      obtain ⟨e0, e1, e2⟩ := q_cells hc' hkm
      obtain ⟨q, hq⟩ : ∃ q, q = qs[k] := ⟨_, rfl⟩
      simp only [← hq] at d0 d1 d2 e0 e1 e2
      obtain ⟨qn, qt, qc⟩ := q
      simp only at d0 d1 d2 e0 e1 e2
      clear hc hq hc'
      go_wp2
      go_region
      go_wp2
      go_roundw
      case rel => exact ⟨k + 1, by omega, by go_num, next hb (below_drew ⟨1, rfl⟩)⟩
      case measure => simp [intOf]; omega
    · have hkn' : decide (k < n) = false := by simpa using hkn
      go_wp2
      go_ret
      exact ⟨rfl, hb⟩

set_option maxRecDepth 20000 in
theorem sameR_yes (v v' : Value) (qs : List Rc) (w : World) (h : Row w v qs.length (rC qs)) (h' : Row w v' qs.length (rC qs)) (hm : qs.length ≤ maxLen) :
    Calls Try.prog 22 #[v, v'] w fun e w' => e = .returned (.bool true) ∧ Below w.heap.size w w' := by
  obtain ⟨n, hn⟩ : ∃ n, n = qs.length := ⟨_, rfl⟩
  unfold maxLen at hm
  have HN : Hid (n = qs.length) := hn
  rw [← hn] at h h' hm
  obtain ⟨x, c, rfl⟩ := row_slice h
  obtain ⟨x', c', rfl⟩ := row_slice h'
  have HR : Hid (Row w (.slice x n c) n (rC qs)) := h
  have HR' : Hid (Row w (.slice x' n c') n (rC qs)) := h'
  have hb : Below w.heap.size w w := Below.refl _ _
  clear h h' hn
  go_enter Try.func22, Try.ntmps22
  go_wp2
  go_loopw [5] (fun i wr => ∃ k : Nat, k ≤ n ∧ i = .int .i64 (k : Int) ∧ Below w.heap.size w wr) (fun i _ => n - (intOf i).toNat)
  case atStart => exact ⟨0, Nat.zero_le _, rfl, hb⟩
  case round =>
    clear hb
    obtain ⟨k, hk, rfl, hb⟩ := hrel
    by_cases hkn : k < n
    · have hkm : k < qs.length := by have := HN.out; omega
      have hkn' : (k : Int) < (n : Int) := by omega
      obtain ⟨g, o, cap, hx, hc⟩ := row_at (HR.out.below hb) (by omega)
      obtain ⟨g', o', cap', hx', hc'⟩ := row_at (HR'.out.below hb) (by omega)
      simp only [Value.slice.injEq] at hx hx'
      obtain ⟨rfl, -, rfl⟩ := hx
      obtain ⟨rfl, -, rfl⟩ := hx'
      obtain ⟨d0, d1, d2, d3, d4⟩ := r_cells hc hkm
      obtain ⟨e0, e1, e2, e3, e4⟩ := r_cells hc' hkm
      obtain ⟨q, hq⟩ : ∃ q, q = qs[k] := ⟨_, rfl⟩
      simp only [← hq] at d0 d1 d2 d3 d4 e0 e1 e2 e3 e4
      obtain ⟨qn, qt, qc, ql, qd⟩ := q
      simp only at d0 d1 d2 d3 d4 e0 e1 e2 e3 e4
      clear hc hq hc'
      go_wp2
      go_region
      go_wp2
      go_roundw
      case rel => exact ⟨k + 1, by omega, by go_num, next hb (below_drew ⟨1, rfl⟩)⟩
      case measure => simp [intOf]; omega
    · have hkn' : decide (k < n) = false := by simpa using hkn
      go_wp2
      go_ret
      exact ⟨rfl, hb⟩

/-- The rows of a message, as they are read. -/
def MR (w : World) (v0 v1 v2 v3 : Value) (m : Ms) : Prop := Row w v0 m.qs.length (qC m.qs) ∧ Row w v1 m.an.length (rC m.an) ∧ Row w v2 m.ns.length (rC m.ns) ∧ Row w v3 m.ar.length (rC m.ar) ∧ m.qs.length ≤ maxLen ∧ m.an.length ≤ maxLen ∧ m.ns.length ≤ maxLen ∧ m.ar.length ≤ maxLen
theorem MR.below {w w' : World} {v0 v1 v2 v3 : Value} {m : Ms} (h : MR w v0 v1 v2 v3 m) (hb : Below w.heap.size w w') : MR w' v0 v1 v2 v3 m := ⟨h.1.below hb, h.2.1.below hb, h.2.2.1.below hb, h.2.2.2.1.below hb, h.2.2.2.2⟩

set_option maxRecDepth 20000 in
set_option maxHeartbeats 2000000 in
theorem sameMsg_yes (m : Ms) (v0 v1 v2 v3 u0 u1 u2 u3 : Value) (w : World) (a : MR w v0 v1 v2 v3 m) (b : MR w u0 u1 u2 u3 m) :
    Calls Try.prog 8 #[.agg (msgC m.h v0 v1 v2 v3), .agg (msgC m.h u0 u1 u2 u3)] w fun e w' => e = .returned (.bool true) ∧ Below w.heap.size w w' := by
  obtain ⟨hd, qs, an, ns, ar⟩ := m
  obtain ⟨id, qr, op, aa, tc, rd, ra, z, rc⟩ := hd
  obtain ⟨a0, a1, a2, a3, n0, n1, n2, n3⟩ := a
  obtain ⟨b0, b1, b2, b3, -⟩ := b
  simp only at a0 a1 a2 a3 b0 b1 b2 b3 n0 n1 n2 n3 ⊢
  obtain ⟨x0, c0, rfl⟩ := row_slice a0
  obtain ⟨x1, c1, rfl⟩ := row_slice a1
  obtain ⟨x2, c2, rfl⟩ := row_slice a2
  obtain ⟨x3, c3, rfl⟩ := row_slice a3
  obtain ⟨y0, d0, rfl⟩ := row_slice b0
  obtain ⟨y1, d1, rfl⟩ := row_slice b1
  obtain ⟨y2, d2, rfl⟩ := row_slice b2
  obtain ⟨y3, d3, rfl⟩ := row_slice b3
  have K0 : ∀ u, Hid (Below w.heap.size w u) → _ := fun u hu => sameQ_yes _ _ qs u (a0.below hu.out) (b0.below hu.out) n0
  have K1 : ∀ u, Hid (Below w.heap.size w u) → _ := fun u hu => sameR_yes _ _ an u (a1.below hu.out) (b1.below hu.out) n1
  have K2 : ∀ u, Hid (Below w.heap.size w u) → _ := fun u hu => sameR_yes _ _ ns u (a2.below hu.out) (b2.below hu.out) n2
  have K3 : ∀ u, Hid (Below w.heap.size w u) → _ := fun u hu => sameR_yes _ _ ar u (a3.below hu.out) (b3.below hu.out) n3
  unfold msgC
  simp only
  have KA := (Blk.new w #[.int .i64 id, .bool qr, .int .i64 op, .bool aa, .bool tc, .bool rd, .bool ra, .int .i64 z, .int .i64 rc, .slice x0 qs.length c0, .slice x1 an.length c1, .slice x2 ns.length c2, .slice x3 ar.length c3] 27).alloc (.cells #[.int .i64 id, .bool qr, .int .i64 op, .bool aa, .bool tc, .bool rd, .bool ra, .int .i64 z, .int .i64 rc, .slice y0 qs.length d0, .slice y1 an.length d1, .slice y2 ns.length d2, .slice y3 ar.length d3] 27)
  have KB := Blk.new (w.alloc (.cells #[.int .i64 id, .bool qr, .int .i64 op, .bool aa, .bool tc, .bool rd, .bool ra, .int .i64 z, .int .i64 rc, .slice x0 qs.length c0, .slice x1 an.length c1, .slice x2 ns.length c2, .slice x3 ar.length c3] 27)) #[.int .i64 id, .bool qr, .int .i64 op, .bool aa, .bool tc, .bool rd, .bool ra, .int .i64 z, .int .i64 rc, .slice y0 qs.length d0, .slice y1 an.length d1, .slice y2 ns.length d2, .slice y3 ar.length d3] 27
  have es : (w.alloc (.cells #[.int .i64 id, .bool qr, .int .i64 op, .bool aa, .bool tc, .bool rd, .bool ra, .int .i64 z, .int .i64 rc, .slice x0 qs.length c0, .slice x1 an.length c1, .slice x2 ns.length c2, .slice x3 ar.length c3] 27)).heap.size = w.heap.size + 1 := by simp
  rw [es] at KB
  have hb : Below w.heap.size w w := Below.refl _ _
  have t1 : True := trivial
  have t2 : True := trivial
  clear a0 a1 a2 a3 b0 b1 b2 b3 n0 n1 n2 n3 es
  go_enter Try.func8, Try.ntmps8
  go_wp2_with (first
    | (go_at_call 21; go_must (refine (K0 _ (lay (lay hb _) _)).mono ?_); rintro e w1 ⟨rfl, b1⟩; replace hb := next (lay (lay hb _) _) b1; replace KA := KA.below b1; replace KB := KB.below b1; have f10 : w1.cell? ⟨w.heap.size, 10, none⟩ = some (.slice x1 an.length c1) := KA.cell 10; have e10 : w1.cell? ⟨w.heap.size + 1, 10, none⟩ = some (.slice y1 an.length d1) := KB.cell 10; have f11 : w1.cell? ⟨w.heap.size, 11, none⟩ = some (.slice x2 ns.length c2) := KA.cell 11; have e11 : w1.cell? ⟨w.heap.size + 1, 11, none⟩ = some (.slice y2 ns.length d2) := KB.cell 11; have f12 : w1.cell? ⟨w.heap.size, 12, none⟩ = some (.slice x3 ar.length c3) := KA.cell 12; have e12 : w1.cell? ⟨w.heap.size + 1, 12, none⟩ = some (.slice y3 ar.length d3) := KB.cell 12; clear b1)
    | (go_at_call 22; have _t := t1; go_must (refine (K1 _ hb).mono ?_); rintro e w2 ⟨rfl, b1⟩; replace hb := next hb b1; replace KA := KA.below b1; replace KB := KB.below b1; clear f10 e10 f11 e11 f12 e12; have f11 : w2.cell? ⟨w.heap.size, 11, none⟩ = some (.slice x2 ns.length c2) := KA.cell 11; have e11 : w2.cell? ⟨w.heap.size + 1, 11, none⟩ = some (.slice y2 ns.length d2) := KB.cell 11; have f12 : w2.cell? ⟨w.heap.size, 12, none⟩ = some (.slice x3 ar.length c3) := KA.cell 12; have e12 : w2.cell? ⟨w.heap.size + 1, 12, none⟩ = some (.slice y3 ar.length d3) := KB.cell 12; clear b1 t1 _t)
    | (go_at_call 22; have _t := t2; go_must (refine (K2 _ hb).mono ?_); rintro e w3 ⟨rfl, b1⟩; replace hb := next hb b1; replace KA := KA.below b1; replace KB := KB.below b1; clear f11 e11 f12 e12; have f12 : w3.cell? ⟨w.heap.size, 12, none⟩ = some (.slice x3 ar.length c3) := KA.cell 12; have e12 : w3.cell? ⟨w.heap.size + 1, 12, none⟩ = some (.slice y3 ar.length d3) := KB.cell 12; clear b1 t2 _t)
    | (go_at_call 22; go_must (refine (K3 _ hb).mono ?_); rintro e w4 ⟨rfl, b1⟩; replace hb := next hb b1; clear b1))
  go_ret
  exact ⟨ret_bool (by simp), hb⟩

end Go.Proofs.Ytbffnicfibfceaa

/- What awake gives: true. -/
namespace Go.Proofs.Ytbffnicfibfceaa
open Go.RowKit
open Pl

/-- A row that was laid as it is. -/
theorem Row.of_blk {w : World} {g : Nat} {C : Array Value} {t : TypeId} (h : Blk w g C t) {xs : List Value} (hx : C.toList = xs) (n cap : Nat) : Row w (.slice (some ⟨g, 0, none⟩) n cap) n xs := by
  refine .inr ⟨g, 0, none, cap, rfl, fun _ => rfl, fun j u hu => ?_⟩
  rw [Nat.zero_add, h.cell j, ← hu, ← hx]; simp
theorem Row.nil (w : World) (xs : List Value) : Row w (.slice none 0 0) 0 xs := .inl ⟨rfl, rfl⟩
theorem QRow.nil (w : World) : QRow w (.slice none 0 0) [] := ⟨Row.nil _ _, by decide, fun q h => by simp at h⟩
theorem RRow.nil (w : World) : RRow w (.slice none 0 0) [] := ⟨Row.nil _ _, by decide, fun q h => by simp at h⟩
theorem Own.mr {B : Nat} {w : World} {v0 v1 v2 v3 : Value} {m : Ms} (h : Own B w v0 v1 v2 v3 m) (hm : m.qs.length ≤ 64 ∧ m.an.length ≤ 64 ∧ m.ns.length ≤ 64 ∧ m.ar.length ≤ 64) : MR w v0 v1 v2 v3 m :=
  ⟨Row.of_own h.q, Row.of_own h.an, Row.of_own h.ns, Row.of_own h.ar, by unfold maxLen; omega, by unfold maxLen; omega, by unfold maxLen; omega, by unfold maxLen; omega⟩
/-- A message that was read has few parts. -/
theorem gM_few (s : ByteArray) : (gM s).qs.length ≤ 64 ∧ (gM s).an.length ≤ 64 ∧ (gM s).ns.length ≤ 64 ∧ (gM s).ar.length ≤ 64 := by
  unfold gM
  split
  · cases h : getM s with
    | none => decide
    | some m =>
      have := get_may h
      unfold mayM at this
      simp only [Bool.and_eq_true] at this
      obtain ⟨_, ⟨⟨h0, h1⟩, h2⟩, h3⟩ := this
      exact ⟨(few_iff h0).1, (few_iff h1).1, (few_iff h2).1, (few_iff h3).1⟩
  · decide
theorem MRow.mr {w : World} {v0 v1 v2 v3 : Value} {m : Ms} (h0 : QRow w v0 m.qs) (h1 : RRow w v1 m.an) (h2 : RRow w v2 m.ns) (h3 : RRow w v3 m.ar) : MR w v0 v1 v2 v3 m :=
  ⟨h0.1, h1.1, h2.1, h3.1, h0.2.1, h1.2.1, h2.2.1, h3.2.1⟩

/-- Get, where it is known what it gives. -/
theorem get_k (s : ByteArray) (m : Ms) (E : Int) (w : World) (hs : s.size ≤ maxLen) (h : gM s = m ∧ gE s = E) :
    Calls Try.prog 11 #[.string s] w fun e w' => ∃ (y0 y1 y2 y3 : Option Addr) (n0 n1 n2 n3 k0 k1 k2 k3 : Nat), e = .returned (.tuple #[.agg (msgC m.h (.slice y0 n0 k0) (.slice y1 n1 k1) (.slice y2 n2 k2) (.slice y3 n3 k3)), .int .i64 E]) ∧ Own w.heap.size w' (.slice y0 n0 k0) (.slice y1 n1 k1) (.slice y2 n2 k2) (.slice y3 n3 k3) m ∧ Below w.heap.size w w' := by
  have := get_w s w hs
  unfold GetP at this
  rw [h.1, h.2] at this
  refine this.mono fun e w' ⟨v0, v1, v2, v3, he, ho, hb⟩ => ?_
  obtain ⟨y0, k0, rfl⟩ := row_shape ho.q
  obtain ⟨y1, k1, rfl⟩ := row_shape ho.an
  obtain ⟨y2, k2, rfl⟩ := row_shape ho.ns
  obtain ⟨y3, k3, rfl⟩ := row_shape ho.ar
  exact ⟨_, _, _, _, _, _, _, _, _, _, _, _, he, ho, hb⟩

/-- So many bytes of nought are made, and become a string. -/
theorem madeN (n : Nat) (hn : n ≤ 100000) : ∃ Zc : Array Value, (∀ u : World, (Instr.makeSlice 81 (.int .i64 (n : Int)) (.int .i64 (n : Int))).run Try.prog u = .ok (.slice (some ⟨u.heap.size, 0, none⟩) n n) (u.alloc (.cells Zc 5))) ∧
    ∀ (u : World), (convert 81 9 (.slice (some ⟨u.heap.size, 0, none⟩) n n)).run Try.prog (u.alloc (.cells Zc 5)) = .ok (.string (zerosB n)) (u.alloc (.cells Zc 5)) := by
  obtain ⟨i0, hi, hz0, hz1, hz2⟩ := info_parts info5
  refine ⟨((List.replicate n (0 : UInt8)).map bv).toArray, fun u => ?_, fun u => ?_⟩
  · have := run_make (P := Try.prog) u 81 5 i0 (.int .u8 0) Try.underlying81 hi hz0 .i64 .i64 (n : Int) (n : Int) (by omega) (by omega) (by rw [hz2]; omega) (by omega)
    rw [hz1, show (Value.int .u8 0).cells = #[.int .u8 0] from rfl, Nat.mul_one, Int.toNat_natCast, made_zero] at this
    exact this
  · have := conv_lit (List.replicate n 0) u
    rw [List.length_replicate] at this
    exact this

/-- .. a message with no header's bit set. -/
theorem get_kz (s : ByteArray) (m : Ms) (E : Int) (w : World) (hs : s.size ≤ maxLen) (h : gM s = m ∧ gE s = E) (hh : m.h = hdZ) :
    Calls Try.prog 11 #[.string s] w fun e w' => ∃ (y0 y1 y2 y3 : Option Addr) (n0 n1 n2 n3 k0 k1 k2 k3 : Nat), e = .returned (.tuple #[.agg #[.int .i64 0, .bool false, .int .i64 0, .bool false, .bool false, .bool false, .bool false, .int .i64 0, .int .i64 0, .slice y0 n0 k0, .slice y1 n1 k1, .slice y2 n2 k2, .slice y3 n3 k3], .int .i64 E]) ∧ Own w.heap.size w' (.slice y0 n0 k0) (.slice y1 n1 k1) (.slice y2 n2 k2) (.slice y3 n3 k3) m ∧ Below w.heap.size w w' := by
  have := get_k s m E w hs h
  rw [hh] at this
  exact this
theorem same_z (m : Ms) (v0 v1 v2 v3 u0 u1 u2 u3 : Value) (w : World) (hh : m.h = hdZ) (a : MR w v0 v1 v2 v3 m) (b : MR w u0 u1 u2 u3 m) :
    Calls Try.prog 8 #[.agg #[.int .i64 0, .bool false, .int .i64 0, .bool false, .bool false, .bool false, .bool false, .int .i64 0, .int .i64 0, v0, v1, v2, v3], .agg #[.int .i64 0, .bool false, .int .i64 0, .bool false, .bool false, .bool false, .bool false, .int .i64 0, .int .i64 0, u0, u1, u2, u3]] w fun e w' => e = .returned (.bool true) ∧ Below w.heap.size w w' := by
  have := sameMsg_yes m v0 v1 v2 v3 u0 u1 u2 u3 w a b
  rw [hh] at this
  exact this

def awQ : Qn := ⟨⟨#[1, 97, 0]⟩, 1, 1⟩
def awR : Rc := ⟨⟨#[1, 97, 0]⟩, 1, 1, 5, ⟨#[97, 98, 99, 100]⟩⟩
def awM : Ms := ⟨hdZ, [awQ], [awR], [], []⟩
def awB : ByteArray := ⟨#[0, 0, 0, 0, 0, 1, 0, 1, 0, 0, 0, 0, 1, 97, 0, 0, 1, 0, 1, 192, 12, 0, 1, 0, 1, 0, 0, 0, 5, 0, 4, 97, 98, 99, 100]⟩
theorem aw_may : mayM awM = true := by decide +kernel
theorem aw_st : putSt awM = some (awB.data.toList, [([1, 97, 0], 12)]) := by decide +kernel
theorem aw_put : putV awM = .tuple #[.string awB, .int .i64 0] := by rw [putV_yes aw_may, aw_st]; rfl
theorem aw_get : getM awB = some awM := by have := (there_back aw_may aw_st).1; rwa [arr_list] at this
theorem aw_gm : gM awB = awM ∧ gE awB = 0 := g_some (by decide) aw_get
theorem aw_more : gM (awB ++ ⟨#[97]⟩) = msZ ∧ gE (awB ++ ⟨#[97]⟩) = 700 := by
  refine g_none (by decide) ?_
  cases h : getM (awB ++ ⟨#[97]⟩) with
  | none => rfl
  | some m => exact absurd aw_get (get_behind (by decide) h)
theorem aw_long : gM (zerosB 4097) = msZ ∧ gE (zerosB 4097) = 701 := g_long (by rw [zerosB_size]; decide)
def awZ : Ms := ⟨hdZ, [⟨⟨#[]⟩, 0, 0⟩], [], [], []⟩
theorem aw_bad : putV awZ = .tuple #[.string ⟨#[]⟩, .int .i64 700] := putV_no (by decide +kernel)

theorem small100 {n : Nat} (h : n ≤ 100000) : n ≤ maxLen := by unfold maxLen; omega
/-- A question, a record as a row of its own. -/
theorem qrow_lit {w : World} {g : Nat} {q : Qn} (h : Blk w g (qV q).toArray 40) (hs : q.n.size ≤ 100000) : QRow w (.slice (some ⟨g, 0, none⟩) 1 1) [q] :=
  ⟨Row.of_blk h (by simp [qC]) 1 1, by show 1 ≤ maxLen; exact small100 (by decide), fun x hx => by simp at hx; subst hx; exact small100 hs⟩
theorem rrow_lit {w : World} {g : Nat} {r : Rc} (h : Blk w g (rV r).toArray 54) (hs : r.n.size ≤ 100000) (hd : r.d.size ≤ 100000) : RRow w (.slice (some ⟨g, 0, none⟩) 1 1) [r] :=
  ⟨Row.of_blk h (by simp [rC]) 1 1, by show 1 ≤ maxLen; exact small100 (by decide), fun x hx => by simp at hx; subst hx; exact ⟨small100 hs, small100 hd⟩⟩

theorem aw_z (u : World) (o : Obj) : QRow ((u.alloc o).alloc (.cells #[.string ⟨#[]⟩, .int .i64 0, .int .i64 0] 40)) (.slice (some ⟨u.heap.size + 1, 0, none⟩) 1 1) [⟨⟨#[]⟩, 0, 0⟩] := by
  have k := Blk.new (u.alloc o) #[.string ⟨#[]⟩, .int .i64 0, .int .i64 0] 40
  rw [show (u.alloc o).heap.size = u.heap.size + 1 from by simp] at k
  exact qrow_lit (q := ⟨⟨#[]⟩, 0, 0⟩) k (by decide)
theorem aw_rows (w : World) : QRow (((w.alloc (.cells (qV awQ).toArray 40)).alloc (.cells (rV awR).toArray 54)).alloc (.cells #[.int .i64 0, .bool false, .int .i64 0, .bool false, .bool false, .bool false, .bool false, .int .i64 0, .int .i64 0, .slice (some ⟨w.heap.size, 0, none⟩) 1 1, .slice (some ⟨w.heap.size + 1, 0, none⟩) 1 1, .slice none 0 0, .slice none 0 0] 27)) (.slice (some ⟨w.heap.size, 0, none⟩) 1 1) [awQ] ∧ RRow (((w.alloc (.cells (qV awQ).toArray 40)).alloc (.cells (rV awR).toArray 54)).alloc (.cells #[.int .i64 0, .bool false, .int .i64 0, .bool false, .bool false, .bool false, .bool false, .int .i64 0, .int .i64 0, .slice (some ⟨w.heap.size, 0, none⟩) 1 1, .slice (some ⟨w.heap.size + 1, 0, none⟩) 1 1, .slice none 0 0, .slice none 0 0] 27)) (.slice (some ⟨w.heap.size + 1, 0, none⟩) 1 1) [awR] ∧ Blk (((w.alloc (.cells (qV awQ).toArray 40)).alloc (.cells (rV awR).toArray 54)).alloc (.cells #[.int .i64 0, .bool false, .int .i64 0, .bool false, .bool false, .bool false, .bool false, .int .i64 0, .int .i64 0, .slice (some ⟨w.heap.size, 0, none⟩) 1 1, .slice (some ⟨w.heap.size + 1, 0, none⟩) 1 1, .slice none 0 0, .slice none 0 0] 27)) (w.heap.size + 1 + 1) (msgC hdZ (.slice (some ⟨w.heap.size, 0, none⟩) 1 1) (.slice (some ⟨w.heap.size + 1, 0, none⟩) 1 1) (.slice none 0 0) (.slice none 0 0)) 27 := by
  have e1 : (w.alloc (.cells (qV awQ).toArray 40)).heap.size = w.heap.size + 1 := by simp
  have e2 : ((w.alloc (.cells (qV awQ).toArray 40)).alloc (.cells (rV awR).toArray 54)).heap.size = w.heap.size + 1 + 1 := by simp
  have k1 := ((Blk.new w (qV awQ).toArray 40).alloc (.cells (rV awR).toArray 54)).alloc (.cells #[.int .i64 0, .bool false, .int .i64 0, .bool false, .bool false, .bool false, .bool false, .int .i64 0, .int .i64 0, .slice (some ⟨w.heap.size, 0, none⟩) 1 1, .slice (some ⟨w.heap.size + 1, 0, none⟩) 1 1, .slice none 0 0, .slice none 0 0] 27)
  have k2 := (Blk.new (w.alloc (.cells (qV awQ).toArray 40)) (rV awR).toArray 54).alloc (.cells #[.int .i64 0, .bool false, .int .i64 0, .bool false, .bool false, .bool false, .bool false, .int .i64 0, .int .i64 0, .slice (some ⟨w.heap.size, 0, none⟩) 1 1, .slice (some ⟨w.heap.size + 1, 0, none⟩) 1 1, .slice none 0 0, .slice none 0 0] 27)
  have k3 := Blk.new ((w.alloc (.cells (qV awQ).toArray 40)).alloc (.cells (rV awR).toArray 54)) #[.int .i64 0, .bool false, .int .i64 0, .bool false, .bool false, .bool false, .bool false, .int .i64 0, .int .i64 0, .slice (some ⟨w.heap.size, 0, none⟩) 1 1, .slice (some ⟨w.heap.size + 1, 0, none⟩) 1 1, .slice none 0 0, .slice none 0 0] 27
  rw [e1] at k2
  rw [e2] at k3
  exact ⟨qrow_lit k1 (by decide), rrow_lit k2 (by decide) (by decide), k3⟩

end Go.Proofs.Ytbffnicfibfceaa

/- A row that a string's bytes were laid in; a record's bytes that are turned. -/
namespace Go.Proofs.Ytbffnicfibfceaa
open Go.RowKit
open Pl

/-- A block that a string's bytes were laid in: these bytes at its head, and nothing of them frozen. -/
def BRow (w : World) (g : Nat) (l : List UInt8) : Prop :=
  ∃ cur : Array Value, w.heap[g]? = some (.cells cur 5 (cur.size, cur.size + 1)) ∧ l.length ≤ cur.size ∧ ∀ j (h : j < l.length), cur[j]? = some (bv l[j])

theorem BRow.cell {w : World} {g : Nat} {l : List UInt8} (h : BRow w g l) (j : Nat) (hj : j < l.length) : w.cell? ⟨g, j, none⟩ = some (.int .u8 (l[j].toNat : Int)) := by
  obtain ⟨cur, h1, h2, h3⟩ := h
  rw [cell_of_row w g j cur 5 _ h1]
  exact h3 j hj
theorem BRow.frozen {w : World} {g : Nat} {l : List UInt8} (h : BRow w g l) (j : Nat) (hj : j < l.length) : w.frozen? ⟨g, j, none⟩ = false := by
  obtain ⟨cur, h1, h2, h3⟩ := h
  simp only [World.frozen?, h1]
  simp
  omega
theorem BRow.stored {w : World} {g : Nat} {l : List UInt8} (h : BRow w g l) (j : Nat) (hj : j < l.length) (b : UInt8) :
    BRow (w.setCell ⟨g, j, none⟩ (.int .u8 (b.toNat : Int))) g (l.set j b) ∧ w.grownBy (w.setCell ⟨g, j, none⟩ (.int .u8 (b.toNat : Int))) (some g) := by
  obtain ⟨cur, h1, h2, h3⟩ := h
  refine ⟨⟨cur.setIfInBounds j (.int .u8 (b.toNat : Int)), ?_, by simpa using h2, fun i hi => ?_⟩, ⟨rfl, rfl, rfl, by simp, fun k _ hk => heap_setCell_other w ⟨g, j, none⟩ k _ (fun e => hk (by simp [e]))⟩⟩
  · rw [setCell_eq_setRow w g j cur 5 _ _ h1, setRow_heap w g cur _ 5 _ h1]
    simp
  · simp only [List.length_set] at hi
    by_cases e : i = j
    · subst e
      rw [Array.getElem?_setIfInBounds_self_of_lt (by omega), List.getElem_set_self]
      rfl
    · rw [Array.getElem?_setIfInBounds_ne (by omega), List.getElem_set_ne (by omega)]
      exact h3 i hi
theorem BRow.kept {w w' : World} {g : Nat} {l : List UInt8} (h : BRow w g l) (e : w'.heap[g]? = w.heap[g]?) : BRow w' g l := by
  obtain ⟨cur, h1, h2, h3⟩ := h
  exact ⟨cur, by rw [e]; exact h1, h2, h3⟩

/-- A string's bytes are laid in a block of their own. -/
theorem wpList_bytesB (w : World) {ops : Array Oper} {rest : List Oper} {o : Oper} {a : Act} {Q : Exit → Act → World → Prop} (hgd : o.guard = none) (x : Operand)
    (ho : o.op = .convert 9 81 x) (s : ByteArray) (hx : a.eval x = .string s)
    (h : ∀ cap w', BRow w' w.heap.size s.data.toList → w.grownBy w' none → w'.heap.size = w.heap.size + 1 →
      wpList Try.prog ops Q rest (a.put o.dst (.slice (some ⟨w.heap.size, 0, none⟩) s.size cap)) w') : wpList Try.prog ops Q (o :: rest) a w := by
  refine wpList_plain hgd fun K hK => ?_
  have hr := run_bytes_of_string (P := Try.prog) w 9 81 5 s Try.underlying9 Try.underlying81 Try.underlying5
  unfold Oper.wp execOp
  simp only [ho, hx, Sem.run_bind, hr, Result.andThen_ok, Sem.run_pure]
  refine hK _ _ (h _ _ ⟨_, heap_alloc_last w.drew _, ?_, fun j hj => ?_⟩ ⟨rfl, rfl, rfl, by simp, fun k hk _ => Below.heap_alloc w.drew _ k hk⟩ (by simp))
  · unfold bytesRow
    simp
  · unfold bytesRow
    rw [Array.getElem?_append_left (by simpa using hj)]
    have hd : j < s.data.size := by simpa using hj
    rw [Array.getElem?_map, Array.getElem?_eq_getElem hd]
    rfl

/-- Such bytes become a string. -/
theorem wpList_stringC (w : World) {ops : Array Oper} {rest : List Oper} {o : Oper} {a : Act} {Q : Exit → Act → World → Prop} (hgd : o.guard = none) (x : Operand)
    (ho : o.op = .convert 81 9 x) (g n cap : Nat) (l : List UInt8) (hx : a.eval x = .slice (some ⟨g, 0, none⟩) n cap) (hn : l.length = n) (hrow : BRow w g l)
    (h : wpList Try.prog ops Q rest (a.put o.dst (.string ⟨l.toArray⟩)) w) : wpList Try.prog ops Q (o :: rest) a w := by
  refine wpList_plain hgd fun K hK => ?_
  subst hn
  have hr := run_convert_bytes_back w 81 9 5 ⟨g, 0, none⟩ cap l Try.underlying81 Try.underlying5 Try.underlying9 fun j hj => by
    have hadd : (⟨g, 0, none⟩ : Addr).add j = ⟨g, j, none⟩ := by unfold Addr.add; split <;> simp_all
    rw [hadd]
    exact hrow.cell j hj
  unfold Oper.wp execOp
  simp only [ho, hx, Sem.run_bind, hr, Result.andThen_ok, Sem.run_pure]
  exact hK _ _ h

/-- Such bytes become a string. -/
theorem conv_brow {w : World} {g n cap : Nat} {l : List UInt8} (hrow : BRow w g l) (hn : l.length = n) : (convert 81 9 (.slice (some ⟨g, 0, none⟩) n cap)).run Try.prog w = .ok (.string ⟨l.toArray⟩) w := by
  subst hn
  refine run_convert_bytes_back w 81 9 5 ⟨g, 0, none⟩ cap l Try.underlying81 Try.underlying5 Try.underlying9 fun j hj => ?_
  have hadd : (⟨g, 0, none⟩ : Addr).add j = ⟨g, j, none⟩ := by unfold Addr.add; split <;> simp_all
  rw [hadd]
  exact hrow.cell j hj
theorem BRow.lt {w : World} {g : Nat} {l : List UInt8} (h : BRow w g l) : g < w.heap.size := by
  obtain ⟨cur, h1, _⟩ := h
  exact (Array.getElem?_eq_some_iff.1 h1).1
theorem BRow.below {w w' : World} {g : Nat} {l : List UInt8} (h : BRow w g l) (hb : Below w.heap.size w w') : BRow w' g l := h.kept (hb.block g h.lt)

end Go.Proofs.Ytbffnicfibfceaa

/- A message as it comes in. -/
namespace Go.Proofs.Ytbffnicfibfceaa
open Go.ChangeShapes Go.WideShapes Go.ChangeAt Go.RowKit
open Pl

theorem spot_none {w : World} {a : Addr} {v : Value} (h : w.cell? a = some v) : a.spot = none := by
  unfold World.cell? at h
  split at h
  · split at h
    · simp at h
    · rename_i h1; simpa using h1
  · simp at h
/-- One thing for each number below n. -/
theorem list_of {α : Type} {P : Nat → α → Prop} : ∀ (n : Nat), (∀ i, i < n → ∃ x, P i x) → ∃ xs : List α, xs.length = n ∧ ∀ i (h : i < xs.length), P i xs[i] := by
  intro n
  induction n with
  | zero => intro _; exact ⟨[], rfl, fun i h => by simp at h⟩
  | succ n ih =>
    intro h
    obtain ⟨xs, hl, hx⟩ := ih (fun i hi => h i (by omega))
    obtain ⟨x, hp⟩ := h n (by omega)
    refine ⟨xs ++ [x], by simp [hl], fun i hi => ?_⟩
    by_cases e : i < xs.length
    · rw [List.getElem_append_left e]; exact hx i e
    · have : i = n := by simp at hi; omega
      subst this
      rw [List.getElem_append_right (by omega)]
      simpa [hl] using hp
theorem add_in {g o k j : Nat} : ((⟨g, o, none⟩ : Addr).add k).add j = ⟨g, o + (k + j), none⟩ := by
  unfold Addr.add
  split <;> split <;> simp_all <;> omega
/-- A row of elements of z cells each, as it is read. -/
theorem row_of {α : Type} {f : α → List Value} {z : Nat} (hz : ∀ x, (f x).length = z) (hz0 : 0 < z) {w : World} {a : Addr} {len cap : Nat} {xs : List α} (hl : xs.length = len)
    (h : ∀ i (hi : i < xs.length), ∀ j, j < z → w.cell? ((a.add (i * z)).add j) = (f xs[i])[j]?) : Row w (.slice (some a) len cap) len (xs.flatMap f) := by
  obtain ⟨g, o, p⟩ := a
  have hp : 0 < len → p = none := fun h0 => by
    have h1 := h 0 (by omega) 0 hz0
    have h2 : w.cell? ⟨g, o, p⟩ = (f xs[0])[0]? := by simpa [Addr.add] using h1
    rw [List.getElem?_eq_getElem (by rw [hz]; exact hz0)] at h2
    exact spot_none h2
  refine .inr ⟨g, o, p, cap, rfl, hp, fun j u hu => ?_⟩
  have hj : j < xs.length * z := by have := (List.getElem?_eq_some_iff.1 hu).1; rwa [flat_len hz] at this
  have hlen : 0 < len := by
    cases len with
    | zero => rw [hl] at hj; simp at hj
    | succ n => omega
  have hp0 := hp hlen
  subst hp0
  have hi : j / z < xs.length := Nat.div_lt_of_lt_mul (by rw [Nat.mul_comm]; exact hj)
  have hm := Nat.mod_lt j hz0
  have e : j / z * z + j % z = j := by rw [Nat.mul_comm]; exact Nat.div_add_mod j z
  have h1 := h (j / z) hi (j % z) hm
  rw [add_in, e] at h1
  rw [h1, ← flat_get hz xs (j / z) hi (j % z) hm, e]
  exact hu

theorem q_cellsOf : Try.prog.cellsOf 40 = 3 := by kernel_rfl
theorem r_cellsOf : Try.prog.cellsOf 54 = 5 := by kernel_rfl
theorem m_cellsOf : Try.prog.cellsOf 27 = 13 := by kernel_rfl
theorem s_cellsOf : Try.prog.cellsOf 9 = 1 := by kernel_rfl
theorem qs_cellsOf : Try.prog.cellsOf 24 = 1 := by kernel_rfl
theorem rs_cellsOf : Try.prog.cellsOf 25 = 1 := by kernel_rfl

section
variable {H : Type} {enc : TypeId × Value → H} {W : World}
set_option maxRecDepth 20000 in
theorem open_qrow {fuel : Nat} {c : Value} {x : DataW H × List MemPlace} (h : DataW.trod enc Try.prog W 0 (fun _ => true) true fuel 24 [c] = some x) : ∃ qs, QRow W c qs := by
  rcases DataW.trod_slice Try.underlying24 h with ⟨h0, _⟩ | ⟨a, len, cap, elems, rest, n, _, hcs, _, _, hlc, hcm, hlen, hel, _, _⟩
  · simp at h0
    subst h0
    exact ⟨[], QRow.nil W⟩
  · simp at hcs
    subst hcs
    have each : ∀ i, i < len → ∃ q : Qn, (∀ j, j < 3 → W.cell? ((a.add (i * 3)).add j) = (qV q)[j]?) ∧ q.n.size ≤ maxLen := by
      intro i hi
      have hb := hel i hi
      rw [q_cellsOf] at hb
      have hs : (elems[i]?).isSome = true := by rw [List.getElem?_eq_getElem (by omega)]; rfl
      rw [← hb] at hs
      obtain ⟨y, hy⟩ := Option.isSome_iff_exists.1 hs
      rw [Option.bind_eq_some_iff] at hy
      obtain ⟨cs, hcs, hy⟩ := hy
      obtain ⟨_, hcl, hcell⟩ := World.cells?_some hcs
      obtain ⟨xs, k, _, _, _, hxl, hf⟩ := DataW.trod_struct Try.underlying40 hy
      match xs, hxl, cs, hcl, hcell, hf with
      | [y0, y1, y2], _, [c0, c1, c2], _, hcell, hf =>
        have t0 := hf 0 _ rfl
        have t1 := hf 1 _ rfl
        have t2 := hf 2 _ rfl
        simp [s_cellsOf, int_cells] at t0 t1 t2
        obtain ⟨s, e0, _, hss⟩ := DataW.trod_string Try.underlying9 t0
        obtain ⟨t, e1, _, _⟩ := DataW.trod_int Try.underlying3 t1
        obtain ⟨u, e2, _, _⟩ := DataW.trod_int Try.underlying3 t2
        simp at e0 e1 e2
        refine ⟨⟨s, t, u⟩, fun j hj => ?_, hss⟩
        have := hcell j (by simpa using hj)
        rw [this]
        subst e0 e1 e2
        rfl
    obtain ⟨qs, hl, hq⟩ := list_of len each
    refine ⟨qs, ?_, by omega, fun q hq' => ?_⟩
    · rw [hl]
      exact row_of (f := qV) (z := 3) (fun _ => rfl) (by decide) hl (fun i hi j hj => (hq i hi).1 j hj)
    · obtain ⟨i, hi, rfl⟩ := List.getElem_of_mem hq'
      exact (hq i hi).2
set_option maxRecDepth 20000 in
theorem open_rrow {fuel : Nat} {c : Value} {x : DataW H × List MemPlace} (h : DataW.trod enc Try.prog W 0 (fun _ => true) true fuel 25 [c] = some x) : ∃ rs, RRow W c rs := by
  rcases DataW.trod_slice Try.underlying25 h with ⟨h0, _⟩ | ⟨a, len, cap, elems, rest, n, _, hcs, _, _, hlc, hcm, hlen, hel, _, _⟩
  · simp at h0
    subst h0
    exact ⟨[], RRow.nil W⟩
  · simp at hcs
    subst hcs
    have each : ∀ i, i < len → ∃ q : Rc, (∀ j, j < 5 → W.cell? ((a.add (i * 5)).add j) = (rV q)[j]?) ∧ q.n.size ≤ maxLen ∧ q.d.size ≤ maxLen := by
      intro i hi
      have hb := hel i hi
      rw [r_cellsOf] at hb
      have hs : (elems[i]?).isSome = true := by rw [List.getElem?_eq_getElem (by omega)]; rfl
      rw [← hb] at hs
      obtain ⟨y, hy⟩ := Option.isSome_iff_exists.1 hs
      rw [Option.bind_eq_some_iff] at hy
      obtain ⟨cs, hcs, hy⟩ := hy
      obtain ⟨_, hcl, hcell⟩ := World.cells?_some hcs
      obtain ⟨xs, k, _, _, _, hxl, hf⟩ := DataW.trod_struct Try.underlying54 hy
      match xs, hxl, cs, hcl, hcell, hf with
      | [y0, y1, y2, y3, y4], _, [c0, c1, c2, c3, c4], _, hcell, hf =>
        have t0 := hf 0 _ rfl
        have t1 := hf 1 _ rfl
        have t2 := hf 2 _ rfl
        have t3 := hf 3 _ rfl
        have t4 := hf 4 _ rfl
        simp [s_cellsOf, int_cells] at t0 t1 t2 t3 t4
        obtain ⟨s, e0, _, hss⟩ := DataW.trod_string Try.underlying9 t0
        obtain ⟨t, e1, _, _⟩ := DataW.trod_int Try.underlying3 t1
        obtain ⟨u, e2, _, _⟩ := DataW.trod_int Try.underlying3 t2
        obtain ⟨l, e3, _, _⟩ := DataW.trod_int Try.underlying3 t3
        obtain ⟨d, e4, _, hds⟩ := DataW.trod_string Try.underlying9 t4
        simp at e0 e1 e2 e3 e4
        refine ⟨⟨s, t, u, l, d⟩, fun j hj => ?_, hss, hds⟩
        have := hcell j (by simpa using hj)
        rw [this]
        subst e0 e1 e2 e3 e4
        rfl
    obtain ⟨qs, hl, hq⟩ := list_of len each
    refine ⟨qs, ?_, by omega, fun q hq' => ?_⟩
    · rw [hl]
      exact row_of (f := rV) (z := 5) (fun _ => rfl) (by decide) hl (fun i hi j hj => (hq i hi).1 j hj)
    · obtain ⟨i, hi, rfl⟩ := List.getElem_of_mem hq'
      exact (hq i hi).2
end

set_option maxRecDepth 100000 in
set_option maxHeartbeats 1000000 in
/-- An api.Msg as it comes in. -/
theorem open_msg {H : Type} {enc : TypeId × Value → H} {W : World} {r : Reach} {b0 : Nat} {v : Value} {d : DataW H} {p : List MemPlace} (hval : Value.okWide Try.prog W r b0 27 v) (h0 : DataW.Trod enc Try.prog W 0 (fun _ => true) true 27 v d p) :
    ∃ (m : Ms) (v0 v1 v2 v3 : Value), v = .agg (msgC m.h v0 v1 v2 v3) ∧ QRow W v0 m.qs ∧ RRow W v1 m.an ∧ RRow W v2 m.ns ∧ RRow W v3 m.ar := by
  obtain ⟨cs, rfl, hsz⟩ := okWide_struct Try.underlying27 hval
  obtain ⟨fuel, hf⟩ := h0
  obtain ⟨xs, n, _, hx, hl, hlen, hfs⟩ := DataW.trod_struct Try.underlying27 hf
  obtain ⟨l, rfl⟩ : ∃ l : List Value, cs = l.toArray := ⟨cs.toList, by simp⟩
  have hl13 : l.length = 13 := by rw [m_cellsOf] at hsz; simpa using hsz
  match l, hl13 with
  | [c0, c1, c2, c3, c4, c5, c6, c7, c8, c9, c10, c11, c12], _ =>
  match xs, hlen with
  | [y0, y1, y2, y3, y4], _ =>
    have t0 := hfs 0 _ rfl
    have t1 := hfs 1 _ rfl
    have t2 := hfs 2 _ rfl
    have t3 := hfs 3 _ rfl
    have t4 := hfs 4 _ rfl
    simp [head_cells, qs_cellsOf, rs_cellsOf, Value.cells] at t0 t1 t2 t3 t4
    obtain ⟨q0, h1⟩ := open_qrow t1
    obtain ⟨q1, h2⟩ := open_rrow t2
    obtain ⟨q2, h3⟩ := open_rrow t3
    obtain ⟨q3, h4⟩ := open_rrow t4
    obtain ⟨zs, k, _, _, _, hzl, hz⟩ := DataW.trod_struct Try.underlying23 t0
    match zs, hzl with
    | [z0, z1, z2, z3, z4, z5, z6, z7, z8], _ =>
      have u0 := hz 0 _ rfl
      have u1 := hz 1 _ rfl
      have u2 := hz 2 _ rfl
      have u3 := hz 3 _ rfl
      have u4 := hz 4 _ rfl
      have u5 := hz 5 _ rfl
      have u6 := hz 6 _ rfl
      have u7 := hz 7 _ rfl
      have u8 := hz 8 _ rfl
      simp [bool_cells, int_cells] at u0 u1 u2 u3 u4 u5 u6 u7 u8
      obtain ⟨id, e0, x0, _⟩ := DataW.trod_int Try.underlying3 u0
      obtain ⟨qr, e1, x1⟩ := DataW.trod_bool Try.underlying4 u1
      obtain ⟨op, e2, x2, _⟩ := DataW.trod_int Try.underlying3 u2
      obtain ⟨aa, e3, x3⟩ := DataW.trod_bool Try.underlying4 u3
      obtain ⟨tc, e4, x4⟩ := DataW.trod_bool Try.underlying4 u4
      obtain ⟨rd, e5, x5⟩ := DataW.trod_bool Try.underlying4 u5
      obtain ⟨ra, e6, x6⟩ := DataW.trod_bool Try.underlying4 u6
      obtain ⟨z, e7, x7, _⟩ := DataW.trod_int Try.underlying3 u7
      obtain ⟨rc, e8, x8, _⟩ := DataW.trod_int Try.underlying3 u8
      simp at e0 e1 e2 e3 e4 e5 e6 e7 e8
      subst e0 e1 e2 e3 e4 e5 e6 e7 e8
      exact ⟨⟨⟨id, qr, op, aa, tc, rd, ra, z, rc⟩, q0, q1, q2, q3⟩, c9, c10, c11, c12, rfl, h1, h2, h3, h4⟩

end Go.Proofs.Ytbffnicfibfceaa

/- Put, Get and SameMsg, of a message whose parts are told one by one. -/
namespace Go.Proofs.Ytbffnicfibfceaa
open Go.RowKit
open Pl

/-- Get of a message with this header. -/
theorem get_h (s : ByteArray) (id : Int) (qr : Bool) (op : Int) (aa tc rd ra : Bool) (z rc : Int) (qs : List Qn) (an ns ar : List Rc) (E : Int) (w : World) (hs : s.size ≤ maxLen) (h : gM s = ⟨⟨id, qr, op, aa, tc, rd, ra, z, rc⟩, qs, an, ns, ar⟩ ∧ gE s = E) :
    Calls Try.prog 11 #[.string s] w fun e w' => ∃ (y0 y1 y2 y3 : Option Addr) (n0 n1 n2 n3 k0 k1 k2 k3 : Nat), e = .returned (.tuple #[.agg #[.int .i64 id, .bool qr, .int .i64 op, .bool aa, .bool tc, .bool rd, .bool ra, .int .i64 z, .int .i64 rc, .slice y0 n0 k0, .slice y1 n1 k1, .slice y2 n2 k2, .slice y3 n3 k3], .int .i64 E]) ∧ Own w.heap.size w' (.slice y0 n0 k0) (.slice y1 n1 k1) (.slice y2 n2 k2) (.slice y3 n3 k3) ⟨⟨id, qr, op, aa, tc, rd, ra, z, rc⟩, qs, an, ns, ar⟩ ∧ Below w.heap.size w w' := get_k s _ E w hs h
theorem same_h (id : Int) (qr : Bool) (op : Int) (aa tc rd ra : Bool) (z rc : Int) (qs : List Qn) (an ns ar : List Rc) (v0 v1 v2 v3 u0 u1 u2 u3 : Value) (w : World) (a : MR w v0 v1 v2 v3 ⟨⟨id, qr, op, aa, tc, rd, ra, z, rc⟩, qs, an, ns, ar⟩) (b : MR w u0 u1 u2 u3 ⟨⟨id, qr, op, aa, tc, rd, ra, z, rc⟩, qs, an, ns, ar⟩) :
    Calls Try.prog 8 #[.agg #[.int .i64 id, .bool qr, .int .i64 op, .bool aa, .bool tc, .bool rd, .bool ra, .int .i64 z, .int .i64 rc, v0, v1, v2, v3], .agg #[.int .i64 id, .bool qr, .int .i64 op, .bool aa, .bool tc, .bool rd, .bool ra, .int .i64 z, .int .i64 rc, u0, u1, u2, u3]] w fun e w' => e = .returned (.bool true) ∧ Below w.heap.size w w' := sameMsg_yes ⟨⟨id, qr, op, aa, tc, rd, ra, z, rc⟩, qs, an, ns, ar⟩ v0 v1 v2 v3 u0 u1 u2 u3 w a b
/-- What Put gives: bytes that are read, or none. -/
theorem put_ways (m : Ms) : (∃ T : ByteArray, putV m = .tuple #[.string T, .int .i64 0] ∧ getM T = some m ∧ T.size ≤ 4096 ∧ 12 ≤ T.size) ∨ ∃ E : Int, putV m = .tuple #[.string ⟨#[]⟩, .int .i64 E] ∧ (E = 700 ∨ E = 701) ∧ (mayM m = true → E = 701) := by
  cases hm : mayM m with
  | false => exact .inr ⟨700, putV_no hm, .inl rfl, fun h => by simp at h⟩
  | true =>
    rw [putV_yes hm]
    cases hp : putSt m with
    | none => exact .inr ⟨701, rfl, .inr rfl, fun _ => rfl⟩
    | some st =>
      obtain ⟨h1, h2, h3⟩ := there_back hm hp
      exact .inl ⟨⟨st.1.toArray⟩, rfl, h1, by rw [toArr_size]; exact h2, by rw [toArr_size]; exact h3⟩
theorem own_q {B : Nat} {w : World} {v0 v1 v2 v3 : Value} {m : Ms} (h : Own B w v0 v1 v2 v3 m) (hm : mayM m = true) : QRow w v0 m.qs ∧ RRow w v1 m.an ∧ RRow w v2 m.ns ∧ RRow w v3 m.ar := by
  unfold mayM at hm
  simp only [Bool.and_eq_true] at hm
  obtain ⟨_, ⟨⟨h0, h1⟩, h2⟩, h3⟩ := hm
  have f0 := few_iff h0
  have f1 := few_iff h1
  have f2 := few_iff h2
  have f3 := few_iff h3
  have R : ∀ rs : List Rc, rs.all mayR = true → ∀ r ∈ rs, r.n.size ≤ maxLen ∧ r.d.size ≤ maxLen := fun rs hr r hm => by
    have := List.all_eq_true.1 hr r hm
    unfold mayR at this
    simp only [Bool.and_eq_true] at this
    have a := (name_some this.1.1.1).1
    have b := (may_top this.2).2.2
    rw [data_len] at a b
    exact ⟨small100 (by omega), small100 (by omega)⟩
  refine ⟨⟨Row.of_own h.q, small100 (by omega), fun q hq => ?_⟩, ⟨Row.of_own h.an, small100 (by omega), R _ f1.2⟩, ⟨Row.of_own h.ns, small100 (by omega), R _ f2.2⟩, ⟨Row.of_own h.ar, small100 (by omega), R _ f3.2⟩⟩
  have := List.all_eq_true.1 f0.2 q hq
  unfold mayQ at this
  simp only [Bool.and_eq_true] at this
  have a := (name_some this.1.1).1
  rw [data_len] at a
  exact small100 (by omega)
theorem may_few {m : Ms} (hm : mayM m = true) : m.qs.length ≤ 64 ∧ m.an.length ≤ 64 ∧ m.ns.length ≤ 64 ∧ m.ar.length ≤ 64 := by
  unfold mayM at hm
  simp only [Bool.and_eq_true] at hm
  obtain ⟨_, ⟨⟨h0, h1⟩, h2⟩, h3⟩ := hm
  exact ⟨(few_iff h0).1, (few_iff h1).1, (few_iff h2).1, (few_iff h3).1⟩

end Go.Proofs.Ytbffnicfibfceaa
