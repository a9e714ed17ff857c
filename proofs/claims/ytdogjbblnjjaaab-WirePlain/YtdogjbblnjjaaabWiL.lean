/- What Get of package wire gives. -/
import Derived.Test.YtdogjbblnjjaaabWiK
namespace Go.Proofs.Ytdogjbblnjjaaab
open Go.RowKit
open Pl

/-- No message. -/
def hdZ : Hd := ⟨0, false, 0, false, false, false, false, 0, 0⟩
def msZ : Ms := ⟨hdZ, [], [], [], []⟩
/-- What Get gives: the message, the number of its error. -/
def gM (s : ByteArray) : Ms := if s.size ≤ 4096 then (getM s).getD msZ else msZ
def gE (s : ByteArray) : Int := if s.size ≤ 4096 then (match getM s with | some _ => 0 | none => 700) else 701
theorem g_long {s : ByteArray} (h : ¬ s.size ≤ 4096) : gM s = msZ ∧ gE s = 701 := by unfold gM gE; rw [if_neg h, if_neg h]; exact ⟨rfl, rfl⟩
theorem g_none {s : ByteArray} (h : s.size ≤ 4096) (hn : getM s = none) : gM s = msZ ∧ gE s = 700 := by unfold gM gE; rw [if_pos h, if_pos h, hn]; exact ⟨rfl, rfl⟩
theorem g_some {s : ByteArray} {m : Ms} (h : s.size ≤ 4096) (hn : getM s = some m) : gM s = m ∧ gE s = 0 := by unfold gM gE; rw [if_pos h, if_pos h, hn]; exact ⟨rfl, rfl⟩

/-- The rows of a message that the call made. -/
structure Own (B : Nat) (w : World) (v0 v1 v2 v3 : Value) (m : Ms) : Prop where
  q : w.ownsRow B 38 3 v0 m.qs.length (qC m.qs)
  an : w.ownsRow B 25 5 v1 m.an.length (rC m.an)
  ns : w.ownsRow B 25 5 v2 m.ns.length (rC m.ns)
  ar : w.ownsRow B 25 5 v3 m.ar.length (rC m.ar)
  d12 : ∀ k, v1.ownBlock = some k → v2.ownBlock ≠ some k
  d13 : ∀ k, v1.ownBlock = some k → v3.ownBlock ≠ some k
  d23 : ∀ k, v2.ownBlock = some k → v3.ownBlock ≠ some k
theorem Own.none (B : Nat) (w : World) : Own B w (.slice none 0 0) (.slice none 0 0) (.slice none 0 0) (.slice none 0 0) msZ :=
  ⟨World.ownsRow_nil _ _ _ _, World.ownsRow_nil _ _ _ _, World.ownsRow_nil _ _ _ _, World.ownsRow_nil _ _ _ _, fun k e => by simp [Value.ownBlock] at e, fun k e => by simp [Value.ownBlock] at e, fun k e => by simp [Value.ownBlock] at e⟩
theorem own_base {w : World} {B B' e z n : Nat} {v : Value} {xs : List Value} (h : w.ownsRow B e z v n xs) (hB : B' ≤ B) : w.ownsRow B' e z v n xs := by
  refine ⟨h.1, ?_⟩
  rcases h.2 with h1 | ⟨g, cap, cur, h1, h2, rest⟩
  · exact .inl h1
  · exact .inr ⟨g, cap, cur, h1, Nat.le_trans hB h2, rest⟩
theorem own_past {w w' : World} {B e z n : Nat} {v : Value} {xs : List Value} (h : w.ownsRow B e z v n xs) (hb : Below w.heap.size w w') : w'.ownsRow B e z v n xs := Turn.row (S := fun _ => False) (Turn.of_below hb) h (fun _ _ => id)
theorem Own.below {B : Nat} {w w' : World} {v0 v1 v2 v3 : Value} {m : Ms} (h : Own B w v0 v1 v2 v3 m) (hb : Below w.heap.size w w') : Own B w' v0 v1 v2 v3 m :=
  ⟨own_past h.q hb, own_past h.an hb, own_past h.ns hb, own_past h.ar hb, h.d12, h.d13, h.d23⟩

/-- What Get holds: the result, the counts, the reader, the message. -/
structure GA (w w' : World) (g gc gm : Nat) (s : ByteArray) (p : Nat) (b : Bool) (C M : Array Value) : Prop where
  rd : RD w' g s p b
  bel : Below w.heap.size w w'
  res : Blk w' w.heap.size (msgC hdZ (.slice none 0 0) (.slice none 0 0) (.slice none 0 0) (.slice none 0 0)) 33
  cnt : Blk w' gc C 47
  msg : Blk w' gm M 33
  n1 : w.heap.size < gc
  n2 : gc < g
  n3 : g < gm
  n4 : gm < w'.heap.size
section
variable {w w' w'' : World} {g gc gm : Nat} {s : ByteArray} {p p' : Nat} {b b' : Bool} {C M : Array Value}
theorem GA.step (j : GA w w' g gc gm s p b C M) (hr : RD w'' g s p' b') (ht : TG g w' w'') : GA w w'' g gc gm s p' b' C M :=
  ⟨hr, Turn.below j.bel ht j.bel.size (fun i e => by subst e; have := j.n1; have := j.n2; omega), ht.blk j.res (by have := j.n1; have := j.n2; omega), ht.blk j.cnt (by have := j.n2; omega), ht.blk j.msg (by have := j.n3; omega), j.n1, j.n2, j.n3, Nat.lt_of_lt_of_le j.n4 ht.size⟩
theorem GA.put (j : GA w w' g gc gm s p b C M) (i : Nat) (v : Value) (M' : Array Value) (hM : M.setIfInBounds i v = M') : GA w (w'.setCell ⟨gm, i, none⟩ v) g gc gm s p b C M' :=
  ⟨j.rd.other (by have := j.n3; omega) i v, j.bel.setCell (by have := j.n1; have := j.n2; have := j.n3; show w.heap.size ≤ gm; omega) v, j.res.other (by have := j.n1; have := j.n2; have := j.n3; omega) i v, j.cnt.other (by have := j.n2; have := j.n3; omega) i v, by rw [← hM]; exact j.msg.set i v, j.n1, j.n2, j.n3, by simpa using j.n4⟩
theorem row_put {w : World} {gm B e z n : Nat} {v : Value} {xs : List Value} (h : w.ownsRow B e z v n xs) (hB : gm < B) (i : Nat) (x : Value) : (w.setCell ⟨gm, i, none⟩ x).ownsRow B e z v n xs :=
  Turn.row (S := fun k => k = gm) (Turn.of_set (S := fun k => k = gm) w (p := ⟨gm, i, none⟩) rfl x) h (fun k hk e => by have := (h.lt k hk).1; omega)
theorem row_step {w w' : World} {g B e z n : Nat} {v : Value} {xs : List Value} (h : w.ownsRow B e z v n xs) (hB : g < B) (ht : TG g w w') : w'.ownsRow B e z v n xs := ht.row h (fun k hk e => by have := (h.lt k hk).1; omega)
end

theorem parts_fin {s : ByteArray} {qs : List Qn} {an ns ar : List Rc} {p0 p1 p2 p3 : Nat} {b0 b1 b2 b3 : Bool}
    (h0 : (b0 = false ∧ false = false ∧ part (getQ s) (cnt s 0) 12 = some (qs, p0)) ∨ (b0 = true ∧ (false = true ∨ part (getQ s) (cnt s 0) 12 = none)))
    (h1 : (b1 = false ∧ b0 = false ∧ part (getR s) (cnt s 1) p0 = some (an, p1)) ∨ (b1 = true ∧ (b0 = true ∨ part (getR s) (cnt s 1) p0 = none)))
    (h2 : (b2 = false ∧ b1 = false ∧ part (getR s) (cnt s 2) p1 = some (ns, p2)) ∨ (b2 = true ∧ (b1 = true ∨ part (getR s) (cnt s 2) p1 = none)))
    (h3 : (b3 = false ∧ b2 = false ∧ part (getR s) (cnt s 3) p2 = some (ar, p3)) ∨ (b3 = true ∧ (b2 = true ∨ part (getR s) (cnt s 3) p2 = none))) :
    (b3 = false ∧ parts s = some ((qs, an, ns, ar), p3)) ∨ (b3 = true ∧ parts s = none) := by
  unfold parts
  rcases h0 with ⟨rfl, _, h0⟩ | ⟨rfl, h0⟩
  · rw [h0]
    simp only
    rcases h1 with ⟨rfl, _, h1⟩ | ⟨rfl, h1⟩
    · rw [h1]
      simp only
      rcases h2 with ⟨rfl, _, h2⟩ | ⟨rfl, h2⟩
      · rw [h2]
        simp only
        rcases h3 with ⟨rfl, _, h3⟩ | ⟨rfl, h3⟩
        · rw [h3]; exact .inl ⟨rfl, rfl⟩
        · rcases h3 with h3 | h3
          · simp at h3
          · rw [h3]; exact .inr ⟨rfl, rfl⟩
      · rcases h2 with h2 | h2
        · simp at h2
        · rw [h2]
          rcases h3 with ⟨_, e, _⟩ | ⟨e, _⟩
          · simp at e
          · exact .inr ⟨e, rfl⟩
    · rcases h1 with h1 | h1
      · simp at h1
      · rw [h1]
        rcases h2 with ⟨_, e, _⟩ | ⟨rfl, _⟩
        · simp at e
        · rcases h3 with ⟨_, e, _⟩ | ⟨e, _⟩
          · simp at e
          · exact .inr ⟨e, rfl⟩
  · rcases h0 with h0 | h0
    · simp at h0
    · rw [h0]
      rcases h1 with ⟨_, e, _⟩ | ⟨rfl, _⟩
      · simp at e
      · rcases h2 with ⟨_, e, _⟩ | ⟨rfl, _⟩
        · simp at e
        · rcases h3 with ⟨_, e, _⟩ | ⟨e, _⟩
          · simp at e
          · exact .inr ⟨e, rfl⟩
theorem cnt_int (s : ByteArray) (i : Nat) : val s (4 + 2 * i) 2 = (cnt s i : Int) := by
  have := val_lt s (4 + 2 * i) 2
  unfold cnt; omega
theorem cnt_lt (s : ByteArray) (i : Nat) : cnt s i < 65536 := by
  have := val_lt s (4 + 2 * i) 2
  unfold cnt; omega
theorem cntC_as (s : ByteArray) : cntC s 4 = cntV (cnt s 0 : Int) (cnt s 1 : Int) (cnt s 2 : Int) (cnt s 3 : Int) := by
  rw [← cnt_int, ← cnt_int, ← cnt_int, ← cnt_int]; rfl
theorem headW_as (s : ByteArray) : headW (val s 0 2) (val s 2 2) = headV (hdOf s).id (hdOf s).qr (hdOf s).op (hdOf s).aa (hdOf s).tc (hdOf s).rd (hdOf s).ra (hdOf s).z (hdOf s).rc := rfl

/-- What is left where no message is given. -/
theorem blk13 {w : World} {g : Nat} {h : Hd} {v0 v1 v2 v3 : Value} {t : TypeId} (k : Blk w g (msgC h v0 v1 v2 v3) t) :
    w.cell? ⟨g, 0, none⟩ = some (.int .i64 h.id) ∧ w.cell? ⟨g, 1, none⟩ = some (.bool h.qr) ∧ w.cell? ⟨g, 2, none⟩ = some (.int .i64 h.op) ∧ w.cell? ⟨g, 3, none⟩ = some (.bool h.aa) ∧ w.cell? ⟨g, 4, none⟩ = some (.bool h.tc) ∧ w.cell? ⟨g, 5, none⟩ = some (.bool h.rd) ∧ w.cell? ⟨g, 6, none⟩ = some (.bool h.ra) ∧ w.cell? ⟨g, 7, none⟩ = some (.int .i64 h.z) ∧ w.cell? ⟨g, 8, none⟩ = some (.int .i64 h.rc) ∧
    w.cell? ⟨g, 9, none⟩ = some v0 ∧ w.cell? ⟨g, 10, none⟩ = some v1 ∧ w.cell? ⟨g, 11, none⟩ = some v2 ∧ w.cell? ⟨g, 12, none⟩ = some v3 :=
  ⟨k.cell 0, k.cell 1, k.cell 2, k.cell 3, k.cell 4, k.cell 5, k.cell 6, k.cell 7, k.cell 8, k.cell 9, k.cell 10, k.cell 11, k.cell 12⟩
theorem open13 {w : World} {g : Nat} {C : Array Value} {t : TypeId} (k : Blk w g C t) :
    w.frozen? ⟨g, 0, none⟩ = false ∧ w.frozen? ⟨g, 1, none⟩ = false ∧ w.frozen? ⟨g, 2, none⟩ = false ∧ w.frozen? ⟨g, 3, none⟩ = false ∧ w.frozen? ⟨g, 4, none⟩ = false ∧ w.frozen? ⟨g, 5, none⟩ = false ∧ w.frozen? ⟨g, 6, none⟩ = false ∧ w.frozen? ⟨g, 7, none⟩ = false ∧ w.frozen? ⟨g, 8, none⟩ = false ∧ w.frozen? ⟨g, 9, none⟩ = false ∧ w.frozen? ⟨g, 10, none⟩ = false ∧ w.frozen? ⟨g, 11, none⟩ = false ∧ w.frozen? ⟨g, 12, none⟩ = false :=
  ⟨k.frozen 0, k.frozen 1, k.frozen 2, k.frozen 3, k.frozen 4, k.frozen 5, k.frozen 6, k.frozen 7, k.frozen 8, k.frozen 9, k.frozen 10, k.frozen 11, k.frozen 12⟩

/-- Thirteen cells are stored. -/
def set13 (w : World) (g : Nat) (h : Hd) (v0 v1 v2 v3 : Value) : World :=
  ((((((((((((w.setCell ⟨g, 0, none⟩ (.int .i64 h.id)).setCell ⟨g, 1, none⟩ (.bool h.qr)).setCell ⟨g, 2, none⟩ (.int .i64 h.op)).setCell ⟨g, 3, none⟩ (.bool h.aa)).setCell ⟨g, 4, none⟩ (.bool h.tc)).setCell ⟨g, 5, none⟩ (.bool h.rd)).setCell ⟨g, 6, none⟩ (.bool h.ra)).setCell ⟨g, 7, none⟩ (.int .i64 h.z)).setCell ⟨g, 8, none⟩ (.int .i64 h.rc)).setCell ⟨g, 9, none⟩ v0).setCell ⟨g, 10, none⟩ v1).setCell ⟨g, 11, none⟩ v2).setCell ⟨g, 12, none⟩ v3
theorem set13_blk {w : World} {g : Nat} {h h' : Hd} {v0 v1 v2 v3 u0 u1 u2 u3 : Value} {t : TypeId} (k : Blk w g (msgC h' u0 u1 u2 u3) t) : Blk (set13 w g h v0 v1 v2 v3) g (msgC h v0 v1 v2 v3) t := by
  have k0 : Blk _ g (msgC ⟨h.id, h'.qr, h'.op, h'.aa, h'.tc, h'.rd, h'.ra, h'.z, h'.rc⟩ u0 u1 u2 u3) t := k.set 0 (.int .i64 h.id)
  have k1 : Blk _ g (msgC ⟨h.id, h.qr, h'.op, h'.aa, h'.tc, h'.rd, h'.ra, h'.z, h'.rc⟩ u0 u1 u2 u3) t := k0.set 1 (.bool h.qr)
  have k2 : Blk _ g (msgC ⟨h.id, h.qr, h.op, h'.aa, h'.tc, h'.rd, h'.ra, h'.z, h'.rc⟩ u0 u1 u2 u3) t := k1.set 2 (.int .i64 h.op)
  have k3 : Blk _ g (msgC ⟨h.id, h.qr, h.op, h.aa, h'.tc, h'.rd, h'.ra, h'.z, h'.rc⟩ u0 u1 u2 u3) t := k2.set 3 (.bool h.aa)
  have k4 : Blk _ g (msgC ⟨h.id, h.qr, h.op, h.aa, h.tc, h'.rd, h'.ra, h'.z, h'.rc⟩ u0 u1 u2 u3) t := k3.set 4 (.bool h.tc)
  have k5 : Blk _ g (msgC ⟨h.id, h.qr, h.op, h.aa, h.tc, h.rd, h'.ra, h'.z, h'.rc⟩ u0 u1 u2 u3) t := k4.set 5 (.bool h.rd)
  have k6 : Blk _ g (msgC ⟨h.id, h.qr, h.op, h.aa, h.tc, h.rd, h.ra, h'.z, h'.rc⟩ u0 u1 u2 u3) t := k5.set 6 (.bool h.ra)
  have k7 : Blk _ g (msgC ⟨h.id, h.qr, h.op, h.aa, h.tc, h.rd, h.ra, h.z, h'.rc⟩ u0 u1 u2 u3) t := k6.set 7 (.int .i64 h.z)
  have k8 : Blk _ g (msgC ⟨h.id, h.qr, h.op, h.aa, h.tc, h.rd, h.ra, h.z, h.rc⟩ u0 u1 u2 u3) t := k7.set 8 (.int .i64 h.rc)
  have k9 : Blk _ g (msgC ⟨h.id, h.qr, h.op, h.aa, h.tc, h.rd, h.ra, h.z, h.rc⟩ v0 u1 u2 u3) t := k8.set 9 v0
  have k10 : Blk _ g (msgC ⟨h.id, h.qr, h.op, h.aa, h.tc, h.rd, h.ra, h.z, h.rc⟩ v0 v1 u2 u3) t := k9.set 10 v1
  have k11 : Blk _ g (msgC ⟨h.id, h.qr, h.op, h.aa, h.tc, h.rd, h.ra, h.z, h.rc⟩ v0 v1 v2 u3) t := k10.set 11 v2
  have k12 : Blk _ g (msgC ⟨h.id, h.qr, h.op, h.aa, h.tc, h.rd, h.ra, h.z, h.rc⟩ v0 v1 v2 v3) t := k11.set 12 v3
  exact k12
theorem set13_turn (w : World) (g : Nat) (h : Hd) (v0 v1 v2 v3 : Value) : Turn (fun k => k = g) w (set13 w g h v0 v1 v2 v3) := by
  have T : ∀ (u : World) (i : Nat) (v : Value), Turn (fun k => k = g) u (u.setCell ⟨g, i, none⟩ v) := fun u i v => Turn.of_set (S := fun k => k = g) u (p := ⟨g, i, none⟩) rfl v
  unfold set13
  exact ((((((((((((T _ _ _).same (T _ _ _)).same (T _ _ _)).same (T _ _ _)).same (T _ _ _)).same (T _ _ _)).same (T _ _ _)).same (T _ _ _)).same (T _ _ _)).same (T _ _ _)).same (T _ _ _)).same (T _ _ _)).same (T _ _ _)

end Go.Proofs.Ytdogjbblnjjaaab
