/- What the document's GetMsg holds while it reads. -/
import Derived.Test.YtcapankhobnfeaaXWjA
namespace Go.Proofs.Ytcapankhobnfeaa
open Go.RowKit
open Pl

/-- Rows of two types lie in two blocks. -/
theorem apart_types {w : World} {B B' e e' z z' n n' : Nat} {v v' : Value} {xs xs' : List Value} (h : w.ownsRow B e z v n xs) (h' : w.ownsRow B' e' z' v' n' xs') (he : e ≠ e') : ∀ k, v.ownBlock = some k → v'.ownBlock ≠ some k := by
  intro k hk hk'
  rcases h.2 with ⟨h1, _⟩ | ⟨g, cap, cur, h1, _, hg, _⟩
  · rw [h1] at hk; simp [Value.ownBlock] at hk
  · rcases h'.2 with ⟨h2, _⟩ | ⟨g', cap', cur', h2, _, hg', _⟩
    · rw [h2] at hk'; simp [Value.ownBlock] at hk'
    · rw [h1] at hk
      rw [h2] at hk'
      simp [Value.ownBlock] at hk hk'
      subst hk
      subst hk'
      rw [hg] at hg'
      simp at hg'
      exact he hg'.2
/-- Another row lies as it lay where one has grown. -/
theorem own_beside {u w' : World} {B e z n : Nat} {v v0 : Value} {xs : List Value} (h : u.ownsRow B e z v n xs) (o : Obj) (hg : (u.alloc o).grownBy w' v0.ownBlock) (hd : ∀ k, v0.ownBlock = some k → v.ownBlock ≠ some k) : w'.ownsRow B e z v n xs :=
  Turn.row (S := fun k => v0.ownBlock = some k) (Turn.of_grown hg (fun _ hk => hk)) (h.alloc o) (fun k hk e => hd k e hk)
theorem new_apart {u : World} {B e z n : Nat} {v v0 v5 : Value} {xs : List Value} (h : u.ownsRow B e z v n xs) (hd : ∀ k, v0.ownBlock = some k → v.ownBlock ≠ some k) (at5 : v5.ownBlock = v0.ownBlock ∨ ∃ g, v5.ownBlock = some g ∧ u.heap.size ≤ g) : ∀ k, v5.ownBlock = some k → v.ownBlock ≠ some k := by
  intro k hk hv
  rcases at5 with e | ⟨g, e, hg⟩
  · rw [e] at hk; exact hd k hk hv
  · rw [e] at hk
    simp at hk
    subst hk
    have := (h.lt _ hv).2
    omega
theorem flip_apart {a b : Value} (h : ∀ k, a.ownBlock = some k → b.ownBlock ≠ some k) : ∀ k, b.ownBlock = some k → a.ownBlock ≠ some k := fun k hb ha => h k ha hb

section
variable {B : Nat} {u w5 : World} {v0 v1 v2 v3 v5 : Value} {m : Ms} {o : Obj} {N : Nat}
theorem Own.addQ {q : Qn} (h : Own B u v0 v1 v2 v3 m) (own5 : w5.ownsRow B 46 3 v5 N (qC (m.qs ++ [q]))) (hN : N = (m.qs ++ [q]).length) (grow5 : (u.alloc o).grownBy w5 v0.ownBlock) : Own B w5 v5 v1 v2 v3 ⟨m.h, m.qs ++ [q], m.an, m.ns, m.ar⟩ :=
  ⟨by simp only; rw [← hN]; exact own5, own_beside h.an o grow5 (apart_types h.q h.an (by decide)), own_beside h.ns o grow5 (apart_types h.q h.ns (by decide)), own_beside h.ar o grow5 (apart_types h.q h.ar (by decide)), h.d12, h.d13, h.d23⟩
theorem Own.addA {q : Rc} (h : Own B u v0 v1 v2 v3 m) (own5 : w5.ownsRow B 54 5 v5 N (rC (m.an ++ [q]))) (hN : N = (m.an ++ [q]).length) (grow5 : (u.alloc o).grownBy w5 v1.ownBlock) (at5 : v5.ownBlock = v1.ownBlock ∨ ∃ g, v5.ownBlock = some g ∧ u.heap.size ≤ g) : Own B w5 v0 v5 v2 v3 ⟨m.h, m.qs, m.an ++ [q], m.ns, m.ar⟩ :=
  ⟨own_beside h.q o grow5 (apart_types h.an h.q (by decide)), by simp only; rw [← hN]; exact own5, own_beside h.ns o grow5 h.d12, own_beside h.ar o grow5 h.d13, new_apart h.ns h.d12 at5, new_apart h.ar h.d13 at5, h.d23⟩
theorem Own.addN {q : Rc} (h : Own B u v0 v1 v2 v3 m) (own5 : w5.ownsRow B 54 5 v5 N (rC (m.ns ++ [q]))) (hN : N = (m.ns ++ [q]).length) (grow5 : (u.alloc o).grownBy w5 v2.ownBlock) (at5 : v5.ownBlock = v2.ownBlock ∨ ∃ g, v5.ownBlock = some g ∧ u.heap.size ≤ g) : Own B w5 v0 v1 v5 v3 ⟨m.h, m.qs, m.an, m.ns ++ [q], m.ar⟩ :=
  ⟨own_beside h.q o grow5 (apart_types h.ns h.q (by decide)), own_beside h.an o grow5 (flip_apart h.d12), by simp only; rw [← hN]; exact own5, own_beside h.ar o grow5 h.d23, flip_apart (new_apart h.an (flip_apart h.d12) at5), h.d13, new_apart h.ar h.d23 at5⟩
theorem Own.addR {q : Rc} (h : Own B u v0 v1 v2 v3 m) (own5 : w5.ownsRow B 54 5 v5 N (rC (m.ar ++ [q]))) (hN : N = (m.ar ++ [q]).length) (grow5 : (u.alloc o).grownBy w5 v3.ownBlock) (at5 : v5.ownBlock = v3.ownBlock ∨ ∃ g, v5.ownBlock = some g ∧ u.heap.size ≤ g) : Own B w5 v0 v1 v2 v5 ⟨m.h, m.qs, m.an, m.ns, m.ar ++ [q]⟩ :=
  ⟨own_beside h.q o grow5 (apart_types h.ar h.q (by decide)), own_beside h.an o grow5 (flip_apart h.d13), own_beside h.ns o grow5 (flip_apart h.d23), by simp only; rw [← hN]; exact own5, h.d12, flip_apart (new_apart h.an (flip_apart h.d13) at5), flip_apart (new_apart h.ns (flip_apart h.d23) at5)⟩
theorem Own.put {gm : Nat} (h : Own B u v0 v1 v2 v3 m) (hB : gm < B) (i : Nat) (x : Value) : Own B (u.setCell ⟨gm, i, Option.none⟩ x) v0 v1 v2 v3 m :=
  ⟨row_put h.q hB i x, row_put h.an hB i x, row_put h.ns hB i x, row_put h.ar hB i x, h.d12, h.d13, h.d23⟩
end

/-- What GetMsg holds: the result, the counts, the message, its rows. -/
structure GB (w u : World) (gc gm : Nat) (C : Array Value) (hd : Hd) (v0 v1 v2 v3 : Value) (m : Ms) : Prop where
  bel : Below w.heap.size w u
  res : Blk u w.heap.size (msgC hdZ (.slice none 0 0) (.slice none 0 0) (.slice none 0 0) (.slice none 0 0)) 29
  cnt : Blk u gc C 81
  msg : Blk u gm (msgC hd v0 v1 v2 v3) 29
  own : Own (gm + 1) u v0 v1 v2 v3 m
  n1 : w.heap.size < gc
  n2 : gc < gm
  n4 : gm < u.heap.size
section
variable {w u u' w5 : World} {gc gm : Nat} {C : Array Value} {hd : Hd} {v0 v1 v2 v3 v5 : Value} {m m' : Ms} {o : Obj}
theorem GB.below (j : GB w u gc gm C hd v0 v1 v2 v3 m) (hb : Below u.heap.size u u') : GB w u' gc gm C hd v0 v1 v2 v3 m :=
  ⟨next j.bel hb, j.res.below hb, j.cnt.below hb, j.msg.below hb, j.own.below hb, j.n1, j.n2, Nat.lt_of_lt_of_le j.n4 hb.size⟩
/-- One row has grown, and its place in the message is stored. -/
theorem GB.grown (j : GB w u gc gm C hd v0 v1 v2 v3 m) {x : Value} (i : Nat) {u0 u1 u2 u3 : Value} (hx : ∀ k, x.ownBlock = some k → gm + 1 ≤ k) (grow5 : (u.alloc o).grownBy w5 x.ownBlock) (hM : (msgC hd v0 v1 v2 v3).setIfInBounds i v5 = msgC hd u0 u1 u2 u3) (hO : Own (gm + 1) w5 u0 u1 u2 u3 m') : GB w (w5.setCell ⟨gm, i, none⟩ v5) gc gm C hd u0 u1 u2 u3 m' := by
  have ne : ∀ k, k ≤ gm → some k ≠ x.ownBlock := fun k hk e => by have := hx k e.symm; omega
  have h1 := j.n1
  have h2 := j.n2
  refine ⟨?_, ?_, ?_, ?_, hO.put (by omega) i v5, h1, h2, ?_⟩
  · refine ((lay j.bel o).grown grow5 (by have := j.bel.size; simp; omega) (fun k e => by have := hx k e; omega)).setCell (p := ⟨gm, i, none⟩) (by show w.heap.size ≤ gm; omega) v5
  · exact ((j.res.alloc o).grown grow5 (ne w.heap.size (by omega))).other (by omega) i v5
  · exact ((j.cnt.alloc o).grown grow5 (ne gc (by omega))).other (by omega) i v5
  · rw [← hM]; exact ((j.msg.alloc o).grown grow5 (ne _ (Nat.le_refl _))).set i v5
  · have := grow5.size
    have := j.n4
    simp at *
    omega
end

/-- The parts as they are read, one by one: so many of them whole, and k of the next. -/
def sub0 (s : ByteArray) (k : Nat) : Option ((List Qn × List Rc × List Rc × List Rc) × Nat) := match getAll (getQ s) 12 k with
  | none => none
  | some (qs, p) => some ((qs, [], [], []), p)
def sub1 (s : ByteArray) (k : Nat) : Option ((List Qn × List Rc × List Rc × List Rc) × Nat) := match part (getQ s) (cnt s 0) 12 with
  | none => none
  | some (qs, a) => match getAll (getR s) a k with
    | none => none
    | some (an, p) => some ((qs, an, [], []), p)
def sub2 (s : ByteArray) (k : Nat) : Option ((List Qn × List Rc × List Rc × List Rc) × Nat) := match part (getQ s) (cnt s 0) 12 with
  | none => none
  | some (qs, a) => match part (getR s) (cnt s 1) a with
    | none => none
    | some (an, b) => match getAll (getR s) b k with
      | none => none
      | some (ns, p) => some ((qs, an, ns, []), p)
def sub3 (s : ByteArray) (k : Nat) : Option ((List Qn × List Rc × List Rc × List Rc) × Nat) := match part (getQ s) (cnt s 0) 12 with
  | none => none
  | some (qs, a) => match part (getR s) (cnt s 1) a with
    | none => none
    | some (an, b) => match part (getR s) (cnt s 2) b with
      | none => none
      | some (ns, c) => match getAll (getR s) c k with
        | none => none
        | some (ar, p) => some ((qs, an, ns, ar), p)

theorem part_few {α : Type} {f : Nat → Option (α × Nat)} {k p : Nat} (h : k ≤ 64) : part f k p = getAll f p k := by unfold part; rw [if_pos h]
theorem part_lots {α : Type} {f : Nat → Option (α × Nat)} {k p : Nat} (h : ¬ k ≤ 64) : part f k p = none := by unfold part; rw [if_neg h]
/-- A part that is whole. -/
theorem sub_whole0 {s : ByteArray} (h : cnt s 0 ≤ 64) : sub1 s 0 = sub0 s (cnt s 0) := by
  unfold sub1 sub0; rw [part_few h]
  cases getAll (getQ s) 12 (cnt s 0) <;> rfl
theorem sub_whole1 {s : ByteArray} (h : cnt s 1 ≤ 64) : sub2 s 0 = sub1 s (cnt s 1) := by
  unfold sub2 sub1
  cases part (getQ s) (cnt s 0) 12 with
  | none => rfl
  | some z =>
    simp only [part_few h]
    cases getAll (getR s) z.2 (cnt s 1) <;> rfl
theorem sub_whole2 {s : ByteArray} (h : cnt s 2 ≤ 64) : sub3 s 0 = sub2 s (cnt s 2) := by
  unfold sub3 sub2
  cases part (getQ s) (cnt s 0) 12 with
  | none => rfl
  | some z =>
    simp only
    cases part (getR s) (cnt s 1) z.2 with
    | none => rfl
    | some y =>
      simp only [part_few h]
      cases getAll (getR s) y.2 (cnt s 2) <;> rfl
theorem sub_whole3 {s : ByteArray} (h : cnt s 3 ≤ 64) : parts s = sub3 s (cnt s 3) := by
  unfold sub3 parts
  cases part (getQ s) (cnt s 0) 12 with
  | none => rfl
  | some z =>
    simp only
    cases part (getR s) (cnt s 1) z.2 with
    | none => rfl
    | some y =>
      simp only
      cases part (getR s) (cnt s 2) y.2 with
      | none => rfl
      | some x => simp only [part_few h]; cases getAll (getR s) x.2 (cnt s 3) <;> rfl
theorem sub_start (s : ByteArray) : sub0 s 0 = some (([], [], [], []), 12) := rfl
/-- One item more, or none. -/
theorem sub_q {s : ByteArray} {k p : Nat} {qs : List Qn} {a b c : List Rc} (h : sub0 s k = some ((qs, a, b, c), p)) : (∀ x p', getQ s p = some (x, p') → sub0 s (k + 1) = some ((qs ++ [x], a, b, c), p')) ∧ (getQ s p = none → sub0 s (k + 1) = none) := by
  unfold sub0 at h ⊢
  cases h1 : getAll (getQ s) 12 k with
  | none => rw [h1] at h; simp at h
  | some z =>
    obtain ⟨ys, q⟩ := z
    rw [h1] at h
    simp at h
    obtain ⟨⟨rfl, rfl, rfl, rfl⟩, rfl⟩ := h
    exact ⟨fun x p' hx => by rw [getAll_next h1 hx], fun hx => by rw [getAll_stop h1 hx]⟩
theorem sub_a {s : ByteArray} {k p : Nat} {qs : List Qn} {a b c : List Rc} (h : sub1 s k = some ((qs, a, b, c), p)) : (∀ x p', getR s p = some (x, p') → sub1 s (k + 1) = some ((qs, a ++ [x], b, c), p')) ∧ (getR s p = none → sub1 s (k + 1) = none) := by
  unfold sub1 at h ⊢
  cases h0 : part (getQ s) (cnt s 0) 12 with
  | none => rw [h0] at h; simp at h
  | some z =>
    obtain ⟨zs, z0⟩ := z
    rw [h0] at h
    simp only at h ⊢
    cases h1 : getAll (getR s) z0 k with
    | none => rw [h1] at h; simp at h
    | some z =>
      obtain ⟨ys, q⟩ := z
      rw [h1] at h
      simp at h
      obtain ⟨⟨rfl, rfl, rfl, rfl⟩, rfl⟩ := h
      exact ⟨fun x p' hx => by rw [getAll_next h1 hx], fun hx => by rw [getAll_stop h1 hx]⟩
theorem sub_n {s : ByteArray} {k p : Nat} {qs : List Qn} {a b c : List Rc} (h : sub2 s k = some ((qs, a, b, c), p)) : (∀ x p', getR s p = some (x, p') → sub2 s (k + 1) = some ((qs, a, b ++ [x], c), p')) ∧ (getR s p = none → sub2 s (k + 1) = none) := by
  unfold sub2 at h ⊢
  cases h0 : part (getQ s) (cnt s 0) 12 with
  | none => rw [h0] at h; simp at h
  | some z =>
    obtain ⟨zs, z0⟩ := z
    rw [h0] at h
    simp only at h ⊢
    cases h2 : part (getR s) (cnt s 1) z0 with
    | none => rw [h2] at h; simp at h
    | some z =>
      obtain ⟨zs2, z2⟩ := z
      rw [h2] at h
      simp only at h ⊢
      cases h1 : getAll (getR s) z2 k with
      | none => rw [h1] at h; simp at h
      | some z =>
        obtain ⟨ys, q⟩ := z
        rw [h1] at h
        simp at h
        obtain ⟨⟨rfl, rfl, rfl, rfl⟩, rfl⟩ := h
        exact ⟨fun x p' hx => by rw [getAll_next h1 hx], fun hx => by rw [getAll_stop h1 hx]⟩
theorem sub_r {s : ByteArray} {k p : Nat} {qs : List Qn} {a b c : List Rc} (h : sub3 s k = some ((qs, a, b, c), p)) : (∀ x p', getR s p = some (x, p') → sub3 s (k + 1) = some ((qs, a, b, c ++ [x]), p')) ∧ (getR s p = none → sub3 s (k + 1) = none) := by
  unfold sub3 at h ⊢
  cases h0 : part (getQ s) (cnt s 0) 12 with
  | none => rw [h0] at h; simp at h
  | some z =>
    obtain ⟨zs, z0⟩ := z
    rw [h0] at h
    simp only at h ⊢
    cases h2 : part (getR s) (cnt s 1) z0 with
    | none => rw [h2] at h; simp at h
    | some z =>
      obtain ⟨zs2, z2⟩ := z
      rw [h2] at h
      simp only at h ⊢
      cases h3 : part (getR s) (cnt s 2) z2 with
      | none => rw [h3] at h; simp at h
      | some z =>
        obtain ⟨zs3, z3⟩ := z
        rw [h3] at h
        simp only at h ⊢
        cases h1 : getAll (getR s) z3 k with
        | none => rw [h1] at h; simp at h
        | some z =>
          obtain ⟨ys, q⟩ := z
          rw [h1] at h
          simp at h
          obtain ⟨⟨rfl, rfl, rfl, rfl⟩, rfl⟩ := h
          exact ⟨fun x p' hx => by rw [getAll_next h1 hx], fun hx => by rw [getAll_stop h1 hx]⟩
/-- What is lost stays lost. -/
theorem sub0_lost {s : ByteArray} {k j : Nat} (h : sub0 s k = none) (hj : k ≤ j) : sub0 s j = none := by
  unfold sub0 at h ⊢
  cases h1 : getAll (getQ s) 12 k with
  | none => rw [getAll_none h1 j hj]
  | some z => rw [h1] at h; simp at h
theorem sub1_lost {s : ByteArray} {k j : Nat} (h : sub1 s k = none) (hj : k ≤ j) : sub1 s j = none := by
  unfold sub1 at h ⊢
  cases h0 : part (getQ s) (cnt s 0) 12 with
  | none => rfl
  | some z =>
    rw [h0] at h
    simp only at h ⊢
    cases h1 : getAll (getR s) z.2 k with
    | none => rw [getAll_none h1 j hj]
    | some y => rw [h1] at h; simp at h
theorem sub2_lost {s : ByteArray} {k j : Nat} (h : sub2 s k = none) (hj : k ≤ j) : sub2 s j = none := by
  unfold sub2 at h ⊢
  cases h0 : part (getQ s) (cnt s 0) 12 with
  | none => rfl
  | some z =>
    rw [h0] at h
    simp only at h ⊢
    cases h2 : part (getR s) (cnt s 1) z.2 with
    | none => rfl
    | some y =>
      rw [h2] at h
      simp only at h ⊢
      cases h1 : getAll (getR s) y.2 k with
      | none => rw [getAll_none h1 j hj]
      | some x => rw [h1] at h; simp at h
theorem sub3_lost {s : ByteArray} {k j : Nat} (h : sub3 s k = none) (hj : k ≤ j) : sub3 s j = none := by
  unfold sub3 at h ⊢
  cases h0 : part (getQ s) (cnt s 0) 12 with
  | none => rfl
  | some z =>
    rw [h0] at h
    simp only at h ⊢
    cases h2 : part (getR s) (cnt s 1) z.2 with
    | none => rfl
    | some y =>
      rw [h2] at h
      simp only at h ⊢
      cases h3 : part (getR s) (cnt s 2) y.2 with
      | none => rfl
      | some t =>
        rw [h3] at h
        simp only at h ⊢
        cases h1 : getAll (getR s) t.2 k with
        | none => rw [getAll_none h1 j hj]
        | some x => rw [h1] at h; simp at h
/-- Where a part is lost, or there are too many, no message is read. -/
theorem no_parts0 {s : ByteArray} (h : ¬ cnt s 0 ≤ 64 ∨ sub0 s (cnt s 0) = none) : parts s = none := by
  unfold parts
  by_cases hc : cnt s 0 ≤ 64
  · rcases h with h | h
    · exact absurd hc h
    · unfold sub0 at h
      rw [part_few hc]
      cases h1 : getAll (getQ s) 12 (cnt s 0) with
      | none => rfl
      | some z => rw [h1] at h; simp at h
  · rw [part_lots hc]
theorem no_parts1 {s : ByteArray} (h : ¬ cnt s 1 ≤ 64 ∨ sub1 s (cnt s 1) = none) : parts s = none := by
  unfold parts
  cases h0 : part (getQ s) (cnt s 0) 12 with
  | none => rfl
  | some z =>
    simp only
    by_cases hc : cnt s 1 ≤ 64
    · rcases h with h | h
      · exact absurd hc h
      · unfold sub1 at h
        rw [h0] at h
        simp only at h
        rw [part_few hc]
        cases h1 : getAll (getR s) z.2 (cnt s 1) with
        | none => rfl
        | some y => rw [h1] at h; simp at h
    · rw [part_lots hc]
theorem no_parts2 {s : ByteArray} (h : ¬ cnt s 2 ≤ 64 ∨ sub2 s (cnt s 2) = none) : parts s = none := by
  unfold parts
  cases h0 : part (getQ s) (cnt s 0) 12 with
  | none => rfl
  | some z =>
    simp only
    cases h2 : part (getR s) (cnt s 1) z.2 with
    | none => rfl
    | some y =>
      simp only
      by_cases hc : cnt s 2 ≤ 64
      · rcases h with h | h
        · exact absurd hc h
        · unfold sub2 at h
          rw [h0] at h
          simp only at h
          rw [h2] at h
          simp only at h
          rw [part_few hc]
          cases h1 : getAll (getR s) y.2 (cnt s 2) with
          | none => rfl
          | some x => rw [h1] at h; simp at h
      · rw [part_lots hc]
theorem no_parts3 {s : ByteArray} (h : ¬ cnt s 3 ≤ 64 ∨ sub3 s (cnt s 3) = none) : parts s = none := by
  by_cases hc : cnt s 3 ≤ 64
  · rcases h with h | h
    · exact absurd hc h
    · rw [sub_whole3 hc]; exact h
  · unfold parts
    cases h0 : part (getQ s) (cnt s 0) 12 with
    | none => rfl
    | some z =>
      simp only
      cases h2 : part (getR s) (cnt s 1) z.2 with
      | none => rfl
      | some y =>
        simp only
        cases h3 : part (getR s) (cnt s 2) y.2 with
        | none => rfl
        | some x => simp only; rw [part_lots hc]

end Go.Proofs.Ytcapankhobnfeaa
