/- Which data may be for a type: plain functions on bytes, with no word of the program. -/
import Derived.Test.YtbldoplemfjcjaaPlainC
namespace Go.Proofs.Ytbldoplemfjcjaa.Pl

theorem not_long {l : List UInt8} (h : 255 < l.length) : isName l = false := by unfold isName nm; rw [if_pos h]; rfl

/-- The place of the byte 0 that ends the first name; the first number: how many bytes of a label are still to come. -/
def zr : Nat → List UInt8 → Option Nat
  | _, [] => none
  | 0, c :: r => if c.toNat = 0 then some 0 else (zr c.toNat r).map (· + 1)
  | k + 1, _ :: r => (zr k r).map (· + 1)

theorem zr_drop (k : Nat) (l : List UInt8) : zr k l = (zr 0 (l.drop k)).map (· + k) := by
  induction l generalizing k with
  | nil => simp [zr]
  | cons c r ih =>
    cases k with
    | zero => simp
    | succ k =>
      rw [zr, ih, List.drop_succ_cons, Option.map_map, show ((fun x => x + 1) ∘ fun x => x + k) = fun x => x + (k + 1) from rfl]

/-- The walk over a first name stands at p. -/
def ZAt (l : List UInt8) (p : Nat) : Prop := zr 0 l = (zr 0 (l.drop p)).map (· + p)

theorem zat_start (l : List UInt8) : ZAt l 0 := by simp [ZAt]
theorem zat_step {l : List UInt8} {p : Nat} (h : ZAt l p) (hp : p < l.length) (h0 : l[p].toNat ≠ 0) : ZAt l (p + (1 + l[p].toNat)) := by
  unfold ZAt at *
  rw [h, drop_at l p hp, zr, if_neg h0, zr_drop, List.drop_drop, Option.map_map, Option.map_map]
  rw [show p + (1 + l[p].toNat) = p + 1 + l[p].toNat from by omega]
  congr 1
  funext x
  simp [Function.comp]
  omega
theorem zat_past {l : List UInt8} {p : Nat} (h : ZAt l p) (hp : l.length ≤ p) : zr 0 l = none := by
  unfold ZAt at h
  rw [h, List.drop_of_length_le hp]; rfl
theorem zat_end {l : List UInt8} {p : Nat} (h : ZAt l p) (hp : p < l.length) (h0 : l[p].toNat = 0) : zr 0 l = some p := by
  unfold ZAt at h
  rw [h, drop_at l p hp, zr, if_pos h0]; simp
theorem zat_ge {l : List UInt8} {p q : Nat} (h : ZAt l p) (hq : zr 0 l = some q) : p ≤ q := by
  unfold ZAt at h
  rw [h] at hq
  cases hz : zr 0 (l.drop p) with
  | none => rw [hz] at hq; simp at hq
  | some x => rw [hz] at hq; simp at hq; omega
theorem zr_lt (k : Nat) (l : List UInt8) (q : Nat) (h : zr k l = some q) : q < l.length := by
  induction l generalizing k q with
  | nil => simp [zr] at h
  | cons c r ih =>
    cases k with
    | zero =>
      rw [zr] at h
      split at h
      · simp at h; simp; omega
      · cases hz : zr c.toNat r with
        | none => rw [hz] at h; simp at h
        | some x => rw [hz] at h; simp at h; have := ih _ _ hz; simp; omega
    | succ k =>
      rw [zr] at h
      cases hz : zr k r with
      | none => rw [hz] at h; simp at h
      | some x => rw [hz] at h; simp at h; have := ih _ _ hz; simp; omega

/-- How long the name is with which bytes begin. -/
def cutL (l : List UInt8) : Option Nat :=
  match zr 0 l with
  | none => none
  | some p => if isName (l.take (p + 1)) = true then some (p + 1) else none

theorem cut_none {l : List UInt8} (h : zr 0 l = none) : cutL l = none := by unfold cutL; rw [h]
theorem cut_at {l : List UInt8} {p : Nat} (h : zr 0 l = some p) : cutL l = if isName (l.take (p + 1)) = true then some (p + 1) else none := by unfold cutL; rw [h]
theorem cut_far {l : List UInt8} {p : Nat} (h : ZAt l p) (hp : 255 ≤ p) : cutL l = none := by
  cases hz : zr 0 l with
  | none => exact cut_none hz
  | some q =>
    have h1 := zat_ge h hz
    have h2 := zr_lt _ _ _ hz
    rw [cut_at hz, if_neg (by rw [not_long (by rw [List.length_take]; omega)]; simp)]
theorem cut_some {l : List UInt8} {e : Nat} (h : cutL l = some e) : 1 ≤ e ∧ e ≤ l.length ∧ e ≤ 255 ∧ isName (l.take e) = true := by
  cases hz : zr 0 l with
  | none => rw [cut_none hz] at h; simp at h
  | some q =>
    have h2 := zr_lt _ _ _ hz
    rw [cut_at hz] at h
    split at h
    · rename_i hn
      simp at h
      subst h
      have := (name_some hn).1
      rw [List.length_take] at this
      exact ⟨by omega, by omega, by omega, hn⟩
    · simp at h

theorem zr_name (k : Nat) (n r : List UInt8) (h : (nmS k n).isSome = true) : n ≠ [] ∧ zr k (n ++ r) = some (n.length - 1) := by
  induction n generalizing k with
  | nil => simp [nmS] at h
  | cons c t ih =>
    refine ⟨by simp, ?_⟩
    cases k with
    | zero =>
      rw [nmS] at h
      rw [List.cons_append, zr]
      split at h
      · rename_i h0
        split at h
        · rename_i h1
          rw [if_pos h0]; simp [h1]
        · simp at h
      · rename_i h0
        rw [if_neg h0]
        split at h
        · simp at h
        · have h2 := ih c.toNat (by simpa using h)
          have : t.length ≠ 0 := fun e => h2.1 (List.eq_nil_of_length_eq_zero e)
          rw [h2.2]
          simp; omega
    | succ k =>
      rw [nmS] at h
      rw [List.cons_append, zr]
      have h2 := ih k h
      have : t.length ≠ 0 := fun e => h2.1 (List.eq_nil_of_length_eq_zero e)
      rw [h2.2]
      simp; omega

theorem name_ne {n : List UInt8} (h : isName n = true) : 1 ≤ n.length := by
  have := (zr_name 0 n [] (name_some h).2).1
  cases n with
  | nil => exact absurd rfl this
  | cons => simp
theorem cut_name {n : List UInt8} (h : isName n = true) (r : List UInt8) : cutL (n ++ r) = some n.length := by
  have h1 := zr_name 0 n r (name_some h).2
  have h2 := name_ne h
  rw [cut_at h1.2, show n.length - 1 + 1 = n.length from by omega, List.take_left, if_pos h]

/-- The lengths of the two names of TypeSoa's data. -/
def soaL (l : List UInt8) : Option (Nat × Nat) :=
  match cutL l with
  | none => none
  | some a =>
    match cutL (l.drop a) with
    | none => none
    | some b => if l.length = a + b + 20 then some (a, b) else none

theorem soa_cut {l : List UInt8} (h : cutL l = none) : soaL l = none := by unfold soaL; rw [h]
theorem soa_cut2 {l : List UInt8} {a : Nat} (h : cutL l = some a) (h2 : cutL (l.drop a) = none) : soaL l = none := by unfold soaL; rw [h]; simp only [h2]
theorem soa_at {l : List UInt8} {a b : Nat} (h : cutL l = some a) (h2 : cutL (l.drop a) = some b) : soaL l = if l.length = a + b + 20 then some (a, b) else none := by unfold soaL; rw [h]; simp only [h2]
theorem soa_some {l : List UInt8} {a b : Nat} (h : soaL l = some (a, b)) : cutL l = some a ∧ cutL (l.drop a) = some b ∧ l.length = a + b + 20 := by
  cases h1 : cutL l with
  | none => rw [soa_cut h1] at h; simp at h
  | some a' =>
    cases h2 : cutL (l.drop a') with
    | none => rw [soa_cut2 h1 h2] at h; simp at h
    | some b' =>
      rw [soa_at h1 h2] at h
      split at h
      · simp at h
        obtain ⟨rfl, rfl⟩ := h
        exact ⟨rfl, h2, by assumption⟩
      · simp at h
theorem soa_size {l : List UInt8} (h : (soaL l).isSome = true) : l.length ≤ 530 := by
  obtain ⟨⟨a, b⟩, hs⟩ := Option.isSome_iff_exists.1 h
  obtain ⟨h1, h2, h3⟩ := soa_some hs
  have := cut_some h1
  have := cut_some h2
  omega
theorem soa_names {n m t : List UInt8} (hn : isName n = true) (hm : isName m = true) : soaL (n ++ (m ++ t)) = if t.length = 20 then some (n.length, m.length) else none := by
  have h1 := cut_name hn (m ++ t)
  have h2 : cutL ((n ++ (m ++ t)).drop n.length) = some m.length := by rw [List.drop_left]; exact cut_name hm t
  rw [soa_at h1 h2]
  simp only [List.length_append]
  by_cases h : t.length = 20
  · rw [if_pos h, if_pos (by omega)]
  · rw [if_neg h, if_neg (by omega)]

/-- Do texts stand there, one behind the other, to the end? The first number: how many bytes of a text are still to come. -/
def tq : Nat → List UInt8 → Bool
  | 0, [] => true
  | _ + 1, [] => false
  | 0, c :: r => tq c.toNat r
  | k + 1, _ :: r => tq k r
theorem tq_drop (k : Nat) (l : List UInt8) : tq k l = if k ≤ l.length then tq 0 (l.drop k) else false := by
  induction l generalizing k with
  | nil =>
    cases k with
    | zero => simp
    | succ k => simp [tq]
  | cons c r ih =>
    cases k with
    | zero => simp
    | succ k => rw [tq, ih]; simp
/-- The walk over texts stands at p. -/
def QAt (l : List UInt8) (p : Nat) : Prop := tq 0 l = if p ≤ l.length then tq 0 (l.drop p) else false
theorem qat_start (l : List UInt8) : QAt l 0 := by simp [QAt]
theorem qat_step {l : List UInt8} {p : Nat} (h : QAt l p) (hp : p < l.length) : QAt l (p + (1 + l[p].toNat)) := by
  unfold QAt at *
  rw [h, if_pos (by omega), drop_at l p hp, tq, tq_drop, List.drop_drop, List.length_drop]
  rw [show p + (1 + l[p].toNat) = p + 1 + l[p].toNat from by omega]
  by_cases e : p + 1 + l[p].toNat ≤ l.length
  · rw [if_pos e, if_pos (by omega)]
  · rw [if_neg e, if_neg (by omega)]
theorem qat_end {l : List UInt8} {p : Nat} (h : QAt l p) (hp : l.length ≤ p) : tq 0 l = decide (p = l.length) := by
  unfold QAt at h
  rw [h]
  by_cases e : p = l.length
  · subst e
    simp [tq]
  · rw [if_neg (by omega)]
    simp [e]

def texts (l : List UInt8) : Bool := decide (0 < l.length) && tq 0 l

/-- May data be for a type? -/
def mayD (t : Int) (l : List UInt8) : Bool :=
  if t = 1 then decide (l.length = 4)
  else if t = 28 then decide (l.length = 16)
  else if t = 2 ∨ t = 5 ∨ t = 12 then isName l
  else if t = 15 then decide (2 < l.length) && isName (l.drop 2)
  else if t = 6 then (soaL l).isSome
  else if t = 16 then decide (l.length ≤ 65535) && texts l
  else decide (1 ≤ t) && decide (t ≤ 65535) && decide (l.length ≤ 65535)

theorem may_1 (l : List UInt8) : mayD 1 l = decide (l.length = 4) := rfl
theorem may_28 (l : List UInt8) : mayD 28 l = decide (l.length = 16) := rfl
theorem may_n {t : Int} (h : t = 2 ∨ t = 5 ∨ t = 12) (l : List UInt8) : mayD t l = isName l := by rcases h with rfl | rfl | rfl <;> rfl
theorem may_15 (l : List UInt8) : mayD 15 l = (decide (2 < l.length) && isName (l.drop 2)) := rfl
theorem may_6 (l : List UInt8) : mayD 6 l = (soaL l).isSome := rfl
theorem may_16 (l : List UInt8) : mayD 16 l = (decide (l.length ≤ 65535) && texts l) := rfl
/-- A type that the document does not name. -/
def Other (t : Int) : Prop := t ≠ 1 ∧ t ≠ 28 ∧ t ≠ 2 ∧ t ≠ 5 ∧ t ≠ 12 ∧ t ≠ 15 ∧ t ≠ 6 ∧ t ≠ 16
theorem may_o {t : Int} (h : Other t) (l : List UInt8) : mayD t l = (decide (1 ≤ t) && decide (t ≤ 65535) && decide (l.length ≤ 65535)) := by
  obtain ⟨h1, h2, h3, h4, h5, h6, h7, h8⟩ := h
  unfold mayD
  rw [if_neg h1, if_neg h2, if_neg (by omega), if_neg h6, if_neg h7, if_neg h8]
theorem kinds (t : Int) : t = 1 ∨ t = 28 ∨ (t = 2 ∨ t = 5 ∨ t = 12) ∨ t = 15 ∨ t = 6 ∨ t = 16 ∨ Other t := by unfold Other; omega
/-- Data of more than 65,535 bytes may not be. -/
theorem may_long (t : Int) {l : List UInt8} (h : 65535 < l.length) : mayD t l = false := by
  rcases kinds t with rfl | rfl | h1 | rfl | rfl | rfl | h1
  · rw [may_1]; simp; omega
  · rw [may_28]; simp; omega
  · rw [may_n h1]; exact not_long (by omega)
  · rw [may_15, not_long (by rw [List.length_drop]; omega)]; simp
  · rw [may_6]
    cases hs : (soaL l).isSome with
    | false => rfl
    | true => have := soa_size hs; omega
  · rw [may_16]; simp; omega
  · rw [may_o h1]; simp; omega
theorem may_none {t : Int} (h : t < 1 ∨ 65535 < t) (l : List UInt8) : mayD t l = false := by
  rw [may_o (by unfold Other; omega)]; simp; omega

end Go.Proofs.Ytbldoplemfjcjaa.Pl
