/- Plain functions on bytes that tell what names and their texts are, with no word of the program. -/
namespace Go.Proofs.Ytbldoplemfjcjaa.Pl

/-- Does a byte stand as it is? -/
def standsB (c : Int) : Bool := decide (33 ≤ c ∧ c ≤ 126 ∧ c ≠ 46 ∧ c ≠ 92)

/-- May a label have so many bytes? -/
def sizeB (n : Int) : Bool := decide (1 ≤ n ∧ n ≤ 63)

/-- The labels of a name's bytes; the first number: how many bytes of a label are still to come. -/
def nmS : Nat → List UInt8 → Option Nat
  | _, [] => none
  | 0, c :: r => if c.toNat = 0 then (if r.length = 0 then some 0 else none) else if 63 < c.toNat then none else (nmS c.toNat r).map (· + 1)
  | k + 1, _ :: r => nmS k r

/-- How many labels a name has; none of what is no name. -/
def nm (l : List UInt8) : Option Nat := if 255 < l.length then none else nmS 0 l

def isName (l : List UInt8) : Bool := (nm l).isSome
def cnt (l : List UInt8) : Nat := (nm l).getD 0

theorem nmS_drop (k : Nat) (l : List UInt8) : nmS k l = nmS 0 (l.drop k) := by
  induction l generalizing k with
  | nil => simp [nmS]
  | cons c r ih =>
    cases k with
    | zero => rfl
    | succ k => rw [nmS, ih]; rfl

theorem drop_at (l : List UInt8) (p : Nat) (h : p < l.length) : l.drop p = l[p] :: l.drop (p + 1) := List.drop_eq_getElem_cons h

/-- The walk over the labels stands at p, and c labels lie behind it. -/
def At (l : List UInt8) (p c : Nat) : Prop := nmS 0 l = (nmS 0 (l.drop p)).map (· + c)

theorem at_start (l : List UInt8) : At l 0 0 := by simp [At]

theorem at_step {l : List UInt8} {p c : Nat} (h : At l p c) (hp : p < l.length) (h0 : l[p].toNat ≠ 0) (h1 : l[p].toNat ≤ 63) : At l (p + (1 + l[p].toNat)) (c + 1) := by
  unfold At at *
  rw [h, drop_at l p hp, nmS, if_neg h0, if_neg (by omega), nmS_drop, List.drop_drop]
  rw [show p + (1 + l[p].toNat) = p + 1 + l[p].toNat from by omega, Option.map_map]
  congr 1
  funext x
  simp [Function.comp]
  omega

theorem at_great {l : List UInt8} {p c : Nat} (h : At l p c) (hp : p < l.length) (h1 : 63 < l[p].toNat) : nmS 0 l = none := by
  unfold At at *
  rw [h, drop_at l p hp, nmS, if_neg (by omega), if_pos h1]; rfl

theorem at_past {l : List UInt8} {p c : Nat} (h : At l p c) (hp : l.length ≤ p) : nmS 0 l = none := by
  unfold At at *
  rw [h, List.drop_of_length_le hp]; rfl

theorem at_end {l : List UInt8} {p c : Nat} (h : At l p c) (hp : p < l.length) (h0 : l[p].toNat = 0) : nmS 0 l = if p + 1 = l.length then some c else none := by
  unfold At at *
  rw [h, drop_at l p hp, nmS, if_pos h0]
  by_cases e : p + 1 = l.length
  · rw [if_pos e, if_pos (by simp; omega)]; simp
  · rw [if_neg e, if_neg (by simp; omega)]; rfl

theorem nm_short {l : List UInt8} (h : l.length ≤ 255) : nm l = nmS 0 l := by unfold nm; rw [if_neg (by omega)]

/-- The text of a label's byte. -/
def esc (b : UInt8) : List UInt8 :=
  if standsB b.toNat then [b] else [92, UInt8.ofNat (48 + b.toNat / 100), UInt8.ofNat (48 + b.toNat / 10 % 10), UInt8.ofNat (48 + b.toNat % 10)]

/-- A digit? -/
def dig (c : UInt8) : Bool := decide (48 ≤ c.toNat ∧ c.toNat ≤ 57)
/-- What three digits tell. -/
def val3 (x y z : UInt8) : Nat := ((x.toNat - 48) * 10 + (y.toNat - 48)) * 10 + (z.toNat - 48)
/-- Do three bytes tell a byte that does not stand as it is? -/
def tells (x y z : UInt8) : Bool := dig x && dig y && dig z && decide (val3 x y z ≤ 255) && !standsB (val3 x y z)
/-- What three digits at a text's head tell. -/
def rbTail : List UInt8 → Option (UInt8 × Nat)
  | x :: y :: z :: _ => if tells x y z then some (UInt8.ofNat (val3 x y z), 4) else none
  | _ => none
/-- The byte with whose text a text begins, and that text's width. -/
def rb : List UInt8 → Option (UInt8 × Nat)
  | [] => none
  | c :: r => if standsB c.toNat then some (c, 1) else if c.toNat ≠ 92 then none else rbTail r

theorem rb_stands {c : UInt8} {r : List UInt8} (h : standsB c.toNat = true) : rb (c :: r) = some (c, 1) := by rw [rb, if_pos h]
theorem rb_other {c : UInt8} {r : List UInt8} (h : standsB c.toNat = false) (h2 : c.toNat ≠ 92) : rb (c :: r) = none := by rw [rb, if_neg (by simp [h]), if_pos h2]
theorem rb_short {c : UInt8} {r : List UInt8} (h : standsB c.toNat = false) (h2 : r.length < 3) : rb (c :: r) = none := by
  rw [rb, if_neg (by simp [h])]
  split
  · rfl
  · match r, h2 with
    | [], _ => rfl
    | [_], _ => rfl
    | [_, _], _ => rfl
theorem rb_tells {c x y z : UInt8} {r : List UInt8} (h : standsB c.toNat = false) (h2 : c.toNat = 92) : rb (c :: x :: y :: z :: r) = if tells x y z then some (UInt8.ofNat (val3 x y z), 4) else none := by
  rw [rb, if_neg (by simp [h]), if_neg (by simp [h2]), rbTail]

/-- The text of a name's bytes; the first number: how many bytes of a label are still to come. -/
def txS : Nat → List UInt8 → List UInt8
  | _, [] => []
  | 0, c :: r => if c.toNat = 0 then [] else txS c.toNat r
  | 1, b :: r => esc b ++ 46 :: txS 0 r
  | k + 2, b :: r => esc b ++ txS (k + 1) r

theorem txS_label (k : Nat) (r : List UInt8) (h : k + 1 ≤ r.length) : txS (k + 1) r = (r.take (k + 1)).flatMap esc ++ 46 :: txS 0 (r.drop (k + 1)) := by
  induction k generalizing r with
  | zero =>
    match r, h with
    | b :: r, _ => simp [txS]
  | succ k ih =>
    match r, h with
    | b :: r, h =>
      rw [txS, ih r (by simpa using h)]
      simp

/-- The text of what is a name; of what is none nothing is said. -/
def tx (l : List UInt8) : List UInt8 := if l.length = 1 then [46] else txS 0 l

/-- From p on a name goes on, and ahead of it lies the text 'done'. -/
def TxAt (l : List UInt8) (p : Nat) (done : List UInt8) : Prop := (nmS 0 (l.drop p)).isSome = true ∧ txS 0 l = done ++ txS 0 (l.drop p)

theorem txAt_start {l : List UInt8} (h : (nmS 0 l).isSome = true) : TxAt l 0 [] := ⟨h, rfl⟩

theorem nmS_cut {k : Nat} {l : List UInt8} (h : (nmS k l).isSome = true) : k < l.length := by
  induction l generalizing k with
  | nil => simp [nmS] at h
  | cons c r ih =>
    cases k with
    | zero => simp
    | succ k => rw [nmS] at h; have := ih h; simp; omega

theorem txAt_lt {l : List UInt8} {p : Nat} {done : List UInt8} (h : TxAt l p done) : p < l.length := by
  have := nmS_cut h.1
  simp at this
  omega

theorem txAt_end {l : List UInt8} {p : Nat} {done : List UInt8} (h : TxAt l p done) (hp : p < l.length) (h0 : l[p].toNat = 0) : txS 0 l = done := by
  rw [h.2, drop_at l p hp, txS, if_pos h0, List.append_nil]

theorem txAt_room {l : List UInt8} {p : Nat} {done : List UInt8} (h : TxAt l p done) (hp : p < l.length) (h0 : l[p].toNat ≠ 0) : l[p].toNat ≤ 63 ∧ p + 1 + l[p].toNat < l.length := by
  have h1 := h.1
  rw [drop_at l p hp, nmS, if_neg h0] at h1
  split at h1
  · simp at h1
  · rename_i h63
    have h2 : (nmS l[p].toNat (l.drop (p + 1))).isSome = true := by simpa using h1
    have := nmS_cut h2
    simp at this
    exact ⟨by omega, by omega⟩

theorem txAt_step {l : List UInt8} {p : Nat} {done : List UInt8} (h : TxAt l p done) (hp : p < l.length) (h0 : l[p].toNat ≠ 0) :
    TxAt l (p + 1 + l[p].toNat) (done ++ ((l.drop (p + 1)).take l[p].toNat).flatMap esc ++ [46]) := by
  have hr := txAt_room h hp h0
  have h1 := h.1
  have h2 := h.2
  rw [drop_at l p hp, nmS, if_neg h0, if_neg (by omega)] at h1
  refine ⟨?_, ?_⟩
  · rw [← List.drop_drop, ← nmS_drop]
    simpa using h1
  · rw [h2, drop_at l p hp, txS, if_neg h0]
    obtain ⟨k, hk⟩ : ∃ k, l[p].toNat = k + 1 := ⟨l[p].toNat - 1, by omega⟩
    rw [hk, txS_label k _ (by simp; omega), List.drop_drop]
    simp

end Go.Proofs.Ytbldoplemfjcjaa.Pl
