/- Names that are compressed, as they are read: plain functions on bytes, with no word of the program. -/
import Derived.Test.YtdogjbblnjjaaabPlainR
namespace Go.Proofs.Ytdogjbblnjjaaab.Pl

/-- The place that the two bytes at p point to. -/
def ptrAt (l : List UInt8) (p : Nat) : Nat := ((l.getD p 0).toNat * 256 + (l.getD (p + 1) 0).toNat) % 16384

/-- A name is read on from p; g: where its labels began; o: the labels behind; x: the place behind the first pointer. -/
def rn : Nat → List UInt8 → Nat → Nat → List UInt8 → Option Nat → Option (List UInt8 × Nat)
  | 0, _, _, _, _, _ => none
  | f + 1, l, p, g, o, x =>
    if p < l.length then
      if (l.getD p 0).toNat = 0 then (if 255 < o.length + 1 then none else some (o ++ [0], x.getD (p + 1)))
      else if 191 < (l.getD p 0).toNat then
        (if p + 2 ≤ l.length ∧ ptrAt l p < g then rn f l (ptrAt l p) (ptrAt l p) o (some (x.getD (p + 2))) else none)
      else if 63 < (l.getD p 0).toNat ∨ l.length < p + 1 + (l.getD p 0).toNat then none
      else rn f l (p + 1 + (l.getD p 0).toNat) g (o ++ (l.drop p).take (1 + (l.getD p 0).toNat)) x
    else none

/-- The name at p, and the place behind it. -/
def nameOf (l : List UInt8) (p : Nat) : Option (List UInt8 × Nat) := rn (p * 512 + 513) l p p [] none

/-- The reading stands at p, and will give R. -/
def RAt (l : List UInt8) (p g : Nat) (o : List UInt8) (x : Option Nat) (R : Option (List UInt8 × Nat)) : Prop := ∃ f, g * 512 + (512 - o.length) + 1 ≤ f ∧ rn f l p g o x = R

theorem need_lab (g n k f : Nat) (h : g * 512 + (512 - n) ≤ f) (hn : n ≤ 255) : g * 512 + (512 - (n + (1 + k))) + 1 ≤ f := by
  have h1 : 512 - (n + (1 + k)) + 1 ≤ 512 - n := by omega
  have h2 := Nat.add_le_add_left h1 (g * 512)
  rw [← Nat.add_assoc] at h2
  exact Nat.le_trans h2 h
theorem need_ptr (g k n f : Nat) (h : g * 512 + (512 - n) ≤ f) (hk : k < g) : k * 512 + (512 - n) + 1 ≤ f := by
  have h1 : k * 512 + 1 ≤ g * 512 := by
    have := Nat.mul_le_mul_right 512 hk
    rw [Nat.succ_mul] at this
    exact Nat.le_trans (Nat.add_le_add_left (by decide) _) this
  have h2 := Nat.add_le_add_right h1 (512 - n)
  rw [Nat.add_right_comm] at h2
  exact Nat.le_trans h2 h
theorem r_start (l : List UInt8) (p : Nat) : RAt l p p [] none (nameOf l p) := ⟨_, by simp, rfl⟩

theorem getD_get {l : List UInt8} {p : Nat} (h : p < l.length) : l.getD p 0 = l[p] := by rw [List.getD_eq_getElem?_getD, List.getElem?_eq_getElem h]; rfl

theorem lab_len {l : List UInt8} {p k : Nat} (h : p + 1 + k ≤ l.length) : ((l.drop p).take (1 + k)).length = 1 + k := by rw [List.length_take, List.length_drop]; omega

theorem rn_long : ∀ (f : Nat) (l : List UInt8) (p g : Nat) (o : List UInt8) (x : Option Nat), 255 ≤ o.length → rn f l p g o x = none := by
  intro f
  induction f with
  | zero => intros; rfl
  | succ f ih =>
    intro l p g o x h
    rw [rn]
    split
    · split
      · rw [if_pos (by omega)]
      · split
        · split
          · exact ih _ _ _ _ _ h
          · rfl
        · split
          · rfl
          · exact ih _ _ _ _ _ (by rw [List.length_append]; omega)
    · rfl

section
variable {l : List UInt8} {p g : Nat} {o : List UInt8} {x : Option Nat} {R : Option (List UInt8 × Nat)}

theorem RAt.open (h : RAt l p g o x R) : ∃ f, g * 512 + (512 - o.length) ≤ f ∧ rn (f + 1) l p g o x = R := by
  obtain ⟨f, hf, h⟩ := h
  cases f with
  | zero => omega
  | succ f => exact ⟨f, Nat.le_of_succ_le_succ hf, h⟩

theorem r_long (h : RAt l p g o x R) (ho : 255 ≤ o.length) : R = none := by
  obtain ⟨f, _, h⟩ := h
  rw [← h]; exact rn_long _ _ _ _ _ _ ho
theorem r_past (h : RAt l p g o x R) (hp : l.length ≤ p) : R = none := by
  obtain ⟨f, _, h⟩ := h.open
  rw [rn, if_neg (by omega)] at h
  exact h.symm
theorem r_zero (h : RAt l p g o x R) (hp : p < l.length) (h0 : l[p].toNat = 0) (ho : o.length ≤ 254) : R = some (o ++ [0], x.getD (p + 1)) := by
  obtain ⟨f, _, h⟩ := h.open
  rw [rn, if_pos hp, getD_get hp, if_pos h0, if_neg (by omega)] at h
  exact h.symm
theorem r_bad (h : RAt l p g o x R) (hp : p < l.length) (h0 : 63 < l[p].toNat) (h1 : l[p].toNat ≤ 191) : R = none := by
  obtain ⟨f, _, h⟩ := h.open
  rw [rn, if_pos hp, getD_get hp, if_neg (by omega), if_neg (by omega), if_pos (.inl h0)] at h
  exact h.symm
theorem r_cut (h : RAt l p g o x R) (hp : p < l.length) (h0 : l[p].toNat ≠ 0) (h1 : l[p].toNat ≤ 63) (h2 : l.length ≤ p + 1 + l[p].toNat) : R = none := by
  obtain ⟨f, hf, h⟩ := h.open
  rw [rn, if_pos hp, getD_get hp, if_neg h0, if_neg (by omega)] at h
  split at h
  · exact h.symm
  · match f with
    | 0 => rw [rn] at h; exact h.symm
    | f + 1 => rw [rn, if_neg (by omega)] at h; exact h.symm
theorem r_lab (h : RAt l p g o x R) (hp : p < l.length) (h0 : l[p].toNat ≠ 0) (h1 : l[p].toNat ≤ 63) (h2 : p + 1 + l[p].toNat ≤ l.length) (ho : o.length ≤ 255) : RAt l (p + 1 + l[p].toNat) g (o ++ (l.drop p).take (1 + l[p].toNat)) x R := by
  obtain ⟨f, hf, h⟩ := h.open
  rw [rn, if_pos hp, getD_get hp, if_neg h0, if_neg (by omega), if_neg (by omega)] at h
  have hl : (o ++ (l.drop p).take (1 + l[p].toNat)).length = o.length + (1 + l[p].toNat) := by rw [List.length_append, lab_len h2]
  refine ⟨f, ?_, h⟩
  rw [hl]
  exact need_lab g o.length _ f hf ho
theorem r_ptr (h : RAt l p g o x R) (hp : p < l.length) (h0 : 191 < l[p].toNat) (h1 : p + 2 ≤ l.length) (h2 : ptrAt l p < g) : RAt l (ptrAt l p) (ptrAt l p) o (some (x.getD (p + 2))) R := by
  obtain ⟨f, hf, h⟩ := h.open
  rw [rn, if_pos hp, getD_get hp, if_neg (by omega), if_pos h0, if_pos ⟨h1, h2⟩] at h
  refine ⟨f, ?_, h⟩
  exact need_ptr g _ o.length f hf h2
theorem r_ptr_no (h : RAt l p g o x R) (hp : p < l.length) (h0 : 191 < l[p].toNat) (h1 : l.length < p + 2 ∨ g ≤ ptrAt l p) : R = none := by
  obtain ⟨f, hf, h⟩ := h.open
  rw [rn, if_pos hp, getD_get hp, if_neg (by omega), if_pos h0, if_neg (by omega)] at h
  exact h.symm
end

/-- Labels, one behind the other. -/
def Labs (o : List UInt8) : Prop := ∀ r, (nmS 0 (o ++ r)).isSome = (nmS 0 r).isSome

theorem labs_nil : Labs [] := fun _ => rfl
theorem labs_lab {c : UInt8} {r : List UInt8} (h0 : c.toNat ≠ 0) (h1 : c.toNat ≤ 63) (h2 : r.length = c.toNat) : Labs (c :: r) := by
  intro t
  rw [List.cons_append, nmS, if_neg h0, if_neg (by omega), nmS_drop, ← h2, List.drop_left]
  simp
theorem labs_app {a b : List UInt8} (ha : Labs a) (hb : Labs b) : Labs (a ++ b) := fun r => by rw [List.append_assoc, ha, hb]
theorem take_lab {l : List UInt8} {p : Nat} (hp : p < l.length) (k : Nat) : (l.drop p).take (1 + k) = l[p] :: (l.drop (p + 1)).take k := by
  rw [drop_at l p hp, Nat.add_comm 1 k, List.take_succ_cons]
theorem labs_step {l o : List UInt8} {p : Nat} (ho : Labs o) (hp : p < l.length) (h0 : l[p].toNat ≠ 0) (h1 : l[p].toNat ≤ 63) (h2 : p + 1 + l[p].toNat ≤ l.length) : Labs (o ++ (l.drop p).take (1 + l[p].toNat)) := by
  rw [take_lab hp]
  exact labs_app ho (labs_lab h0 h1 (by rw [List.length_take, List.length_drop]; omega))
theorem labs_name {o : List UInt8} (h : Labs o) (hl : o.length ≤ 254) : isName (o ++ [0]) = true := by
  unfold isName nm
  rw [if_neg (by rw [List.length_append]; simp; omega), h [0]]
  rfl

theorem rn_name : ∀ (f : Nat) (l : List UInt8) (p g : Nat) (o : List UInt8) (x : Option Nat) (r : List UInt8) (b : Nat), Labs o → (∀ y, x = some y → y ≤ l.length) → rn f l p g o x = some (r, b) → isName r = true ∧ b ≤ l.length ∧ (x = none → p < b) := by
  intro f
  induction f with
  | zero => intro l p g o x r b _ _ h; simp [rn] at h
  | succ f ih =>
    intro l p g o x r b hl hx h
    rw [rn] at h
    split at h
    · rename_i hp
      rw [getD_get hp] at h
      split at h
      · split at h
        · simp at h
        · rename_i hs
          simp only [Option.some.injEq, Prod.mk.injEq] at h
          obtain ⟨rfl, rfl⟩ := h
          refine ⟨labs_name hl (by omega), ?_, ?_⟩
          · cases x with
            | none => simp; omega
            | some y => simpa using hx y rfl
          · rintro rfl; simp
      · rename_i h0
        split at h
        · split at h
          · rename_i hq
            have := ih _ _ _ _ _ _ _ hl (by
              intro y hy
              simp only [Option.some.injEq] at hy
              cases x with
              | none => simp at hy; omega
              | some z => simp at hy; subst hy; exact hx z rfl) h
            refine ⟨this.1, this.2.1, ?_⟩
            rintro rfl
            simp only [Option.getD_none] at h
            clear this ih hx
            have key : ∀ (f : Nat) (l : List UInt8) (p g : Nat) (o : List UInt8) (y : Nat) (r : List UInt8) (b : Nat), rn f l p g o (some y) = some (r, b) → b = y := by
              intro f
              induction f with
              | zero => intro l p g o y r b h; simp [rn] at h
              | succ f ih =>
                intro l p g o y r b h
                rw [rn] at h
                split at h
                · split at h
                  · split at h
                    · simp at h
                    · simp at h; exact h.2.symm
                  · split at h
                    · split at h
                      · have := ih _ _ _ _ _ _ _ h; simpa using this
                      · simp at h
                    · split at h
                      · simp at h
                      · exact ih _ _ _ _ _ _ _ h
                · simp at h
            have := key _ _ _ _ _ _ _ _ h
            omega
          · simp at h
        · split at h
          · simp at h
          · rename_i h1 h2
            have := ih _ _ _ _ _ _ _ (labs_step hl hp h0 (by omega) (by omega)) hx h
            exact ⟨this.1, this.2.1, fun e => by have := this.2.2 e; omega⟩
    · simp at h

theorem nameOf_some {l : List UInt8} {p : Nat} {r : List UInt8} {b : Nat} (h : nameOf l p = some (r, b)) : isName r = true ∧ b ≤ l.length ∧ p < b := by
  have := rn_name _ _ _ _ _ _ _ _ labs_nil (fun y hy => by simp at hy) h
  exact ⟨this.1, this.2.1, this.2.2 rfl⟩

/-- Names with others ahead of them. -/
def pre (O : List UInt8) : Option (List UInt8 × Nat) → Option (List UInt8 × Nat)
  | none => none
  | some (t, b) => some (O ++ t, b)
/-- So many names, one behind the other, and the place behind them. -/
def namesOf (l : List UInt8) : Nat → Nat → Option (List UInt8 × Nat)
  | p, 0 => some ([], p)
  | p, c + 1 => match nameOf l p with
    | none => none
    | some (r, b) => pre r (namesOf l b c)

/-- Data of one name that ends at q, with h ahead of it; of two names and 20 bytes. -/
def dtN (h : List UInt8) (q : Nat) : Option (List UInt8 × Nat) → Option (List UInt8)
  | none => none
  | some (r, b) => if b = q then some (h ++ r) else none
def dtS2 (l r : List UInt8) (q : Nat) : Option (List UInt8 × Nat) → Option (List UInt8)
  | none => none
  | some (r2, b2) => if b2 + 20 = q then some (r ++ (r2 ++ (l.drop b2).take 20)) else none
def dtS (l : List UInt8) (q : Nat) : Option (List UInt8 × Nat) → Option (List UInt8)
  | none => none
  | some (r, b) => dtS2 l r q (nameOf l b)
/-- The data of the type t that stands at p, n bytes, its names written out. -/
def dataOf (l : List UInt8) (p n : Nat) (t : Int) : Option (List UInt8) :=
  if t = 2 ∨ t = 5 ∨ t = 12 then dtN [] (p + n) (nameOf l p)
  else if t = 15 then (if n < 2 then none else dtN ((l.drop p).take 2) (p + n) (nameOf l (p + 2)))
  else if t = 6 then dtS l (p + n) (nameOf l p)
  else if mayD t ((l.drop p).take n) = true then some ((l.drop p).take n) else none

theorem pre_nil (o : Option (List UInt8 × Nat)) : pre [] o = o := by cases o <;> rfl
theorem pre_none {l : List UInt8} {P c : Nat} {O : List UInt8} (h : nameOf l P = none) : pre O (namesOf l P (c + 1)) = none := by rw [namesOf, h]; rfl
theorem pre_pre (O r : List UInt8) (o : Option (List UInt8 × Nat)) : pre O (pre r o) = pre (O ++ r) o := by
  cases o with
  | none => rfl
  | some z => obtain ⟨t, e⟩ := z; simp [pre]
theorem pre_some {l : List UInt8} {P c b : Nat} {O r : List UInt8} (h : nameOf l P = some (r, b)) : pre O (namesOf l P (c + 1)) = pre (O ++ r) (namesOf l b c) := by
  rw [namesOf, h]
  exact pre_pre _ _ _
theorem names_one (l : List UInt8) (p : Nat) : namesOf l p 1 = nameOf l p := by
  rw [namesOf]
  cases nameOf l p with
  | none => rfl
  | some z => obtain ⟨r, b⟩ := z; simp [namesOf, pre]
theorem data_n {l : List UInt8} {p n : Nat} {t : Int} (h : t = 2 ∨ t = 5 ∨ t = 12) : dataOf l p n t = dtN [] (p + n) (nameOf l p) := by unfold dataOf; rw [if_pos h]
theorem data_15 (l : List UInt8) (p n : Nat) : dataOf l p n 15 = if n < 2 then none else dtN ((l.drop p).take 2) (p + n) (nameOf l (p + 2)) := by unfold dataOf; rw [if_neg (by decide), if_pos rfl]
theorem data_6 (l : List UInt8) (p n : Nat) : dataOf l p n 6 = dtS l (p + n) (nameOf l p) := by unfold dataOf; rw [if_neg (by decide), if_neg (by decide), if_pos rfl]
theorem data_o {l : List UInt8} {p n : Nat} {t : Int} (h1 : ¬ (t = 2 ∨ t = 5 ∨ t = 12)) (h2 : t ≠ 15) (h3 : t ≠ 6) : dataOf l p n t = if mayD t ((l.drop p).take n) = true then some ((l.drop p).take n) else none := by unfold dataOf; rw [if_neg h1, if_neg h2, if_neg h3]
/-- Fewer than 20 bytes are no TypeSoa's data. -/
theorem data_6_short {l : List UInt8} {p n : Nat} (h : n < 20) : dataOf l p n 6 = none := by
  rw [data_6]
  cases a1 : nameOf l p with
  | none => rfl
  | some z =>
    obtain ⟨r, b⟩ := z
    rw [dtS]
    cases a2 : nameOf l b with
    | none => rfl
    | some z =>
      obtain ⟨r2, b2⟩ := z
      have := nameOf_some a1
      have := nameOf_some a2
      rw [dtS2, if_neg (by omega)]

end Go.Proofs.Ytdogjbblnjjaaab.Pl
