/- What Parent, Last and Child answer: plain functions on bytes, with no word of the program. -/
import Derived.Test.YtbldoplemfjcjaaPlainH
namespace Go.Proofs.Ytbldoplemfjcjaa.Pl

/-- A name without its first label. -/
def parR (l : List UInt8) : Option (List UInt8) := if isName l = true ∧ (labs l).length ≠ 0 then some (enc ((labs l).drop 1)) else none
/-- A name's last k labels. -/
def lastR (l : List UInt8) (k : Int) : Option (List UInt8) := if isName l = true ∧ 0 ≤ k ∧ k ≤ (labs l).length then some (lastN l k.toNat) else none
/-- A label ahead of a name. -/
def childR (x l : List UInt8) : Option (List UInt8) := if 1 ≤ x.length ∧ x.length ≤ 63 ∧ isName l = true ∧ 1 + x.length + l.length ≤ 255 then some (UInt8.ofNat x.length :: (x ++ l)) else none
/-- A name folded. -/
def foldR (l : List UInt8) : List UInt8 := if isName l = true then foldL l else []

theorem last_drop {l : List UInt8} (h : isName l = true) (k : Nat) : lastN l k = l.drop (pos (labs l) ((labs l).length - k)) := by
  obtain ⟨e1, _, _, _⟩ := enc_of h
  unfold lastN
  rw [← enc_drop, ← e1]

theorem name_pos {l : List UInt8} (h : isName l = true) : 0 < l.length := by
  obtain ⟨e1, _, _, _⟩ := enc_of h
  have := pos_lt (labs l) 0
  rw [← e1] at this
  omega

theorem labs_zero {l : List UInt8} (h : isName l = true) : (labs l).length = 0 ↔ l = [0] := by
  obtain ⟨e1, _, _, _⟩ := enc_of h
  constructor
  · intro hz
    rw [e1, List.eq_nil_of_length_eq_zero hz]; rfl
  · intro hz; rw [hz]; decide

/-- The first byte tells where the second label begins. -/
theorem first_len {l : List UInt8} (h : isName l = true) (h0 : (labs l).length ≠ 0) : 1 + (l[0]'(name_pos h)).toNat = pos (labs l) 1 ∧ 1 + (l[0]'(name_pos h)).toNat < l.length ∧ 1 ≤ (l[0]'(name_pos h)).toNat ∧ (l[0]'(name_pos h)).toNat ≤ 63 := by
  obtain ⟨e1, e2, _, _⟩ := enc_of h
  have h1 := pos_at (labs l) 0 (by omega)
  have h2 := e2 (labs l)[0] (List.getElem_mem _)
  have h3 : l[0]'(name_pos h) = UInt8.ofNat (labs l)[0].length := by
    rw [← h1]
    have e : ∀ (a b : List UInt8) (i j : Nat) (ha : i < a.length) (hb : j < b.length), a = b → i = j → a[i] = b[j] := by
      intro a b i j ha hb e f; subst e; subst f; rfl
    exact e _ _ _ _ _ _ e1 (pos_zero _).symm
  have h4 : (l[0]'(name_pos h)).toNat = (labs l)[0].length := by rw [h3, len_byte h2.2]
  have h5 := pos_succ (labs l) 0 (by omega)
  rw [pos_zero, show 0 + 1 = 1 from rfl] at h5
  have h6 := pos_lt (labs l) 1
  rw [← e1] at h6
  omega

theorem par_drop {l : List UInt8} (h : isName l = true) (h0 : (labs l).length ≠ 0) : parR l = some (l.drop (1 + (l[0]'(name_pos h)).toNat)) := by
  obtain ⟨e1, _, _, _⟩ := enc_of h
  unfold parR
  rw [if_pos ⟨h, h0⟩, (first_len h h0).1]
  congr 1
  rw [← enc_drop, ← e1]

theorem par_none {l : List UInt8} (h : isName l = false ∨ (labs l).length = 0) : parR l = none := by
  unfold parR
  rw [if_neg]
  rintro ⟨h1, h2⟩
  rcases h with h | h
  · rw [h] at h1; simp at h1
  · exact h2 h

end Go.Proofs.Ytbldoplemfjcjaa.Pl
