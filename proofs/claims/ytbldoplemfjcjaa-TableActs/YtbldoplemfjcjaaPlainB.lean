/- Plain functions on bytes that tell which texts are a name's, with no word of the program. -/
import Derived.Test.YtbldoplemfjcjaaPlain
namespace Go.Proofs.Ytbldoplemfjcjaa.Pl

/-- All labels are read: the name, if it is not too long. -/
def fin (o : List UInt8) : Option (List UInt8) := if 255 < o.length + 1 then none else some (o ++ [0])

/-- A text is read within a label: o: the labels behind; lb: the label so far. -/
def pin : Nat → List UInt8 → List UInt8 → List UInt8 → Option (List UInt8)
  | 0, _, _, _ => none
  | _ + 1, _, _, [] => none
  | f + 1, o, lb, c :: r =>
    if c.toNat = 46 then (if sizeB lb.length then (if r.length = 0 then fin (o ++ UInt8.ofNat lb.length :: lb) else pin f (o ++ UInt8.ofNat lb.length :: lb) [] r) else none)
    else match rb (c :: r) with
      | none => none
      | some (b, k) => pin f o (lb ++ [b]) ((c :: r).drop k)

def pout (f : Nat) (o t : List UInt8) : Option (List UInt8) := if t.length = 0 then fin o else pin f o [] t

/-- The name whose text this is. -/
def prs (t : List UInt8) : Option (List UInt8) := if t = [46] then some [0] else if t.length = 0 ∨ 1020 < t.length then none else pin t.length [] [] t

def PIn (t o lb : List UInt8) (a : Nat) (R : Option (List UInt8)) : Prop := ∃ f, t.length - a ≤ f ∧ pin f o lb (t.drop a) = R
def POut (t o : List UInt8) (a : Nat) (R : Option (List UInt8)) : Prop := ∃ f, t.length - a ≤ f ∧ pout f o (t.drop a) = R

theorem rb_width {t : List UInt8} {b : UInt8} {k : Nat} (h : rb t = some (b, k)) : 1 ≤ k ∧ k ≤ t.length := by
  match t with
  | [] => simp [rb] at h
  | c :: r =>
    rw [rb] at h
    split at h
    · simp only [Option.some.injEq, Prod.mk.injEq] at h; simp; omega
    · split at h
      · simp at h
      · match r with
        | [] => simp [rbTail] at h
        | [_] => simp [rbTail] at h
        | [_, _] => simp [rbTail] at h
        | x :: y :: z :: r =>
          rw [rbTail] at h
          split at h
          · simp only [Option.some.injEq, Prod.mk.injEq] at h; simp; omega
          · simp at h

section
variable {t o lb : List UInt8} {a : Nat} {R : Option (List UInt8)}

theorem PIn.fuel (h : PIn t o lb a R) (ha : a < t.length) : ∃ f, t.length - (a + 1) ≤ f ∧ pin (f + 1) o lb (t[a] :: t.drop (a + 1)) = R := by
  obtain ⟨f, hf, h⟩ := h
  match f, hf with
  | 0, hf => omega
  | f + 1, hf => exact ⟨f, by omega, by rw [← drop_at t a ha]; exact h⟩

theorem in_dot (h : PIn t o lb a R) (ha : a < t.length) (hc : t[a].toNat = 46) (hs : sizeB lb.length = true) : POut t (o ++ UInt8.ofNat lb.length :: lb) (a + 1) R := by
  obtain ⟨f, hf, h⟩ := h.fuel ha
  rw [pin, if_pos hc, if_pos hs] at h
  exact ⟨f, hf, h⟩

theorem in_dot_no (h : PIn t o lb a R) (ha : a < t.length) (hc : t[a].toNat = 46) (hs : sizeB lb.length = false) : R = none := by
  obtain ⟨f, hf, h⟩ := h.fuel ha
  rw [pin, if_pos hc, if_neg (by simp [hs])] at h
  exact h.symm

theorem in_none (h : PIn t o lb a R) (ha : a < t.length) (hc : t[a].toNat ≠ 46) (hr : rb (t.drop a) = none) : R = none := by
  obtain ⟨f, hf, h⟩ := h.fuel ha
  rw [drop_at t a ha] at hr
  rw [pin, if_neg hc, hr] at h
  exact h.symm

theorem in_some (h : PIn t o lb a R) (ha : a < t.length) (hc : t[a].toNat ≠ 46) {b : UInt8} {k : Nat} (hr : rb (t.drop a) = some (b, k)) : PIn t o (lb ++ [b]) (a + k) R := by
  obtain ⟨f, hf, h⟩ := h.fuel ha
  have hk := rb_width hr
  have hr' := hr
  rw [drop_at t a ha] at hr'
  rw [pin, if_neg hc, hr'] at h
  refine ⟨f, by omega, ?_⟩
  rw [← List.drop_drop, drop_at t a ha]
  exact h

theorem in_end (h : PIn t o lb a R) (ha : t.length ≤ a) : R = none := by
  obtain ⟨f, hf, h⟩ := h
  rw [List.drop_of_length_le ha] at h
  match f with
  | 0 => exact h.symm
  | f + 1 => exact h.symm

theorem out_in (h : POut t o a R) (ha : a < t.length) : PIn t o [] a R := by
  obtain ⟨f, hf, h⟩ := h
  rw [pout, if_neg (by simp; omega)] at h
  exact ⟨f, hf, h⟩

theorem out_end (h : POut t o a R) (ha : t.length ≤ a) : R = fin o := by
  obtain ⟨f, hf, h⟩ := h
  rw [pout, if_pos (by simp; omega)] at h
  exact h.symm

theorem out_start (h0 : 0 < t.length) (h1 : t.length ≤ 1020) (h2 : t ≠ [46]) : POut t [] 0 (prs t) := by
  refine ⟨t.length, by omega, ?_⟩
  rw [prs, if_neg h2, if_neg (by omega), pout, List.drop_zero, if_neg (by omega)]
end

end Go.Proofs.Ytbldoplemfjcjaa.Pl
