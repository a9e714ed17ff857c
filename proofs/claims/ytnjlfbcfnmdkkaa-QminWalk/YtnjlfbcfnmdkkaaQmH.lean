/- A name's last labels, folded: what it is above, and what is above it. Plain. -/
import Derived.Test.YtnjlfbcfnmdkkaaQmC
namespace Go.Proofs.Ytnjlfbcfnmdkkaa
open Go.RowKit
open Pl
namespace Qm

theorem last_fold_name {l : List UInt8} (h : isName l = true) (k : Nat) (hk : k ≤ (labs l).length) : isName (lastN (foldL l) k) = true ∧ cnt (lastN (foldL l) k) = k ∧ (labs (lastN (foldL l) k)).length = k ∧ fl (lastN (foldL l) k) = (fl l).take k := by
  have h1 : isName (foldL l) = true := by rw [name_fold]; exact h
  have hk' : k ≤ (labs (foldL l)).length := by rw [labs_fold_len]; exact hk
  obtain ⟨a1, a2, a3⟩ := last_name h1 k hk'
  refine ⟨a1, a3, ?_, ?_⟩
  · rw [← (enc_of a1).2.2.1]; exact a3
  · rw [fl_last h1 k hk', fl_fold]
theorem last_fold_fold {l : List UInt8} (h : isName l = true) (k : Nat) : foldL (lastN (foldL l) k) = lastN (foldL l) k := by
  have h1 : isName (foldL l) = true := by rw [name_fold]; exact h
  have h2 := (enc_of h1).2.1
  unfold lastN
  rw [fold_enc (h2.drop _), labs_fold, ← List.map_drop, List.map_map]
  congr 2
  funext x
  exact fold_twice x
theorem last_above {l : List UInt8} (h : isName l = true) (k : Nat) (hk : k ≤ (labs l).length) : aboveB (lastN (foldL l) k) l = true := by
  obtain ⟨a1, a2, a3, a4⟩ := last_fold_name h k hk
  rw [above_iff]
  refine ⟨a1, h, ?_⟩
  rw [a4]
  exact List.take_prefix _ _
theorem above_last {a l : List UInt8} (h : aboveB a l = true) (k : Nat) (hk : k ≤ (labs l).length) (ha : (labs a).length ≤ k) : aboveB a (lastN (foldL l) k) = true := by
  obtain ⟨h1, h2, h3⟩ := above_iff.1 h
  obtain ⟨a1, a2, a3, a4⟩ := last_fold_name h2 k hk
  rw [above_iff]
  refine ⟨h1, a1, ?_⟩
  rw [a4]
  obtain ⟨t, ht⟩ := h3
  rw [← ht, List.take_append, List.take_of_length_le (by rw [fl_len]; exact ha)]
  exact List.prefix_append _ _
theorem last_same {l : List UInt8} (h : isName l = true) (k : Nat) (hk : k ≤ (labs l).length) : sameB (lastN (foldL l) k) l = decide (k = (labs l).length) := by
  obtain ⟨a1, a2, a3, a4⟩ := last_fold_name h k hk
  rw [Bool.eq_iff_iff, same_iff]
  simp only [decide_eq_true_eq]
  constructor
  · intro h'
    have := congrArg List.length h'.2.2
    rw [fl_len, fl_len, a3] at this
    exact this
  · intro e
    refine ⟨a1, h, ?_⟩
    rw [a4, List.take_of_length_le (by rw [fl_len]; omega)]

/-- What Next's answer is, where it is one. -/
structure Told (x : Tk) (c o : Int) (k Z : Nat) : Prop where
  yes : mayT x c o = true
  above : aboveB x.known.data.toList x.n.data.toList = true
  size : sizeV x.steps (leftI x) c o = .tuple #[.int .i64 (Z : Int), .int .i64 0]
  z1 : 1 ≤ Z
  zl : (Z : Int) ≤ leftI x
  nam : toldN x c o = k
  low : (labs x.known.data.toList).length ≤ k
  top : k ≤ (labs x.n.data.toList).length
  way : (k = (labs x.n.data.toList).length ∧ typeI x c o = x.t) ∨ (x.fb = false ∧ k = (labs x.known.data.toList).length + Z ∧ k < (labs x.n.data.toList).length ∧ typeI x c o = 1)
theorem told_of {x : Tk} {c o : Int} (h : mayT x c o = true) : ∃ k Z, Told x c o k Z := by
  have h0 := h
  unfold mayT at h
  simp only [Bool.and_eq_true, decide_eq_true_eq] at h
  obtain ⟨⟨h1, h2⟩, h3⟩ := h
  obtain ⟨a1, a2, a3⟩ := above_len h1
  have hl : 1 ≤ leftI x := by unfold leftI; omega
  obtain ⟨z1, z2⟩ := szI_in (s := x.steps) (l := leftI x) (c := c) (o := o) hl
  refine ⟨toldN x c o, (szI x.steps (leftI x) c o).toNat, h0, h1, ?_, by omega, by omega, rfl, ?_, ?_, ?_⟩
  · rw [sizeV_yes h3, Int.toNat_of_nonneg (by omega)]
  · unfold toldN lN; split <;> omega
  · unfold toldN lN; split
    · omega
    · rename_i hh
      simp only [not_or, Int.not_le] at hh
      omega
  · unfold toldN typeI lN
    by_cases hh : x.fb = true ∨ ((labs x.n.data.toList).length : Int) ≤ ((labs x.known.data.toList).length : Int) + szI x.steps (leftI x) c o
    · left; rw [if_pos hh, if_pos hh]; exact ⟨rfl, rfl⟩
    · right; rw [if_neg hh, if_neg hh]
      simp only [not_or, Int.not_le] at hh
      exact ⟨by simpa using hh.1, rfl, by omega, rfl⟩

end Qm
end Go.Proofs.Ytnjlfbcfnmdkkaa
