/- What May of package rdata gives, for every argument. -/
import Derived.Test.YtbldoplemfjcjaaRdA
namespace Go.Proofs.Ytbldoplemfjcjaa
open Go.RowKit
open Pl

/-- The tests of a type that the document does not name. -/
theorem other_tests {t : Int} (h : Other t) : (t == 1) = false ∧ (t == 28) = false ∧ (t == 2) = false ∧ (t == 5) = false ∧ (t == 12) = false ∧ (t == 15) = false ∧ (t == 6) = false ∧ (t == 16) = false := by
  obtain ⟨h1, h2, h3, h4, h5, h6, h7, h8⟩ := h
  refine ⟨?_, ?_, ?_, ?_, ?_, ?_, ?_, ?_⟩ <;> (rw [beq_eq_false_iff_ne]; assumption)

end Go.Proofs.Ytbldoplemfjcjaa
