/- What awake gives: true. -/
import Derived.Test.YtnpgbiehnnekgaaOctA
namespace Go.Proofs.Ytnpgbiehnnekgaa
open Go.RowKit

theorem below_drew {w w' : World} (h : ∃ m, w' = w.drewN m) : Below w.heap.size w w' := by
  obtain ⟨m, rfl⟩ := h
  exact ⟨rfl, rfl, rfl, Nat.le_refl _, fun _ _ => rfl⟩
theorem next {w b c : World} (h : Below w.heap.size w b) (k : Below b.heap.size b c) : Below w.heap.size w c := h.trans (k.mono h.size)


end Go.Proofs.Ytnpgbiehnnekgaa
