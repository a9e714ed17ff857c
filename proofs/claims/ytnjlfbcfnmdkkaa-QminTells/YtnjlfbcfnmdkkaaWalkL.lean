/- What Compare of package rel gives, for every argument. -/
import Derived.Test.YtnjlfbcfnmdkkaaWalkK
namespace Go.Proofs.Ytnjlfbcfnmdkkaa
open Go.RowKit
open Pl

theorem drew_cell {w u : World} (h : ∃ m, u = w.drewN m) (a : Addr) : u.cell? a = w.cell? a := by obtain ⟨m, rfl⟩ := h; rfl
theorem drew_trans {a b c : World} (h : ∃ m, b = a.drewN m) (k : ∃ m, c = b.drewN m) : ∃ m, c = a.drewN m := by
  obtain ⟨m, rfl⟩ := k
  exact drew_more h

theorem lab_ext {s : ByteArray} (h : isName s.data.toList = true) (i : Nat) (hi : i < (labs s.data.toList).length) : (s.extract (pos (labs s.data.toList) i + 1) (pos (labs s.data.toList) (i + 1))).data.toList = (labs s.data.toList)[i] := by
  obtain ⟨e1, _, _, _⟩ := enc_of h
  have := pos_label (labs s.data.toList) i hi
  rw [← e1] at this
  rw [ext_list]
  exact this

end Go.Proofs.Ytnjlfbcfnmdkkaa
