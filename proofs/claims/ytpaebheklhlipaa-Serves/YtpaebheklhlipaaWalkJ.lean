/- What Last and Above of package rel give, for every argument. -/
import Derived.Test.YtpaebheklhlipaaWalkI
import Derived.Test.YtpaebheklhlipaaPlainJ
namespace Go.Proofs.Ytpaebheklhlipaa
open Go.RowKit
open Pl

theorem fill_at {w : World} {g : Nat} {C : Array Value} {ls : List (List UInt8)} (h : w.heap[g]? = some (.cells C 56 (0, 0))) (hF : Fill ls ls.length C) : PlAt w g ls :=
  ⟨by rw [cell_of_row w g 128 C 56 (0, 0) h]; exact hF.2.1, fun i hi => by rw [cell_of_row w g i C 56 (0, 0) h]; exact hF.2.2.1 i hi⟩

theorem Fill.all {ls : List (List UInt8)} {c : Nat} {C : Array Value} (h : Fill ls c C) : C.all (·.oneCell') = true := h.2.2.2

theorem few {s : ByteArray} (h : isName s.data.toList = true) : (labs s.data.toList).length ≤ 127 := by
  obtain ⟨e1, e2, _, e4⟩ := enc_of h
  have := labs_few e2
  rw [← e1] at this
  omega

theorem pos_in {s : ByteArray} (h : isName s.data.toList = true) (i : Nat) : pos (labs s.data.toList) i < s.size := by
  obtain ⟨e1, _, _, _⟩ := enc_of h
  have := pos_lt (labs s.data.toList) i
  rw [← e1, data_len] at this
  exact this

theorem last_ext {s : ByteArray} (h : isName s.data.toList = true) (k : Nat) : (s.extract (pos (labs s.data.toList) ((labs s.data.toList).length - k)) s.size).data.toList = lastN s.data.toList k := by
  rw [ext_from, last_drop h]

theorem zero47 : ∃ Z : Array Value, (∀ w, (zeroValue 56).run Try.prog w = .ok (.agg Z) w) ∧ Z.size = 129 := ⟨Z47, (zero_of_info info47).1, (fill_start []).1⟩

theorem last_no {l : List UInt8} {k : Int} (h : isName l = false ∨ k < 0 ∨ ((labs l).length : Int) < k) : lastR l k = none := by
  unfold lastR
  rw [if_neg]
  rintro ⟨h1, h2, h3⟩
  rcases h with h | h | h
  · rw [h] at h1; simp at h1
  · omega
  · omega
theorem last_yes {l : List UInt8} {k : Nat} (h : isName l = true) (hk : k ≤ (labs l).length) : lastR l (k : Int) = some (lastN l k) := by
  unfold lastR
  rw [if_pos ⟨h, by omega, by omega⟩]; rfl

end Go.Proofs.Ytpaebheklhlipaa
