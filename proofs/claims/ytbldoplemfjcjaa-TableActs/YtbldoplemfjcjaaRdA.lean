/- What within, mayTexts, cutName, soaNames and May of package rdata give, for every argument. -/
import Derived.Test.YtbldoplemfjcjaaOctE
import Derived.Test.YtbldoplemfjcjaaPlainR
namespace Go.Proofs.Ytbldoplemfjcjaa
open Go.RowKit
open Pl

theorem ext_list (s : ByteArray) (i j : Nat) : (s.extract i j).data.toList = (s.data.toList.drop i).take (j - i) := by simp [List.extract_eq_take_drop]
theorem ext_to (s : ByteArray) (i : Nat) : (s.extract 0 i).data.toList = s.data.toList.take i := by rw [ext_list]; simp
theorem ext_from (s : ByteArray) (i : Nat) : (s.extract i s.size).data.toList = s.data.toList.drop i := by
  rw [ext_list, List.take_of_length_le (by rw [List.length_drop, data_len]; exact Nat.le_refl _)]
theorem cut_to (s : ByteArray) (k : Nat) (c : Int) (hc : c = (k : Int)) (h : k ≤ s.size) (u : World) : (Instr.slice 9 (.string s) none (some (.int .i64 c)) none).run Try.prog u = .ok (.string (s.extract 0 k)) u := by
  subst hc
  have := run_slice_string_h (P := Try.prog) (w := u) (t := 9) (s := s) Try.underlying9 .i64 (k : Int) (by omega) (by omega)
  rw [this]; rfl
theorem cut_rest (s : ByteArray) (k : Nat) (c : Int) (hc : c = (k : Int)) (h : k ≤ s.size) (u : World) : (Instr.slice 9 (.string s) (some (.int .i64 c)) none none).run Try.prog u = .ok (.string (s.extract k s.size)) u := by
  subst hc
  exact cut_from s k h u
theorem drew_same {w w' : World} (h : w' = w) : ∃ m, w' = w.drewN m := ⟨0, h⟩
theorem drew_next {a b c : World} (h : ∃ m, b = a.drewN m) (k : ∃ m, c = b.drewN m) : ∃ m, c = a.drewN m := by
  obtain ⟨m, rfl⟩ := h
  obtain ⟨n, rfl⟩ := k
  exact ⟨m + n, World.drewN_drewN _ _ _⟩

/-- Is a number from 0 to top? -/
def inB (top x : Int) : Bool := decide (0 ≤ x ∧ x ≤ top)
/-- Are all numbers from 0 to top? -/
def allIn (top : Int) (zs : List Int) : Bool := zs.all fun z => decide (0 ≤ z ∧ z ≤ top)

theorem in_yes {top : Int} {zs : List Int} (h : ∀ i, i < zs.length → 0 ≤ zs.getD i 0 ∧ zs.getD i 0 ≤ top) : allIn top zs = true := by
  unfold allIn
  rw [List.all_eq_true]
  intro z hz
  obtain ⟨i, hi, rfl⟩ := List.mem_iff_getElem.1 hz
  have := h i hi
  rw [List.getD_eq_getElem?_getD, List.getElem?_eq_getElem hi] at this
  simpa using this
theorem in_no {top : Int} {zs : List Int} {i : Nat} (hi : i < zs.length) (h : ¬ (0 ≤ zs.getD i 0 ∧ zs.getD i 0 ≤ top)) : allIn top zs = false := by
  unfold allIn
  rw [List.all_eq_false]
  refine ⟨zs[i], List.getElem_mem _, ?_⟩
  rw [List.getD_eq_getElem?_getD, List.getElem?_eq_getElem hi] at h
  simpa using h


/-- What cutName gives. -/
def cutT (s : ByteArray) : Option Nat → Value
  | none => .tuple #[.string ⟨#[]⟩, .string ⟨#[]⟩, .bool false]
  | some e => .tuple #[.string (s.extract 0 e), .string (s.extract e s.size), .bool true]
theorem ret_cut {s : ByteArray} {o : Option Nat} {v : Value} (h : cutL s.data.toList = o) (hv : v = cutT s o) : Ending.returned v = .returned (cutT s (cutL s.data.toList)) := by rw [h, hv]

/-- What soaNames gives. -/
def soaT (s : ByteArray) : Option (Nat × Nat) → Value
  | none => .tuple #[.string ⟨#[]⟩, .string ⟨#[]⟩, .bool false]
  | some (a, b) => .tuple #[.string (s.extract 0 a), .string ((s.extract a s.size).extract 0 b), .bool true]
theorem ret_soa {s : ByteArray} {o : Option (Nat × Nat)} {v : Value} (h : soaL s.data.toList = o) (hv : v = soaT s o) : Ending.returned v = .returned (soaT s (soaL s.data.toList)) := by rw [h, hv]
end Go.Proofs.Ytbldoplemfjcjaa
