/- How many labels more are told, and what is asked next: plain functions, with no word of the program. -/
import Derived.Test.YtnjlfbcfnmdkkaaStM
import Derived.Test.YtnjlfbcfnmdkkaaPlainK
import Derived.Test.YtnjlfbcfnmdkkaaWalkN
namespace Go.Proofs.Ytnjlfbcfnmdkkaa
open Go.RowKit
open Pl
namespace Qm

/-- May the four numbers be? -/
def mayS (s l c o : Int) : Bool := decide (0 ≤ s ∧ s ≤ 1000) && decide (1 ≤ l ∧ l ≤ 1000) && decide (0 ≤ c ∧ c ≤ 1000) && decide (0 ≤ o ∧ o ≤ 1000)
theorem mayS_iff {s l c o : Int} : mayS s l c o = true ↔ (0 ≤ s ∧ s ≤ 1000) ∧ (1 ≤ l ∧ l ≤ 1000) ∧ (0 ≤ c ∧ c ≤ 1000) ∧ (0 ≤ o ∧ o ≤ 1000) := by
  unfold mayS; simp [and_assoc]
/-- How many labels more. -/
def szI (s l c o : Int) : Int := if s < o ∨ l ≤ c - s then 1 else if c ≤ s then l else (l + (c - s) - 1) / (c - s)
def sizeV (s l c o : Int) : Value := if mayS s l c o = true then .tuple #[.int .i64 (szI s l c o), .int .i64 0] else .tuple #[.int .i64 0, .int .i64 1700]
theorem sizeV_yes {s l c o : Int} (h : mayS s l c o = true) : sizeV s l c o = .tuple #[.int .i64 (szI s l c o), .int .i64 0] := if_pos h
theorem sizeV_no {s l c o : Int} (h : mayS s l c o = false) : sizeV s l c o = .tuple #[.int .i64 0, .int .i64 1700] := if_neg (by rw [h]; decide)

theorem ceil_in {l d : Int} (hd : 1 ≤ d) (hl : d < l) : 1 ≤ (l + d - 1) / d ∧ (l + d - 1) / d ≤ l ∧ l ≤ (l + d - 1) / d * d ∧ ((l + d - 1) / d - 1) * d < l := by
  have h1 := Int.mul_ediv_add_emod (l + d - 1) d
  have h2 := Int.emod_nonneg (l + d - 1) (show d ≠ 0 by omega)
  have h3 := Int.emod_lt_of_pos (l + d - 1) (show 0 < d by omega)
  generalize hq : (l + d - 1) / d = q at *
  generalize (l + d - 1) % d = r at *
  have h4 : 1 ≤ q := by rw [← hq]; exact (Int.le_ediv_iff_mul_le (by omega)).2 (by omega)
  have e : (q - 1) * d = q * d - d := by rw [Int.sub_mul, Int.one_mul]
  have e2 : d * q = q * d := Int.mul_comm _ _
  rw [e]
  have h5 : q ≤ l := by
    by_cases h : q ≤ l
    · exact h
    · have h6 : (l + 1) * d ≤ q * d := Int.mul_le_mul_of_nonneg_right (by omega) (by omega)
      have h7 : l * 1 ≤ l * d := Int.mul_le_mul_of_nonneg_left hd (by omega)
      rw [Int.add_mul] at h6
      omega
  omega

/-- At least one, at most all. -/
theorem szI_in {s l c o : Int} (h : 1 ≤ l) : 1 ≤ szI s l c o ∧ szI s l c o ≤ l := by
  unfold szI
  split
  · omega
  · split
    · omega
    · have := ceil_in (l := l) (d := c - s) (by omega) (by omega)
      omega

/-- A task. -/
structure Tk where
  n : ByteArray
  t : Int
  cut : ByteArray
  known : ByteArray
  steps : Int
  fb : Bool
  server : Int
  tries : Int
def tkC (x : Tk) : Array Value := #[.string x.n, .int .i64 x.t, .string x.cut, .string x.known, .int .i64 x.steps, .bool x.fb, .int .i64 x.server, .int .i64 x.tries]
def tkZ : Tk := ⟨⟨#[]⟩, 0, ⟨#[]⟩, ⟨#[]⟩, 0, false, 0, 0⟩

/-- How many labels a name has. -/
def lN (l : List UInt8) : Int := ((labs l).length : Int)
/-- The numbers that a task gives. -/
def leftI (x : Tk) : Int := max 1 (lN x.n.data.toList - lN x.known.data.toList)
def mayT (x : Tk) (c o : Int) : Bool := aboveB x.known.data.toList x.n.data.toList && decide (1 ≤ x.t ∧ x.t ≤ 65535) && mayS x.steps (leftI x) c o
/-- How many of the name's labels are told, and the type that is asked for. -/
def toldN (x : Tk) (c o : Int) : Nat :=
  if x.fb = true ∨ lN x.n.data.toList ≤ lN x.known.data.toList + szI x.steps (leftI x) c o then (labs x.n.data.toList).length
  else (labs x.known.data.toList).length + (szI x.steps (leftI x) c o).toNat
def toldB (x : Tk) (c o : Int) : ByteArray := ⟨(lastN (foldL x.n.data.toList) (toldN x c o)).toArray⟩
def typeI (x : Tk) (c o : Int) : Int := if x.fb = true ∨ lN x.n.data.toList ≤ lN x.known.data.toList + szI x.steps (leftI x) c o then x.t else 1
def stV (n : ByteArray) (t : Int) : Value := .agg #[.string n, .int .i64 t]
def nextV (x : Tk) (c o : Int) : Value := if mayT x c o = true then .tuple #[stV (toldB x c o) (typeI x c o), .int .i64 0] else .tuple #[stV ⟨#[]⟩ 0, .int .i64 1700]
theorem nextV_yes {x : Tk} {c o : Int} (h : mayT x c o = true) : nextV x c o = .tuple #[stV (toldB x c o) (typeI x c o), .int .i64 0] := if_pos h
theorem nextV_no {x : Tk} {c o : Int} (h : mayT x c o = false) : nextV x c o = .tuple #[stV ⟨#[]⟩ 0, .int .i64 1700] := if_neg (by rw [h]; decide)

theorem above_len {a b : List UInt8} (h : aboveB a b = true) : isName a = true ∧ isName b = true ∧ (labs a).length ≤ (labs b).length := by
  have h' := above_iff.1 h
  refine ⟨h'.1, h'.2.1, ?_⟩
  rw [← fl_len, ← fl_len]
  exact h'.2.2.length_le

end Qm
end Go.Proofs.Ytnjlfbcfnmdkkaa
