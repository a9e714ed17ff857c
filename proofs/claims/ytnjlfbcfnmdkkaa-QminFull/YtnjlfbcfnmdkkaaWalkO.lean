/- The contracts of package rel with their answers named; what awake gives: true. -/
import Derived.Test.YtnjlfbcfnmdkkaaWalkN
import Derived.Test.YtnjlfbcfnmdkkaaWalkC
namespace Go.Proofs.Ytnjlfbcfnmdkkaa
open Go.RowKit
open Pl

theorem last_ok (s t : ByteArray) (k : Int) (w : World) (hs : s.size ≤ maxLen) (h : lastR s.data.toList k = some t.data.toList) :
    Calls Try.prog 33 #[.string s, .int .i64 k] w fun e w' => e = .returned (.tuple #[.string t, .int .i64 0]) ∧ Below w.heap.size w w' := by
  have := last_any s k w hs
  rw [h] at this
  exact this
theorem last_err (s : ByteArray) (k : Int) (w : World) (hs : s.size ≤ maxLen) (h : lastR s.data.toList k = none) :
    Calls Try.prog 33 #[.string s, .int .i64 k] w fun e w' => e = .returned (.tuple #[.string ⟨#[]⟩, .int .i64 200]) ∧ Below w.heap.size w w' := by
  have := last_any s k w hs
  rw [h] at this
  exact this
theorem fold_as (s t : ByteArray) (w : World) (hs : s.size ≤ maxLen) (h : foldR s.data.toList = t.data.toList) :
    Calls Try.prog 34 #[.string s] w fun e w' => e = .returned (.string t) ∧ Below w.heap.size w w' := by
  have := fold_any s w hs
  rw [h] at this
  exact this
theorem above_as (a b : ByteArray) (v : Bool) (w : World) (ha : a.size ≤ maxLen) (hb : b.size ≤ maxLen) (h : aboveB a.data.toList b.data.toList = v) :
    Calls Try.prog 23 #[.string a, .string b] w fun e w' => e = .returned (.bool v) ∧ Below w.heap.size w w' := by rw [← h]; exact above_any a b w ha hb
theorem refMay_as (s : ByteArray) (b : Bool) (w : World) (hs : s.size ≤ maxLen) (h : isName s.data.toList = b) :
    Calls Try.prog 19 #[.string s] w fun e w' => e = .returned (.bool b) ∧ Below w.heap.size w w' := by rw [← h]; exact refMay_any s w hs

abbrev kA : ByteArray := ⟨#[3, 87, 87, 87, 1, 99, 0]⟩
abbrev kB : ByteArray := ⟨#[1, 67, 0]⟩
abbrev kC : ByteArray := ⟨#[1, 99, 0]⟩
abbrev kX : ByteArray := ⟨#[120]⟩
abbrev kY : ByteArray := ⟨#[1, 120, 1, 67, 0]⟩
abbrev kF : ByteArray := ⟨#[3, 119, 119, 119, 1, 99, 0]⟩
abbrev kR : ByteArray := ⟨#[0]⟩

theorem q1 : parR kA.data.toList = some kC.data.toList := by decide +kernel
theorem q2 : lastR kA.data.toList 1 = some kC.data.toList := by decide +kernel
theorem q3 : childR kX.data.toList kB.data.toList = some kY.data.toList := by decide +kernel
theorem q4 : parR kR.data.toList = none := by decide +kernel
theorem q5 : foldR kA.data.toList = kF.data.toList := by decide +kernel
theorem q6 : sameB kB.data.toList kC.data.toList = true := by decide +kernel
theorem q7 : aboveB kB.data.toList kA.data.toList = true := by decide +kernel
theorem q8 : aboveB kA.data.toList kB.data.toList = false := by decide +kernel
theorem q9 : cmpN kA.data.toList kB.data.toList = 1 := by decide +kernel
theorem q10 : cmpN kB.data.toList kB.data.toList = 0 := by decide +kernel
theorem sz {s : ByteArray} (h : s.size ≤ 1000) : s.size ≤ maxLen := by unfold maxLen; omega

end Go.Proofs.Ytnjlfbcfnmdkkaa
