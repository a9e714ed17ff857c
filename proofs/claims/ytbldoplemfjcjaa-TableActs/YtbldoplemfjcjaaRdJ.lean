/- What the document's whole, texts, DataMay, wide, A, Addr, Mx and Host give. -/
import Derived.Test.YtbldoplemfjcjaaRdB
namespace Go.Proofs.Ytbldoplemfjcjaa
open Go.RowKit
open Pl

theorem refMay_as (s : ByteArray) (b : Bool) (w : World) (hs : s.size ≤ maxLen) (h : isName s.data.toList = b) :
    Calls Try.prog 29 #[.string s] w fun e w' => e = .returned (.bool b) ∧ Below w.heap.size w w' := by rw [← h]; exact refMay_any s w hs
theorem drop_getE (s : ByteArray) (k p : Nat) (h : k + p < s.size) : (s.data.toList.drop k)[p]'(by rw [List.length_drop, data_len]; omega) = s[k + p] := by
  rw [List.getElem_drop]; rfl
/-- What whole gives. -/
def wholeI (l : List UInt8) (k : Nat) : Int :=
  match cutL (l.drop k) with
  | none => -1
  | some e => (k : Int) + (e : Int)
theorem whole_none {l : List UInt8} {k : Nat} (h : cutL (l.drop k) = none) : wholeI l k = -1 := by unfold wholeI; rw [h]
theorem whole_some {l : List UInt8} {k e : Nat} (h : cutL (l.drop k) = some e) : wholeI l k = (k : Int) + (e : Int) := by unfold wholeI; rw [h]
theorem ret_i {a b : Int} (h : a = b) : Ending.returned (.int .i64 a) = .returned (.int .i64 b) := by rw [h]

end Go.Proofs.Ytbldoplemfjcjaa
