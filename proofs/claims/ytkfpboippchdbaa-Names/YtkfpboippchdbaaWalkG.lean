/- The contracts of Text, Parse, May, Count, said over strings. -/
import Derived.Test.YtkfpboippchdbaaWalkF
import Derived.Test.YtkfpboippchdbaaPlainC
namespace Go.Proofs.Ytkfpboippchdbaa
open Go.RowKit
open Pl

theorem mk_data (s : ByteArray) : (⟨s.data.toList.toArray⟩ : ByteArray) = s := rfl
theorem mk_of {s : ByteArray} {l : List UInt8} (h : s.data.toList = l) : (⟨l.toArray⟩ : ByteArray) = s := by rw [← h]

theorem text_ok (s t : ByteArray) (w : World) (hs : s.size ≤ maxLen) (h : isName s.data.toList = true) (ht : t.data.toList = tx s.data.toList) :
    Calls Try.prog 9 #[.string s] w fun e w' => e = .returned (.tuple #[.string t, .int .i64 0]) ∧ Below w.heap.size w w' := by
  have := text_any s w hs
  rw [txV, h, if_pos rfl, mk_of ht] at this
  exact this
theorem text_err (s : ByteArray) (w : World) (hs : s.size ≤ maxLen) (h : isName s.data.toList = false) :
    Calls Try.prog 9 #[.string s] w fun e w' => e = .returned (.tuple #[.string ⟨#[]⟩, .int .i64 100]) ∧ Below w.heap.size w w' := by
  have := text_any s w hs
  rw [txV, h, if_neg (by simp)] at this
  exact this
theorem parse_ok (s n : ByteArray) (w : World) (hs : s.size ≤ maxLen) (h : prs s.data.toList = some n.data.toList) :
    Calls Try.prog 11 #[.string s] w fun e w' => e = .returned (.tuple #[.string n, .int .i64 0]) ∧ Below w.heap.size w w' := by
  have := parse_any s w hs
  rw [h] at this
  exact this
theorem parse_err (s : ByteArray) (w : World) (hs : s.size ≤ maxLen) (h : prs s.data.toList = none) :
    Calls Try.prog 11 #[.string s] w fun e w' => e = .returned (.tuple #[.string ⟨#[]⟩, .int .i64 100]) ∧ Below w.heap.size w w' := by
  have := parse_any s w hs
  rw [h] at this
  exact this
theorem may_as (s : ByteArray) (b : Bool) (w : World) (hs : s.size ≤ maxLen) (h : isName s.data.toList = b) :
    Calls Try.prog 14 #[.string s] w fun e w' => e = .returned (.bool b) ∧ w' = w := by rw [← h]; exact may_any s w hs
theorem count_as (s : ByteArray) (n : Nat) (w : World) (hs : s.size ≤ maxLen) (h : cnt s.data.toList = n) :
    Calls Try.prog 16 #[.string s] w fun e w' => e = .returned (.int .i64 n) ∧ w' = w := by rw [← h]; exact count_any s w hs

theorem data_len (s : ByteArray) : s.data.toList.length = s.size := by rw [Array.length_toList]; rfl

theorem name_size {s : ByteArray} (h : isName s.data.toList = true) : s.size ≤ 255 := by rw [← data_len]; exact (name_some h).1

theorem tx_size {l : List UInt8} (h : isName l = true) : (tx l).length ≤ 1020 := by
  have h1 := (name_some h).1
  unfold tx
  split
  · simp
  · have := txS_short l 0; simp only [if_true] at this; omega

theorem text_is {s : ByteArray} (h : isName s.data.toList = true) : ∃ t : ByteArray, t.data.toList = tx s.data.toList ∧ t.size ≤ 1020 ∧ prs t.data.toList = some s.data.toList := by
  refine ⟨⟨(tx s.data.toList).toArray⟩, by simp, ?_, ?_⟩
  · rw [← data_len]; simpa using tx_size h
  · simpa using prs_tx h

end Go.Proofs.Ytkfpboippchdbaa
