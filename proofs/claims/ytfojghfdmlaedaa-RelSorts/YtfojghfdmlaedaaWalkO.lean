/- The contracts of package rel with their answers named; what awake gives: true. -/
import Derived.Test.YtfojghfdmlaedaaWalkN
import Derived.Test.YtfojghfdmlaedaaWalkC
namespace Go.Proofs.Ytfojghfdmlaedaa
open Go.RowKit
open Pl

theorem parent_ok (s t : ByteArray) (w : World) (hs : s.size ≤ maxLen) (h : parR s.data.toList = some t.data.toList) :
    Calls Try.prog 9 #[.string s] w fun e w' => e = .returned (.tuple #[.string t, .int .i64 0]) ∧ Below w.heap.size w w' := by
  have := parent_any s w hs
  rw [h] at this
  exact this
theorem parent_err (s : ByteArray) (w : World) (hs : s.size ≤ maxLen) (h : parR s.data.toList = none) :
    Calls Try.prog 9 #[.string s] w fun e w' => e = .returned (.tuple #[.string ⟨#[]⟩, .int .i64 200]) ∧ Below w.heap.size w w' := by
  have := parent_any s w hs
  rw [h] at this
  exact this
theorem last_ok (s t : ByteArray) (k : Int) (w : World) (hs : s.size ≤ maxLen) (h : lastR s.data.toList k = some t.data.toList) :
    Calls Try.prog 10 #[.string s, .int .i64 k] w fun e w' => e = .returned (.tuple #[.string t, .int .i64 0]) ∧ Below w.heap.size w w' := by
  have := last_any s k w hs
  rw [h] at this
  exact this
theorem last_err (s : ByteArray) (k : Int) (w : World) (hs : s.size ≤ maxLen) (h : lastR s.data.toList k = none) :
    Calls Try.prog 10 #[.string s, .int .i64 k] w fun e w' => e = .returned (.tuple #[.string ⟨#[]⟩, .int .i64 200]) ∧ Below w.heap.size w w' := by
  have := last_any s k w hs
  rw [h] at this
  exact this
theorem child_ok (x s t : ByteArray) (w : World) (hx : x.size ≤ maxLen) (hs : s.size ≤ maxLen) (h : childR x.data.toList s.data.toList = some t.data.toList) :
    Calls Try.prog 11 #[.string x, .string s] w fun e w' => e = .returned (.tuple #[.string t, .int .i64 0]) ∧ Below w.heap.size w w' := by
  have := child_any x s w hx hs
  rw [h] at this
  exact this
theorem child_err (x s : ByteArray) (w : World) (hx : x.size ≤ maxLen) (hs : s.size ≤ maxLen) (h : childR x.data.toList s.data.toList = none) :
    Calls Try.prog 11 #[.string x, .string s] w fun e w' => e = .returned (.tuple #[.string ⟨#[]⟩, .int .i64 200]) ∧ Below w.heap.size w w' := by
  have := child_any x s w hx hs
  rw [h] at this
  exact this
theorem fold_as (s t : ByteArray) (w : World) (hs : s.size ≤ maxLen) (h : foldR s.data.toList = t.data.toList) :
    Calls Try.prog 12 #[.string s] w fun e w' => e = .returned (.string t) ∧ Below w.heap.size w w' := by
  have := fold_any s w hs
  rw [h] at this
  exact this
theorem same_as (a b : ByteArray) (v : Bool) (w : World) (ha : a.size ≤ maxLen) (hb : b.size ≤ maxLen) (h : sameB a.data.toList b.data.toList = v) :
    Calls Try.prog 13 #[.string a, .string b] w fun e w' => e = .returned (.bool v) ∧ Below w.heap.size w w' := by rw [← h]; exact same_any a b w ha hb
theorem above_as (a b : ByteArray) (v : Bool) (w : World) (ha : a.size ≤ maxLen) (hb : b.size ≤ maxLen) (h : aboveB a.data.toList b.data.toList = v) :
    Calls Try.prog 7 #[.string a, .string b] w fun e w' => e = .returned (.bool v) ∧ Below w.heap.size w w' := by rw [← h]; exact above_any a b w ha hb
theorem compare_as (a b : ByteArray) (c : Int) (w : World) (ha : a.size ≤ maxLen) (hb : b.size ≤ maxLen) (h : cmpN a.data.toList b.data.toList = c) :
    Calls Try.prog 6 #[.string a, .string b] w fun e w' => e = .returned (.int .i64 c) ∧ Below w.heap.size w w' := by rw [← h]; exact compare_any a b w ha hb
theorem refMay_as (s : ByteArray) (b : Bool) (w : World) (hs : s.size ≤ maxLen) (h : isName s.data.toList = b) :
    Calls Try.prog 5 #[.string s] w fun e w' => e = .returned (.bool b) ∧ Below w.heap.size w w' := by rw [← h]; exact refMay_any s w hs

abbrev kA : ByteArray := ⟨#[3, 87, 87, 87, 1, 99, 0]⟩
abbrev kB : ByteArray := ⟨#[1, 67, 0]⟩
abbrev kC : ByteArray := ⟨#[1, 99, 0]⟩
abbrev kX : ByteArray := ⟨#[120]⟩
abbrev kY : ByteArray := ⟨#[1, 120, 1, 67, 0]⟩
abbrev kF : ByteArray := ⟨#[3, 119, 119, 119, 1, 99, 0]⟩
abbrev kR : ByteArray := ⟨#[0]⟩

theorem q1 : parR kA.data.toList = some kC.data.toList := by decide +kernel
theorem q2 : lastR kA.data.toList 1 = some kC.data.toList := by decide +kernel
theorem q3 : childR kX.data.toList kB.data.toList = some kY.data.toList := by decide +kernel
theorem q4 : parR kR.data.toList = none := by decide +kernel
theorem q5 : foldR kA.data.toList = kF.data.toList := by decide +kernel
theorem q6 : sameB kB.data.toList kC.data.toList = true := by decide +kernel
theorem q7 : aboveB kB.data.toList kA.data.toList = true := by decide +kernel
theorem q8 : aboveB kA.data.toList kB.data.toList = false := by decide +kernel
theorem q9 : cmpN kA.data.toList kB.data.toList = 1 := by decide +kernel
theorem q10 : cmpN kB.data.toList kB.data.toList = 0 := by decide +kernel
theorem sz {s : ByteArray} (h : s.size ≤ 1000) : s.size ≤ maxLen := by unfold maxLen; omega

set_option maxRecDepth 20000 in
set_option maxHeartbeats 2000000 in
theorem awake_any (w : World) : Calls Try.prog 4 #[] w fun e w' => e = .returned (.bool true) ∧ Below w.heap.size w w' := by
  have t1 : True := trivial
  have t2 : True := trivial
  have t3 : True := trivial
  have t4 : True := trivial
  have t5 : True := trivial
  have t6 : True := trivial
  go_enter Try.func4, Try.ntmps4
  go_wp2_with (first
    | (go_at_call 9; have _t := t1; refine (parent_ok kA kC _ (sz (by decide)) q1).mono ?_; rintro e w1 ⟨rfl, b1⟩; clear t1)
    | (go_at_call 10; refine (last_ok kA kC 1 _ (sz (by decide)) q2).mono ?_; rintro e w2 ⟨rfl, b2⟩)
    | (go_at_call 11; refine (child_ok kX kB kY _ (sz (by decide)) (sz (by decide)) q3).mono ?_; rintro e w3 ⟨rfl, b3⟩)
    | (go_at_call 9; have _t := t2; refine (parent_err kR _ (sz (by decide)) q4).mono ?_; rintro e w4 ⟨rfl, b4⟩; clear t2)
    | (go_at_call 12; refine (fold_as kA kF _ (sz (by decide)) q5).mono ?_; rintro e w5 ⟨rfl, b5⟩)
    | (go_at_call 13; refine (same_as kB kC true _ (sz (by decide)) (sz (by decide)) q6).mono ?_; rintro e w6 ⟨rfl, b6⟩)
    | (go_at_call 7; have _t := t3; refine (above_as kB kA true _ (sz (by decide)) (sz (by decide)) q7).mono ?_; rintro e w7 ⟨rfl, b7⟩; clear t3)
    | (go_at_call 7; have _t := t4; refine (above_as kA kB false _ (sz (by decide)) (sz (by decide)) q8).mono ?_; rintro e w8 ⟨rfl, b8⟩; clear t4)
    | (go_at_call 8; refine (num_any _ _).mono ?_; rintro e w' ⟨rfl, hw⟩; obtain rfl := hw.symm)
    | (go_at_call 6; have _t := t5; refine (compare_as kA kB 1 _ (sz (by decide)) (sz (by decide)) q9).mono ?_; rintro e w9 ⟨rfl, b9⟩; clear t5)
    | (go_at_call 6; have _t := t6; refine (compare_as kB kB 0 _ (sz (by decide)) (sz (by decide)) q10).mono ?_; rintro e w10 ⟨rfl, b10⟩; clear t6))
  go_ret
  exact ⟨rfl, next (next (next (next (next (next (next (next (next b1 b2) b3) b4) b5) b6) b7) b8) b9) b10⟩

end Go.Proofs.Ytfojghfdmlaedaa
