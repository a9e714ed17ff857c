/- What awake gives: true. -/
import Derived.Test.YtkfpboippchdbaaWalkE
namespace Go.Proofs.Ytkfpboippchdbaa
open Go.RowKit
open Pl

theorem parse_some (l n : List UInt8) (w : World) (hl : l.length ≤ 100000) (h : prs l = some n) :
    Calls Try.prog 11 #[.string ⟨l.toArray⟩] w fun e w' => e = .returned (.tuple #[.string ⟨n.toArray⟩, .int .i64 0]) ∧ Below w.heap.size w w' := by
  have := parse_any ⟨l.toArray⟩ w (by unfold maxLen ByteArray.size; simp; omega)
  simp only [h] at this
  exact this
theorem parse_none (l : List UInt8) (w : World) (hl : l.length ≤ 100000) (h : prs l = none) :
    Calls Try.prog 11 #[.string ⟨l.toArray⟩] w fun e w' => e = .returned (.tuple #[.string ⟨#[]⟩, .int .i64 100]) ∧ Below w.heap.size w w' := by
  have := parse_any ⟨l.toArray⟩ w (by unfold maxLen ByteArray.size; simp; omega)
  simp only [h] at this
  exact this
theorem text_some (l t : List UInt8) (w : World) (hl : l.length ≤ 100000) (h : isName l = true) (ht : tx l = t) :
    Calls Try.prog 9 #[.string ⟨l.toArray⟩] w fun e w' => e = .returned (.tuple #[.string ⟨t.toArray⟩, .int .i64 0]) ∧ Below w.heap.size w w' := by
  have := text_any ⟨l.toArray⟩ w (by unfold maxLen ByteArray.size; simp; omega)
  simp only [txV, h, if_pos, ht] at this
  exact this
theorem text_none (l : List UInt8) (w : World) (hl : l.length ≤ 100000) (h : isName l = false) :
    Calls Try.prog 9 #[.string ⟨l.toArray⟩] w fun e w' => e = .returned (.tuple #[.string ⟨#[]⟩, .int .i64 100]) ∧ Below w.heap.size w w' := by
  have := text_any ⟨l.toArray⟩ w (by unfold maxLen ByteArray.size; simp; omega)
  simp only [txV, h] at this
  exact this
theorem may_is (l : List UInt8) (b : Bool) (w : World) (hl : l.length ≤ 100000) (h : isName l = b) :
    Calls Try.prog 14 #[.string ⟨l.toArray⟩] w fun e w' => e = .returned (.bool b) ∧ w' = w := by
  have := may_any ⟨l.toArray⟩ w (by unfold maxLen ByteArray.size; simp; omega)
  simp only [h] at this
  exact this
theorem count_is (l : List UInt8) (n : Nat) (w : World) (hl : l.length ≤ 100000) (h : cnt l = n) :
    Calls Try.prog 16 #[.string ⟨l.toArray⟩] w fun e w' => e = .returned (.int .i64 n) ∧ w' = w := by
  have := count_any ⟨l.toArray⟩ w (by unfold maxLen ByteArray.size; simp; omega)
  simp only [h] at this
  exact this

theorem c1 : prs [119, 119, 119, 46, 69, 120, 97, 109, 112, 108, 101, 46] = some [3, 119, 119, 119, 7, 69, 120, 97, 109, 112, 108, 101, 0] := by decide +kernel
theorem c2 : isName [2, 97, 46, 1, 0, 0] = true := by decide +kernel
theorem c3 : tx [2, 97, 46, 1, 0, 0] = [97, 92, 48, 52, 54, 46, 92, 48, 48, 48, 46] := by decide +kernel
theorem c4 : prs [46] = some [0] := by decide +kernel
theorem c5 : prs [119, 119, 119] = none := by decide +kernel
theorem c6 : isName [1] = false := by decide +kernel
theorem c7 : isName [3, 119, 119, 119, 7, 69, 120, 97, 109, 112, 108, 101, 0] = true := by decide +kernel
theorem c8 : cnt [3, 119, 119, 119, 7, 69, 120, 97, 109, 112, 108, 101, 0] = 2 := by decide +kernel
theorem c9 : isName [] = false := by decide +kernel

theorem next {w b c : World} (h : Below w.heap.size w b) (k : Below b.heap.size b c) : Below w.heap.size w c := h.trans (k.mono h.size)

set_option maxRecDepth 20000 in
set_option maxHeartbeats 1000000 in
theorem awake_any (w : World) : Calls Try.prog 18 #[] w fun e w' => e = .returned (.bool true) ∧ Below w.heap.size w w' := by
  have t1 : True := trivial
  have t2 : True := trivial
  have t3 : True := trivial
  have t4 : True := trivial
  have t5 : True := trivial
  have t6 : True := trivial
  have t7 : True := trivial
  go_enter Try.func18, Try.ntmps18
  go_wp2_with (first
    | (go_at_call 11; have _t := t1; refine (parse_some _ _ _ (by decide) c1).mono ?_; rintro e w1 ⟨rfl, hb1⟩; clear t1)
    | (go_at_call 11; have _t := t2; refine (parse_some _ _ _ (by decide) c4).mono ?_; rintro e w3 ⟨rfl, hb3⟩; clear t2)
    | (go_at_call 11; have _t := t3; refine (parse_none _ _ (by decide) c5).mono ?_; rintro e w4 ⟨rfl, hb4⟩; clear t3)
    | (go_at_call 9; have _t := t4; refine (text_some _ _ _ (by decide) c2 c3).mono ?_; rintro e w2 ⟨rfl, hb2⟩; clear t4)
    | (go_at_call 9; have _t := t5; refine (text_none _ _ (by decide) c6).mono ?_; rintro e w5 ⟨rfl, hb5⟩; clear t5)
    | (go_at_call 13; refine (num_any _ _).mono ?_; rintro e w' ⟨rfl, hw⟩; obtain rfl := hw.symm)
    | (go_at_call 14; have _t := t6; refine (may_is _ true _ (by decide) c7).mono ?_; rintro e w' ⟨rfl, hw⟩; obtain rfl := hw.symm; clear t6)
    | (go_at_call 16; refine (count_is _ 2 _ (by decide) c8).mono ?_; rintro e w' ⟨rfl, hw⟩; obtain rfl := hw.symm)
    | (go_at_call 14; have _t := t7; refine (may_is _ false _ (by decide) c9).mono ?_; rintro e w' ⟨rfl, hw⟩; obtain rfl := hw.symm; clear t7))
  go_ret
  exact ⟨rfl, next (next (next (next hb1 hb2) hb3) hb4) hb5⟩

end Go.Proofs.Ytkfpboippchdbaa
