/- What the document's Same gives, where the seat has no more of rel. -/
import Derived.Test.YtbldoplemfjcjaaFoB
import Derived.Test.YtbldoplemfjcjaaRdJ
namespace Go.Proofs.Ytbldoplemfjcjaa
open Go.RowKit
open Pl

theorem refFold_as (s t : ByteArray) (w : World) (hs : s.size ≤ maxLen) (h : foldR s.data.toList = t.data.toList) :
    Calls Try.prog 39 #[.string s] w fun e w' => e = .returned (.string t) ∧ Below w.heap.size w w' := by
  have := refFold_any s w hs
  rw [h] at this
  exact this
theorem list_test (a b : ByteArray) : (a.toList == b.toList) = decide (a.data.toList = b.data.toList) := by
  rw [ByteArray.toList_eq, ByteArray.toList_eq, Bool.eq_iff_iff]; simp

set_option maxRecDepth 20000 in
set_option maxHeartbeats 1000000 in
theorem refSame_any (a b : ByteArray) (w : World) (ha : a.size ≤ maxLen) (hb : b.size ≤ maxLen) :
    Calls Try.prog 31 #[.string a, .string b] w fun e w' => e = .returned (.bool (sameB a.data.toList b.data.toList)) ∧ Below w.heap.size w w' := by
  have hbel : Below w.heap.size w w := Below.refl _ _
  cases h1 : isName a.data.toList with
  | false =>
    have HR : Hid (false = sameB a.data.toList b.data.toList) := by unfold Hid sameB; rw [h1]; rfl
    go_enter Try.func31, Try.ntmps31
    go_wp2_with (go_at_call 29; refine (refMay_as a false _ ha h1).mono ?_; rintro e w1 ⟨rfl, b1⟩; replace hbel := next hbel b1; clear b1)
    go_ret
    exact ⟨ret_bool HR.out, hbel⟩
  | true =>
    cases h2 : isName b.data.toList with
    | false =>
      have HR : Hid (false = sameB a.data.toList b.data.toList) := by unfold Hid sameB; rw [h1, h2]; rfl
      have t1 : True := trivial
      have t2 : True := trivial
      go_enter Try.func31, Try.ntmps31
      go_wp2_with (first
        | (go_at_call 29; have _t := t1; refine (refMay_as a true _ ha h1).mono ?_; rintro e w1 ⟨rfl, b1⟩; replace hbel := next hbel b1; clear b1 t1)
        | (go_at_call 29; have _t := t2; refine (refMay_as b false _ hb h2).mono ?_; rintro e w1 ⟨rfl, b1⟩; replace hbel := next hbel b1; clear b1 t2))
      go_ret
      exact ⟨ret_bool HR.out, hbel⟩
    | true =>
      obtain ⟨F, hF⟩ : ∃ F : ByteArray, foldR a.data.toList = F.data.toList := ⟨⟨(foldR a.data.toList).toArray⟩, by simp⟩
      obtain ⟨G, hG⟩ : ∃ G : ByteArray, foldR b.data.toList = G.data.toList := ⟨⟨(foldR b.data.toList).toArray⟩, by simp⟩
      have HF : Hid (foldR a.data.toList = F.data.toList) := hF
      have HG : Hid (foldR b.data.toList = G.data.toList) := hG
      have HR : Hid ((F.toList == G.toList) = sameB a.data.toList b.data.toList) := by
        unfold Hid sameB
        rw [list_test, ← hF, ← hG, h1, h2, foldR_yes h1, foldR_yes h2]
        simp
      clear hF hG
      have t1 : True := trivial
      have t2 : True := trivial
      have t3 : True := trivial
      have t4 : True := trivial
      go_enter Try.func31, Try.ntmps31
      go_wp2_with (first
        | (go_at_call 29; have _t := t1; refine (refMay_as a true _ ha h1).mono ?_; rintro e w1 ⟨rfl, b1⟩; replace hbel := next hbel b1; clear b1 t1)
        | (go_at_call 29; have _t := t2; refine (refMay_as b true _ hb h2).mono ?_; rintro e w1 ⟨rfl, b1⟩; replace hbel := next hbel b1; clear b1 t2)
        | (go_at_call 39; have _t := t3; refine (refFold_as a F _ ha HF.out).mono ?_; rintro e w1 ⟨rfl, b1⟩; replace hbel := next hbel b1; clear b1 t3)
        | (go_at_call 39; have _t := t4; refine (refFold_as b G _ hb HG.out).mono ?_; rintro e w1 ⟨rfl, b1⟩; replace hbel := next hbel b1; clear b1 t4))
      go_ret
      exact ⟨ret_bool HR.out, hbel⟩
theorem refSame_as (a b : ByteArray) (v : Bool) (w : World) (ha : a.size ≤ maxLen) (hb : b.size ≤ maxLen) (h : sameB a.data.toList b.data.toList = v) :
    Calls Try.prog 31 #[.string a, .string b] w fun e w' => e = .returned (.bool v) ∧ Below w.heap.size w w' := by rw [← h]; exact refSame_any a b w ha hb


end Go.Proofs.Ytbldoplemfjcjaa
