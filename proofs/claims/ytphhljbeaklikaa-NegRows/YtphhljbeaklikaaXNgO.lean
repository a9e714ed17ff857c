/- What a Negs of few entries tells, plainly. -/
import Derived.Test.YtphhljbeaklikaaXP9
namespace Go.Proofs.Ytphhljbeaklikaa
open Go.RowKit
open Pl
namespace Ng

theorem may_yes {e : En} {now : Int} (h1 : isName e.n.data.toList = true) (h2 : 0 ≤ e.t) (h3 : e.t ≤ 65535) (h4 : now < e.u) (h5 : 0 ≤ now) (h6 : now ≤ 1099511627776) : mayN e now = true := by
  unfold mayN
  simp only [Bool.and_eq_true, decide_eq_true_eq]
  exact ⟨⟨⟨⟨⟨h1, h2⟩, h3⟩, h4⟩, h5⟩, h6⟩
theorem err_yes {e : En} {now : Int} (h : mayN e now = true) : errN e now = 0 := by unfold errN; rw [h]; rfl
theorem put_yes {most : Nat} {F : List En} {e : En} {now : Int} (h : mayN e now = true) : putN most F e now = cutP most (leftP F (fdB e.n) e.t now) ++ [heldE e] := by unfold putN; rw [h]; rfl
theorem held_nE (n : ByteArray) (t u : Int) : heldE (nE n t u) = nE (fdB n) t u := rfl
theorem max_name {n : ByteArray} (h : isName n.data.toList = true) : n.size ≤ maxLen := by
  have := (name_some h).1
  have := data_len n
  unfold maxLen
  omega
theorem fd_same {a b : ByteArray} (ha : isName a.data.toList = true) (hb : isName b.data.toList = true) : decide (fdB a = fdB b) = sameB a.data.toList b.data.toList := by
  have e1 : foldR a.data.toList = foldL a.data.toList := by unfold foldR; rw [if_pos ha]
  have e2 : foldR b.data.toList = foldL b.data.toList := by unfold foldR; rw [if_pos hb]
  unfold sameB
  rw [ha, hb]
  simp only [Bool.true_and]
  refine decide_eq_decide.2 ⟨fun h => ?_, fun h => bytes_ext ?_⟩
  · rw [← e1, ← e2, ← fdB_list, ← fdB_list, h]
  · rw [fdB_list, fdB_list, e1, e2, h]
theorem has_nil (n : ByteArray) (t now : Int) : hasN [] n t now = false := rfl
theorem has_app (F G : List En) (n : ByteArray) (t now : Int) : hasN (F ++ G) n t now = (hasN F n t now || hasN G n t now) := by unfold hasN; rw [List.any_append]
theorem has_one (m : ByteArray) (s u : Int) (n : ByteArray) (t now : Int) : hasN [nE m s u] n t now = (decide (m = fdB n) && decide (s = t) && decide (now < u)) := by
  unfold hasN sameK nE
  simp

end Ng
end Go.Proofs.Ytphhljbeaklikaa
