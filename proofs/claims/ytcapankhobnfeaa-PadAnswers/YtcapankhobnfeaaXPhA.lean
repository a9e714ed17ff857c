/- What an answer is read as, plainly; and SameMsg of a message and what is left of it. -/
import Derived.Test.YtcapankhobnfeaaXP14
import Derived.Test.YtcapankhobnfeaaXP11
import Derived.Test.YtcapankhobnfeaaXPeD
namespace Go.Proofs.Ytcapankhobnfeaa
open Go.RowKit
open Pl

theorem ans_none {m : Ms} {edns : Bool} {most : Int} (h : ansE m edns most ≠ 0) : ansT m edns most = ⟨#[]⟩ := by
  unfold ansE at h
  unfold ansT
  split at h
  · rename_i hr
    rw [if_pos hr]
    split at h
    · simp at h
    · rename_i a
      rw [if_neg a]
      split at h
      · simp at h
      · rename_i b
        rw [if_neg b]
        split at h
        · simp at h
        · rename_i c
          rw [if_neg c]
  · rename_i hr
    rw [if_neg hr]
theorem fit_yes {T : ByteArray} {E most : Int} (h : fitB T E most = true) : E = 0 ∧ (T.size : Int) ≤ most := by
  unfold fitB at h
  simpa using h
/-- What is read of the bytes of a message. -/
theorem p_read {m : Ms} (h : pE m = 0) : gM (pT m) = m ∧ gE (pT m) = 0 ∧ mayM m = true := by
  obtain ⟨a, _, b, c, _⟩ := p_yes h
  obtain ⟨x, y⟩ := g_some c b
  exact ⟨x, y, a⟩
/-- .. without an OPT. -/
theorem ans_plain {m : Ms} {most : Int} (h : ansE m false most = 0) : (ansT m false most).size ≤ 4096 ∧ ((ansT m false most).size : Int) ≤ most ∧ gE (ansT m false most) = 0 ∧ mayM m = true ∧ (gM (ansT m false most) = m ∨ gM (ansT m false most) = cutM m) := by
  unfold ansE at h
  unfold ansT
  split at h
  · rename_i hr
    have hm := (p_yes (ref_zero hr).1).1
    rw [if_pos hr]
    unfold f1T f1E f2T f2E f3T f3E at h ⊢
    simp only [Bool.false_eq_true, if_false] at h ⊢
    split at h
    · rename_i a
      rw [if_pos a]
      have := fit_yes a
      have r := p_read this.1
      exact ⟨p_size _, this.2, r.2.1, hm, .inl r.1⟩
    · rename_i a
      rw [if_neg a]
      split at h
      · rename_i b
        rw [if_pos b]
        have := fit_yes b
        have r := p_read this.1
        exact ⟨p_size _, this.2, r.2.1, hm, .inr r.1⟩
      · simp at h
  · rename_i hr
    exact absurd h hr
theorem fin_with (a : List Rc) (os : List On) (ho : mayOt (ot os) = true) : 1 ≤ finN (a ++ [putO (ot os)]) := by
  have e : (putO (ot os)).t = 41 := by unfold putO; rw [if_pos ho]
  unfold finN optL
  rw [List.filter_append, List.length_append]
  have : ([putO (ot os)].filter (fun r => r.t == 41)).length = 1 := by simp [e]
  omega
theorem fin_size (a : List Rc) : 0 ≤ (finO a).s := by
  unfold finO
  split
  · decide
  · rename_i r _ _
    unfold getO
    split
    · rename_i hm
      split
      · unfold splO
        simp only
        unfold mayRc at hm
        simp only [Bool.and_eq_true] at hm
        exact (fitO_iff.1 hm.1.1.2).1
      · decide
    · decide
/-- .. with an OPT. -/
theorem ans_opt {m : Ms} {most : Int} (h : ansE m true most = 0) : ∃ x : Ms, (ansT m true most).size ≤ 4096 ∧ ((ansT m true most).size : Int) ≤ most ∧ gE (ansT m true most) = 0 ∧ gM (ansT m true most) = x ∧ mayM x = true ∧ 1 ≤ finN x.ar ∧ ((ansT m true most).size % 468 = 0 ∨ (x.h.tc = true ∧ x.an = [] ∧ x.ns = [])) := by
  unfold ansE at h
  unfold ansT
  split at h
  · rename_i hr
    obtain ⟨hp, hn⟩ := ref_zero hr
    rw [if_pos hr]
    unfold f1T f1E f2T f2E f3T f3E at h ⊢
    simp only [if_true] at h ⊢
    have key : ∀ (z : Ms), pE z = 0 → z.ar.length < 64 → ∀ k, k = (roomI ((pT z).size + 11 : Int) 468).toNat → qE 468 z = 0 → gE (qT 468 z) = 0 ∧ gM (qT 468 z) = withO z (pdO k) ∧ mayM (withO z (pdO k)) = true ∧ 1 ≤ finN (withO z (pdO k)).ar ∧ (qT 468 z).size % 468 = 0 := by
      intro z hz hl k hk hq
      obtain ⟨g1, g2⟩ := pad_sum (b := 468) hz hl (by decide) hk
      have hll := len468 (pT z).size
      rw [← hk] at hll
      by_cases hc : (pT z).size + 15 + k ≤ 4096
      · obtain ⟨_, a2, a3, a4⟩ := g1 hc
        have r := p_read a4
        have hk2 : k ≤ 60000 := by omega
        refine ⟨by rw [a2]; exact r.2.1, by rw [a2]; exact r.1, r.2.2, fin_with _ _ (may_pd hk2), ?_⟩
        rw [a3, hll]
        omega
      · rw [(g2 hc).1] at hq
        simp at hq
    split at h
    · rename_i a
      rw [if_pos a]
      have f := fit_yes a
      obtain ⟨b1, b2, b3, b4, b5⟩ := key m hp (hn rfl) _ rfl f.1
      exact ⟨_, q_size _ _, f.2, b1, b2, b3, b4, .inl b5⟩
    · rename_i a
      rw [if_neg a]
      have hc0 := cut_zero hp
      split at h
      · rename_i b
        rw [if_pos b]
        have f := fit_yes b
        obtain ⟨b1, b2, b3, b4, b5⟩ := key (cutM m) hc0 (by simp [cutM]) _ rfl f.1
        exact ⟨_, q_size _ _, f.2, b1, b2, b3, b4, .inl b5⟩
      · rename_i b
        rw [if_neg b]
        split at h
        · rename_i c
          rw [if_pos c]
          have f := fit_yes c
          have r := p_read f.1
          exact ⟨_, p_size _, f.2, r.2.1, r.1, r.2.2, fin_with _ _ may_ot0, .inr ⟨rfl, rfl, rfl⟩⟩
        · simp at h
  · rename_i hr
    exact absurd h hr

/-- Rows of other lengths are not the same. -/
theorem sameR_no (x x' : Option Addr) (n n' c c' : Nat) (w : World) (h : n ≠ n') (hm : n ≤ maxLen) (hm' : n' ≤ maxLen) :
    Calls Try.prog 38 #[.slice x n c, .slice x' n' c'] w fun e w' => e = .returned (.bool false) ∧ Below w.heap.size w w' := by
  have hm := hm
  have hm' := hm'
  unfold maxLen at hm hm'
  have h' : ¬ (n : Int) = (n' : Int) := by omega
  clear h
  go_enter Try.func38, Try.ntmps38
  go_wp2
  go_ret
  exact ⟨rfl, Below.refl _ _⟩

end Go.Proofs.Ytcapankhobnfeaa
