/- What the document's Size and Next give: the same. -/
import Derived.Test.YtnjlfbcfnmdkkaaQmC
import Derived.Test.YtnjlfbcfnmdkkaaWalkS
namespace Go.Proofs.Ytnjlfbcfnmdkkaa
open Go.RowKit
open Pl
namespace Qm

set_option maxRecDepth 20000 in
set_option maxHeartbeats 4000000 in
theorem refSize_any (s l c o : Int) (w : World) :
    Calls Try.prog 10 #[.int .i64 s, .int .i64 l, .int .i64 c, .int .i64 o] w fun e w' => e = .returned (sizeV s l c o) ∧ w' = w := by
  cases hm : mayS s l c o with
  | false =>
    rw [sizeV_no hm]
    have hno : s < 0 ∨ l < 1 ∨ c < 0 ∨ o < 0 ∨ 1000 < s ∨ 1000 < l ∨ 1000 < c ∨ 1000 < o := by
      by_cases h : s < 0 ∨ l < 1 ∨ c < 0 ∨ o < 0 ∨ 1000 < s ∨ 1000 < l ∨ 1000 < c ∨ 1000 < o
      · exact h
      · have := mayS_iff.2 (show (0 ≤ s ∧ s ≤ 1000) ∧ (1 ≤ l ∧ l ≤ 1000) ∧ (0 ≤ c ∧ c ≤ 1000) ∧ (0 ≤ o ∧ o ≤ 1000) by omega)
        rw [hm] at this; exact absurd this (by decide)
    have HNO : Hid (s < 0 ∨ l < 1 ∨ c < 0 ∨ o < 0 ∨ 1000 < s ∨ 1000 < l ∨ 1000 < c ∨ 1000 < o) := hno
    clear hm hno
    have hone : ∀ {p : Bool} {q : Prop}, q → q := fun h => h
    clear hone
    obtain ⟨b1, e1⟩ : ∃ b, decide (s < 0) = b := ⟨_, rfl⟩
    obtain ⟨b2, e2⟩ : ∃ b, decide (l < 1) = b := ⟨_, rfl⟩
    obtain ⟨b3, e3⟩ : ∃ b, decide (c < 0) = b := ⟨_, rfl⟩
    obtain ⟨b4, e4⟩ : ∃ b, decide (o < 0) = b := ⟨_, rfl⟩
    obtain ⟨b5, e5⟩ : ∃ b, decide (1000 < s) = b := ⟨_, rfl⟩
    obtain ⟨b6, e6⟩ : ∃ b, decide (1000 < l) = b := ⟨_, rfl⟩
    obtain ⟨b7, e7⟩ : ∃ b, decide (1000 < c) = b := ⟨_, rfl⟩
    obtain ⟨b8, e8⟩ : ∃ b, decide (1000 < o) = b := ⟨_, rfl⟩
    have HB : Hid (b1 = true ∨ b2 = true ∨ b3 = true ∨ b4 = true ∨ b5 = true ∨ b6 = true ∨ b7 = true ∨ b8 = true) := by
      unfold Hid
      rw [← e1, ← e2, ← e3, ← e4, ← e5, ← e6, ← e7, ← e8]
      simpa using HNO.out
    cases b1 with
    | true =>
      go_enter Try.func10, Try.ntmps10
      go_wp2
      go_ret2
      exact ⟨rfl, rfl⟩
    | false =>
    cases b2 with
    | true =>
      go_enter Try.func10, Try.ntmps10
      go_wp2
      go_ret2
      exact ⟨rfl, rfl⟩
    | false =>
    cases b3 with
    | true =>
      go_enter Try.func10, Try.ntmps10
      go_wp2
      go_ret2
      exact ⟨rfl, rfl⟩
    | false =>
    cases b4 with
    | true =>
      go_enter Try.func10, Try.ntmps10
      go_wp2
      go_ret2
      exact ⟨rfl, rfl⟩
    | false =>
    cases b5 with
    | true =>
      go_enter Try.func10, Try.ntmps10
      go_wp2
      go_ret2
      exact ⟨rfl, rfl⟩
    | false =>
    cases b6 with
    | true =>
      go_enter Try.func10, Try.ntmps10
      go_wp2
      go_ret2
      exact ⟨rfl, rfl⟩
    | false =>
    cases b7 with
    | true =>
      go_enter Try.func10, Try.ntmps10
      go_wp2
      go_ret2
      exact ⟨rfl, rfl⟩
    | false =>
    cases b8 with
    | true =>
      go_enter Try.func10, Try.ntmps10
      go_wp2
      go_ret2
      exact ⟨rfl, rfl⟩
    | false =>
      have := HB.out
      simp at this
  | true =>
    rw [sizeV_yes hm]
    obtain ⟨⟨h1, h2⟩, ⟨h3, h4⟩, ⟨h5, h6⟩, h7, h8⟩ := mayS_iff.1 hm
    have e1 : decide (s < 0) = false := by simp; omega
    have e2 : decide (l < 1) = false := by simp; omega
    have e3 : decide (c < 0) = false := by simp; omega
    have e4 : decide (o < 0) = false := by simp; omega
    have e5 : decide (1000 < s) = false := by simp; omega
    have e6 : decide (1000 < l) = false := by simp; omega
    have e7 : decide (1000 < c) = false := by simp; omega
    have e8 : decide (1000 < o) = false := by simp; omega
    clear hm
    by_cases hso : s < o
    · have HR : Hid (szI s l c o = 1) := by unfold Hid szI; rw [if_pos (.inl hso)]
      go_enter Try.func10, Try.ntmps10
      go_wp2
      go_ret2
      exact ⟨by rw [HR.out]; rfl, rfl⟩
    · have hso' : decide (s < o) = false := by simpa using hso
      by_cases hlc : l ≤ c - s
      · have HR : Hid (szI s l c o = 1) := by unfold Hid szI; rw [if_pos (.inr hlc)]
        clear hso
        go_enter Try.func10, Try.ntmps10
        go_wp2
        go_ret2
        exact ⟨by rw [HR.out]; rfl, rfl⟩
      · have hlc' : decide (l ≤ c - s) = false := by simpa using hlc
        by_cases hcs : c ≤ s
        · have HR : Hid (szI s l c o = l) := by unfold Hid szI; rw [if_neg (by omega), if_pos (by omega)]
          clear hso hlc
          go_enter Try.func10, Try.ntmps10
          go_wp2
          go_ret2
          exact ⟨by rw [HR.out]; rfl, rfl⟩
        · have HR : Hid (szI s l c o = (l + c - s - 1) / (c - s)) := by
            unfold Hid szI; rw [if_neg (by omega), if_neg (by omega)]
            congr 1
            omega
          have hcs' : decide (c ≤ s) = false := by simpa using hcs
          have hd : 0 < c - s := by omega
          clear hso hlc hcs
          go_enter Try.func10, Try.ntmps10
          go_wp2
          go_ret2
          exact ⟨by rw [HR.out]; rfl, rfl⟩
theorem refSize_as (s l c o : Int) (v : Value) (w : World) (h : sizeV s l c o = v) :
    Calls Try.prog 10 #[.int .i64 s, .int .i64 l, .int .i64 c, .int .i64 o] w fun e w' => e = .returned v ∧ w' = w := by rw [← h]; exact refSize_any s l c o w

end Qm
end Go.Proofs.Ytnjlfbcfnmdkkaa
