/- What the document's PutOpt gives. -/
import Derived.Test.YtcapankhobnfeaaXP8
namespace Go.Proofs.Ytcapankhobnfeaa
open Go.RowKit

theorem shortO_as (x : Int) (b : Bool) (w : World) (h : fitO 65536 x = b) : Calls Try.prog 27 #[.int .i64 x] w fun e w' => e = .returned (.bool b) ∧ w' = w := by
  subst h
  by_cases h0 : 0 ≤ x
  · by_cases h1 : x ≤ 65535
    · rw [fitO_iff.2 ⟨h0, by omega⟩]
      go_enter Try.func27, Try.ntmps27
      go_wp2
      go_ret
      exact ⟨rfl, rfl⟩
    · rw [show fitO 65536 x = false from by unfold fitO; simp; omega]
      have h2 : decide (x ≤ 65535) = false := by simpa using h1
      clear h1
      go_enter Try.func27, Try.ntmps27
      go_wp2
      go_ret
      exact ⟨rfl, rfl⟩
  · rw [show fitO 65536 x = false from by unfold fitO; simp; omega]
    have h2 : decide (0 ≤ x) = false := by simpa using h0
    clear h0
    go_enter Try.func27, Try.ntmps27
    go_wp2
    go_ret
    exact ⟨rfl, rfl⟩
theorem bit15 (b : Bool) (w : World) : Calls Try.prog 65 #[.bool b, .int .i64 15] w fun e w' => e = .returned (.int .i64 (if b then 32768 else 0)) ∧ w' = w := by
  cases b with
  | true =>
    go_enter Try.func65, Try.ntmps65
    go_wp2
    go_ret
    exact ⟨rfl, rfl⟩
  | false =>
    go_enter Try.func65, Try.ntmps65
    go_wp2
    go_ret
    exact ⟨rfl, rfl⟩

theorem fitO_not {p x : Int} (h : fitO p x = false) : x < 0 ∨ (¬ x < 0 ∧ p ≤ x) := by
  unfold fitO at h
  simp at h
  omega
/-- Which field does not fit first. -/
theorem flds_no {o : Ot} (h : mayFl o = false) : fitO 65536 o.s = false ∨ (fitO 65536 o.s = true ∧ (o.e < 0 ∨ (decide (o.e < 0) = false ∧ (255 < o.e ∨ (decide (255 < o.e) = false ∧ (o.v < 0 ∨ (decide (o.v < 0) = false ∧ (255 < o.v ∨ (decide (255 < o.v) = false ∧ (o.z < 0 ∨ (decide (o.z < 0) = false ∧ 32767 < o.z))))))))))) := by
  unfold mayFl at h
  cases h1 : fitO 65536 o.s with
  | false => exact .inl rfl
  | true =>
    refine .inr ⟨rfl, ?_⟩
    rw [h1] at h
    simp only [decide_eq_false_iff_not]
    cases h2 : fitO 256 o.e with
    | false => rcases fitO_not h2 with h3 | h3 <;> omega
    | true =>
      have := fitO_iff.1 h2
      rw [h2] at h
      simp only [Bool.true_and] at h
      cases h3 : fitO 256 o.v with
      | false => rcases fitO_not h3 with h4 | h4 <;> omega
      | true =>
        have := fitO_iff.1 h3
        rw [h3] at h
        simp only [Bool.true_and] at h
        rcases fitO_not h with h4 | h4 <;> omega

set_option maxRecDepth 20000 in
set_option maxHeartbeats 2000000 in
theorem refPut_flds (s e vv : Int) (b : Bool) (z : Int) (os : List On) (v : Value) (w : World) (h : mayFl ⟨s, e, vv, b, z, os⟩ = false) :
    Calls Try.prog 37 #[.agg (optC ⟨s, e, vv, b, z, os⟩ v)] w fun e w' => e = .returned (.tuple #[.agg (rrC rcZ), .int .i64 800]) ∧ Below w.heap.size w w' := by
  obtain ⟨KA, KB, hb⟩ := put_blks w ⟨s, e, vv, b, z, os⟩ v
  obtain ⟨q0, q1, q2, q3, q4⟩ := KB.five
  have hn := flds_no h
  clear h KA KB
  simp only at hn
  unfold optC rrC rcZ at *
  simp only at *
  rcases hn with h1 | ⟨h1, h2 | ⟨h2, h3 | ⟨h3, h4 | ⟨h4, h5 | ⟨h5, h6 | ⟨h6, h7⟩⟩⟩⟩⟩⟩
  all_goals
    have K1 := fun u => shortO_as s _ u h1
    clear h1
    go_enter Try.func37, Try.ntmps37
    go_wp2_with (go_at_call 27; go_must (refine (K1 _).mono ?_); rintro e w' ⟨rfl, hw⟩; obtain rfl := hw.symm)
    refine bodyPost_ret (v := .tuple #[.agg #[.string ⟨#[]⟩, .int .i64 0, .int .i64 0, .int .i64 0, .string ⟨#[]⟩], .int .i64 800]) (by simp [results, Try.results37, go_sem, q0, q1, q2, q3, q4]) rfl ⟨rfl, hb⟩

end Go.Proofs.Ytcapankhobnfeaa
