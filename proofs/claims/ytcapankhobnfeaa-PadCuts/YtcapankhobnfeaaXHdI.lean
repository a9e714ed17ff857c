/- What the document's PutHead gives, for every argument. -/
import Derived.Test.YtcapankhobnfeaaXP4
namespace Go.Proofs.Ytcapankhobnfeaa
open Go.RowKit

theorem bit_any (b : Bool) (n p : Int) (w : World) (h : (n = 15 ∧ p = 32768) ∨ (n = 10 ∧ p = 1024) ∨ (n = 9 ∧ p = 512) ∨ (n = 8 ∧ p = 256) ∨ (n = 7 ∧ p = 128)) :
    Calls Try.prog 65 #[.bool b, .int .i64 n] w fun e w' => e = .returned (.int .i64 (p * bI b)) ∧ w' = w := by
  cases b with
  | true =>
    rw [show p * bI true = p from by show p * 1 = p; omega]
    rcases h with ⟨rfl, rfl⟩ | ⟨rfl, rfl⟩ | ⟨rfl, rfl⟩ | ⟨rfl, rfl⟩ | ⟨rfl, rfl⟩
    all_goals
      go_enter Try.func65, Try.ntmps65
      go_wp2
      go_ret
      exact ⟨rfl, rfl⟩
  | false =>
    rw [show p * bI false = 0 from by show p * 0 = 0; omega]
    clear h
    go_enter Try.func65, Try.ntmps65
    go_wp2
    go_ret
    exact ⟨rfl, rfl⟩

/-- The three small numbers and Id, in the document's order. -/
theorem small_no {id op z rc a b c d : Int} (h : mayH id op z rc a b c d = false) :
    (id < 0) ∨ (0 ≤ id ∧ 65535 < id) ∨ (0 ≤ id ∧ id ≤ 65535 ∧ op < 0) ∨ (0 ≤ id ∧ id ≤ 65535 ∧ 0 ≤ op ∧ 15 < op) ∨ (0 ≤ id ∧ id ≤ 65535 ∧ 0 ≤ op ∧ op ≤ 15 ∧ rc < 0) ∨ (0 ≤ id ∧ id ≤ 65535 ∧ 0 ≤ op ∧ op ≤ 15 ∧ 0 ≤ rc ∧ 15 < rc) ∨ (0 ≤ id ∧ id ≤ 65535 ∧ 0 ≤ op ∧ op ≤ 15 ∧ 0 ≤ rc ∧ rc ≤ 15 ∧ z < 0) ∨ (0 ≤ id ∧ id ≤ 65535 ∧ 0 ≤ op ∧ op ≤ 15 ∧ 0 ≤ rc ∧ rc ≤ 15 ∧ 0 ≤ z ∧ 7 < z) ∨
    ((0 ≤ id ∧ id ≤ 65535 ∧ 0 ≤ op ∧ op ≤ 15 ∧ 0 ≤ rc ∧ rc ≤ 15 ∧ 0 ≤ z ∧ z ≤ 7) ∧ ∃ k, k < 4 ∧ fitI 65536 ([a, b, c, d].getD k 0) = false) := by
  by_cases h0 : id < 0
  · exact .inl h0
  have n0 : 0 ≤ id := by omega
  by_cases h1 : 65535 < id
  · exact .inr (.inl ⟨n0, h1⟩)
  have n1 : id ≤ 65535 := by omega
  by_cases h2 : op < 0
  · exact .inr (.inr (.inl ⟨n0, n1, h2⟩))
  have n2 : 0 ≤ op := by omega
  by_cases h3 : 15 < op
  · exact .inr (.inr (.inr (.inl ⟨n0, n1, n2, h3⟩)))
  have n3 : op ≤ 15 := by omega
  by_cases h4 : rc < 0
  · exact .inr (.inr (.inr (.inr (.inl ⟨n0, n1, n2, n3, h4⟩))))
  have n4 : 0 ≤ rc := by omega
  by_cases h5 : 15 < rc
  · exact .inr (.inr (.inr (.inr (.inr (.inl ⟨n0, n1, n2, n3, n4, h5⟩)))))
  have n5 : rc ≤ 15 := by omega
  by_cases h6 : z < 0
  · exact .inr (.inr (.inr (.inr (.inr (.inr (.inl ⟨n0, n1, n2, n3, n4, n5, h6⟩))))))
  have n6 : 0 ≤ z := by omega
  by_cases h7 : 7 < z
  · exact .inr (.inr (.inr (.inr (.inr (.inr (.inr (.inl ⟨n0, n1, n2, n3, n4, n5, n6, h7⟩)))))))
  have n7 : z ≤ 7 := by omega
  refine .inr (.inr (.inr (.inr (.inr (.inr (.inr (.inr ⟨⟨n0, n1, n2, n3, n4, n5, n6, n7⟩, ?_⟩)))))))
  have f1 : fitI 65536 id = true := fit_iff.2 ⟨n0, by omega⟩
  have f2 : fitI 16 op = true := fit_iff.2 ⟨n2, by omega⟩
  have f3 : fitI 8 z = true := fit_iff.2 ⟨n6, by omega⟩
  have f4 : fitI 16 rc = true := fit_iff.2 ⟨n4, by omega⟩
  unfold mayH at h
  rw [f1, f2, f3, f4] at h
  cases g0 : fitI 65536 a with
  | false => exact ⟨0, by decide, g0⟩
  | true =>
    cases g1 : fitI 65536 b with
    | false => exact ⟨1, by decide, g1⟩
    | true =>
      cases g2 : fitI 65536 c with
      | false => exact ⟨2, by decide, g2⟩
      | true =>
        cases g3 : fitI 65536 d with
        | false => exact ⟨3, by decide, g3⟩
        | true => rw [g0, g1, g2, g3] at h; simp at h

set_option maxRecDepth 20000 in
set_option maxHeartbeats 8000000 in
theorem refPut_small (id : Int) (qr : Bool) (op : Int) (aa tc rd ra : Bool) (z rc a b c d : Int) (w : World)
    (h : (id < 0) ∨ (0 ≤ id ∧ 65535 < id) ∨ (0 ≤ id ∧ id ≤ 65535 ∧ op < 0) ∨ (0 ≤ id ∧ id ≤ 65535 ∧ 0 ≤ op ∧ 15 < op) ∨ (0 ≤ id ∧ id ≤ 65535 ∧ 0 ≤ op ∧ op ≤ 15 ∧ rc < 0) ∨ (0 ≤ id ∧ id ≤ 65535 ∧ 0 ≤ op ∧ op ≤ 15 ∧ 0 ≤ rc ∧ 15 < rc) ∨ (0 ≤ id ∧ id ≤ 65535 ∧ 0 ≤ op ∧ op ≤ 15 ∧ 0 ≤ rc ∧ rc ≤ 15 ∧ z < 0) ∨ (0 ≤ id ∧ id ≤ 65535 ∧ 0 ≤ op ∧ op ≤ 15 ∧ 0 ≤ rc ∧ rc ≤ 15 ∧ 0 ≤ z ∧ 7 < z)) :
    Calls Try.prog 50 #[.agg (headV id qr op aa tc rd ra z rc), .agg (cntV a b c d)] w fun e w' => e = .returned (.tuple #[.string ⟨#[]⟩, .int .i64 600]) ∧ Below w.heap.size w w' := by
  have hb := lay (lay (Below.refl w.heap.size w) (.cells #[.int .i64 id, .bool qr, .int .i64 op, .bool aa, .bool tc, .bool rd, .bool ra, .int .i64 z, .int .i64 rc] 25)) (.cells #[.int .i64 a, .int .i64 b, .int .i64 c, .int .i64 d] 81)
  unfold headV cntV
  rcases h with h1 | ⟨h1, h2⟩ | ⟨h1, h2, h3⟩ | ⟨h1, h2, h3, h4⟩ | ⟨h1, h2, h3, h4, h5⟩ | ⟨h1, h2, h3, h4, h5, h6⟩ | ⟨h1, h2, h3, h4, h5, h6, h7⟩ | ⟨h1, h2, h3, h4, h5, h6, h7, h8⟩
  all_goals
    go_enter Try.func50, Try.ntmps50
    go_wp2
    go_ret2
    exact ⟨rfl, hb⟩

end Go.Proofs.Ytcapankhobnfeaa
