/- What awake gives: true. -/
import Derived.Test.YtfhaogacblnnnaaEcB
import Derived.Test.YtfhaogacblnnnaaEcE
namespace Go.Proofs.Ytfhaogacblnnnaa
open Go.RowKit

def awL : List On := [⟨8, ⟨#[97]⟩⟩, ⟨12, ⟨#[]⟩⟩, ⟨8, ⟨#[]⟩⟩]
def awK : List On := [⟨12, ⟨#[]⟩⟩]
theorem aw_flt : flt awL = awK := rfl
theorem aw_d {x : On} (h : x ∈ awL) : x.d.size ≤ 140737488355328 := by
  simp [awL] at h
  rcases h with rfl | rfl | rfl <;> decide
theorem aw_strip (v : Value) (u : World) (h : Row u v 3 (oC awL)) : Calls Try.prog 7 #[.agg #[.int .i64 5, .int .i64 0, .int .i64 0, .bool false, .int .i64 0, v]] u fun e w' => ∃ g cap, e = .returned (.agg #[.int .i64 5, .int .i64 0, .int .i64 0, .bool false, .int .i64 0, .slice (some ⟨g, 0, none⟩) 1 cap]) ∧ w'.ownsRow u.heap.size 33 2 (.slice (some ⟨g, 0, none⟩) 1 cap) 1 (oC awK) ∧ Below u.heap.size u w' :=
  (strip_any ⟨5, 0, 0, false, 0, awL⟩ v u h (small100 (by decide)) (by decide) (fun x hx => aw_d hx)).mono fun e w' ⟨y, m, cap, he, ho, hb⟩ => by
    simp only [aw_flt] at ho
    have hm := own_len ho
    obtain ⟨g, cap', e1, _, _⟩ := World.ownsRow.form ho (by decide)
    simp only [Value.slice.injEq] at e1
    obtain ⟨rfl, rfl, rfl⟩ := e1
    exact ⟨g, cap, he, ho, hb⟩
theorem aw_has (v : Value) (u : World) (h : Row u v 3 (oC awL)) : Calls Try.prog 11 #[.agg #[.int .i64 5, .int .i64 0, .int .i64 0, .bool false, .int .i64 0, v]] u fun e w' => e = .returned (.bool true) ∧ Below u.heap.size u w' :=
  has_any ⟨5, 0, 0, false, 0, awL⟩ v u h (small100 (by decide))
theorem aw_hasn (v : Value) (u : World) (h : Row u v 1 (oC awK)) : Calls Try.prog 11 #[.agg #[.int .i64 5, .int .i64 0, .int .i64 0, .bool false, .int .i64 0, v]] u fun e w' => e = .returned (.bool false) ∧ Below u.heap.size u w' :=
  has_any ⟨5, 0, 0, false, 0, awK⟩ v u h (small100 (by decide))
/-- What awake begins with. -/
theorem aw_begin (w : World) : Row ((w.alloc (.cells #[.int .i64 8, .string ⟨#[97]⟩, .int .i64 12, .string ⟨#[]⟩, .int .i64 8, .string ⟨#[]⟩] 33)).alloc (.cells #[.int .i64 5, .int .i64 0, .int .i64 0, .bool false, .int .i64 0, .slice (some ⟨w.heap.size, 0, none⟩) 3 3] 24)) (.slice (some ⟨w.heap.size, 0, none⟩) 3 3) 3 (oC awL) ∧
    Blk ((w.alloc (.cells #[.int .i64 8, .string ⟨#[97]⟩, .int .i64 12, .string ⟨#[]⟩, .int .i64 8, .string ⟨#[]⟩] 33)).alloc (.cells #[.int .i64 5, .int .i64 0, .int .i64 0, .bool false, .int .i64 0, .slice (some ⟨w.heap.size, 0, none⟩) 3 3] 24)) (w.heap.size + 1) #[.int .i64 5, .int .i64 0, .int .i64 0, .bool false, .int .i64 0, .slice (some ⟨w.heap.size, 0, none⟩) 3 3] 24 := by
  refine ⟨Row.of_blk ((Blk.new w _ _).alloc _) rfl 3 3, ?_⟩
  have := Blk.new (w.alloc (.cells #[.int .i64 8, .string ⟨#[97]⟩, .int .i64 12, .string ⟨#[]⟩, .int .i64 8, .string ⟨#[]⟩] 33)) #[.int .i64 5, .int .i64 0, .int .i64 0, .bool false, .int .i64 0, .slice (some ⟨w.heap.size, 0, none⟩) 3 3] 24
  rw [World.size_alloc] at this
  exact this

set_option maxRecDepth 20000 in
set_option maxHeartbeats 1000000 in
theorem awake_any (w : World) : Calls Try.prog 13 #[] w fun e w' => e = .returned (.bool true) ∧ Below w.heap.size w w' := by
  have hb : Below w.heap.size w w := Below.refl _ _
  obtain ⟨q1, k1⟩ := aw_begin w
  have Q1 : Hid (Row _ (.slice (some ⟨w.heap.size, 0, none⟩) 3 3) 3 (oC awL)) := q1
  clear q1
  have t1 : True := trivial
  go_enter Try.func13, Try.ntmps13
  go_wp2_with (first
    | (go_at_call 7; go_must (refine (aw_strip _ _ Q1.out).mono ?_); rintro e w1 ⟨g, cap, rfl, o1, b1⟩; replace b1 := next b1 (lay (Below.refl _ _) (.cells #[.int .i64 5, .int .i64 0, .int .i64 0, .bool false, .int .i64 0, .slice (some ⟨g, 0, none⟩) 1 cap] 24)); have k2 := Blk.new w1 #[.int .i64 5, .int .i64 0, .int .i64 0, .bool false, .int .i64 0, .slice (some ⟨g, 0, none⟩) 1 cap] 24; have Q2 : Hid (Row (w1.alloc (.cells #[.int .i64 5, .int .i64 0, .int .i64 0, .bool false, .int .i64 0, .slice (some ⟨g, 0, none⟩) 1 cap] 24)) (.slice (some ⟨g, 0, none⟩) 1 cap) 1 (oC awK)) := Row.of_own (o1.alloc _); have Q3 : Hid ((w1.alloc (.cells #[.int .i64 5, .int .i64 0, .int .i64 0, .bool false, .int .i64 0, .slice (some ⟨g, 0, none⟩) 1 cap] 24)).cell? ⟨g, 0, none⟩ = some (.int .i64 12)) := (by have h0 := (o1.alloc (.cells #[.int .i64 5, .int .i64 0, .int .i64 0, .bool false, .int .i64 0, .slice (some ⟨g, 0, none⟩) 1 cap] 24)).cellAt 0 (by decide); exact h0); replace Q1 : Hid (Row (w1.alloc (.cells #[.int .i64 5, .int .i64 0, .int .i64 0, .bool false, .int .i64 0, .slice (some ⟨g, 0, none⟩) 1 cap] 24)) (.slice (some ⟨w.heap.size, 0, none⟩) 3 3) 3 (oC awL)) := Q1.out.below b1; replace k1 := k1.below b1; obtain ⟨d0, d1, d2, d3, d4, d5⟩ := k1.six'; replace hb := next (lay (lay hb _) _) b1; clear b1 o1)
    | (go_at_call 11; have _t := t1; go_must (refine (aw_has _ _ Q1.out).mono ?_); rintro e w2 ⟨rfl, b1⟩; replace Q2 : Hid (Row w2 (.slice (some ⟨g, 0, none⟩) 1 cap) 1 (oC awK)) := Q2.out.below b1; have Q4 := Q3.out; replace Q3 : Hid (w2.cell? ⟨g, 0, none⟩ = some (.int .i64 12)) := (by unfold Hid; rw [b1.cell (World.block_lt_of_cell? _ _ Q4)]; exact Q4); clear Q4; replace k1 := k1.below b1; replace k2 := k2.below b1; replace hb := next hb b1; clear d0 d1 d2 d3 d4 d5; obtain ⟨d0, d1, d2, d3, d4, d5⟩ := k2.six'; clear b1 t1 _t)
    | (go_at_call 11; go_must (refine (aw_hasn _ _ Q2.out).mono ?_); rintro e w3 ⟨rfl, b1⟩; have Q4 := Q3.out; have q3 : w3.cell? ⟨g, 0, none⟩ = some (.int .i64 12) := (by rw [b1.cell (World.block_lt_of_cell? _ _ Q4)]; exact Q4); clear Q4; replace k1 := k1.below b1; replace k2 := k2.below b1; replace hb := next hb b1; clear d0 d1 d2 d3 d4 d5; obtain ⟨d0, d1, d2, d3, d4, d5⟩ := k2.six'; obtain ⟨f0, f1, f2, f3, f4, f5⟩ := k1.six'; clear b1)
    | (go_at_call 15; refine (num_any _ _).mono ?_; rintro e w' ⟨rfl, hw⟩; obtain rfl := hw.symm))
  go_ret
  exact ⟨rfl, hb⟩

end Go.Proofs.Ytfhaogacblnnnaa
