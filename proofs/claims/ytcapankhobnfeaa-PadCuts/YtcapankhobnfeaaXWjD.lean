/- What the document's short and rrMay give. -/
import Derived.Test.YtcapankhobnfeaaXWjC
namespace Go.Proofs.Ytcapankhobnfeaa
open Go.RowKit
open Pl

theorem short_as (x : Int) (b : Bool) (w : World) (h : inB 65535 x = b) :
    Calls Try.prog 27 #[.int .i64 x] w fun e w' => e = .returned (.bool b) ∧ w' = w := by
  by_cases h1 : 0 ≤ x
  · have HR : Hid (b = decide (x ≤ 65535)) := by unfold Hid; rw [← h]; unfold inB; simp [h1]
    clear h
    go_enter Try.func27, Try.ntmps27
    go_wp2
    go_ret
    exact ⟨ret_bool HR.out.symm, rfl⟩
  · have h1' : decide (0 ≤ x) = false := by simpa using h1
    have HR : Hid (b = false) := by unfold Hid; rw [← h]; unfold inB; simp; omega
    clear h
    go_enter Try.func27, Try.ntmps27
    go_wp2
    go_ret
    exact ⟨ret_bool HR.out.symm, rfl⟩

theorem rr_as (n : ByteArray) (t c l : Int) (d : ByteArray) (b1 b2 b3 b4 b5 b6 : Bool) (w : World)
    (k1 : ∀ u, Calls Try.prog 24 #[.string n] u fun e w' => e = .returned (.bool b1) ∧ Below u.heap.size u w')
    (k2 : ∀ u, Calls Try.prog 27 #[.int .i64 t] u fun e w' => e = .returned (.bool b2) ∧ w' = u)
    (k3 : decide (0 < t) = b3)
    (k4 : ∀ u, Calls Try.prog 27 #[.int .i64 c] u fun e w' => e = .returned (.bool b4) ∧ w' = u)
    (k5 : ∀ u, Calls Try.prog 43 #[.int .i64 l] u fun e w' => e = .returned (.bool b5) ∧ w' = u)
    (k6 : ∀ u, Calls Try.prog 84 #[.int .i64 t, .string d] u fun e w' => e = .returned (.bool b6) ∧ Below u.heap.size u w') :
    Calls Try.prog 71 #[.agg #[.string n, .int .i64 t, .int .i64 c, .int .i64 l, .string d]] w fun e w' => e = .returned (.bool (b1 && b2 && b3 && b4 && b5 && b6)) ∧ Below w.heap.size w w' := by
  have KB := Blk.new w #[.string n, .int .i64 t, .int .i64 c, .int .i64 l, .string d] 54
  have hb : Below w.heap.size w _ := lay (Below.refl _ _) (.cells #[.string n, .int .i64 t, .int .i64 c, .int .i64 l, .string d] 54)
  have t1 : True := trivial
  have hw : b1 = false ∨ (b1 = true ∧ b2 = false) ∨ (b1 = true ∧ b2 = true ∧ b3 = false) ∨ (b1 = true ∧ b2 = true ∧ b3 = true ∧ b4 = false) ∨ (b1 = true ∧ b2 = true ∧ b3 = true ∧ b4 = true ∧ b5 = false) ∨ (b1 = true ∧ b2 = true ∧ b3 = true ∧ b4 = true ∧ b5 = true) := by
    cases b1 <;> cases b2 <;> cases b3 <;> cases b4 <;> cases b5 <;> simp
  rcases hw with rfl | ⟨rfl, rfl⟩ | ⟨rfl, rfl, rfl⟩ | ⟨rfl, rfl, rfl, rfl⟩ | ⟨rfl, rfl, rfl, rfl, rfl⟩ | ⟨rfl, rfl, rfl, rfl, rfl⟩
  all_goals
    go_enter Try.func71, Try.ntmps71
    go_wp2_with (first
    | (go_at_call 24; go_must (refine (k1 _).mono ?_); rintro e w1 ⟨rfl, bb⟩; replace KB := KB.below bb; replace hb := next hb bb; have c1 : w1.cell? ⟨w.heap.size, 1, none⟩ = some (.int .i64 t) := KB.cell 1; have c2 : w1.cell? ⟨w.heap.size, 2, none⟩ = some (.int .i64 c) := KB.cell 2; have c3 : w1.cell? ⟨w.heap.size, 3, none⟩ = some (.int .i64 l) := KB.cell 3; have c4 : w1.cell? ⟨w.heap.size, 4, none⟩ = some (.string d) := KB.cell 4; clear bb)
    | (go_at_call 27; have _t := t1; go_must (refine (k2 _).mono ?_); rintro e w' ⟨rfl, hw⟩; obtain rfl := hw.symm; clear t1 _t)
    | (go_at_call 27; go_must (refine (k4 _).mono ?_); rintro e w' ⟨rfl, hw⟩; obtain rfl := hw.symm)
    | (go_at_call 43; go_must (refine (k5 _).mono ?_); rintro e w' ⟨rfl, hw⟩; obtain rfl := hw.symm)
    | (go_at_call 84; go_must (refine (k6 _).mono ?_); rintro e w2 ⟨rfl, bb⟩; replace hb := next hb bb; clear bb))
    go_ret
    exact ⟨ret_bool (by simp), hb⟩

theorem rrMay_any (r : Rc) (w : World) (hs : r.n.size ≤ maxLen) (hd : r.d.size ≤ maxLen) :
    Calls Try.prog 71 #[.agg #[.string r.n, .int .i64 r.t, .int .i64 r.c, .int .i64 r.l, .string r.d]] w fun e w' => e = .returned (.bool (mayR r)) ∧ Below w.heap.size w w' := by
  have e : mayR r = (isName r.n.data.toList && inB 65535 r.t && decide (0 < r.t) && inB 65535 r.c && inB 4294967295 r.l && mayD r.t r.d.data.toList) := by
    unfold mayR
    by_cases ht : 0 < r.t ∧ r.t ≤ 65535
    · have h1 : inB 65535 r.t = true := by unfold inB; simp; omega
      simp [h1, ht.1]
    · have h2 : mayD r.t r.d.data.toList = false := may_none (by omega) _
      simp [h2]
  rw [e]
  exact rr_as r.n r.t r.c r.l r.d _ _ _ _ _ _ w (fun u => refMay_at r.n _ u hs rfl) (fun u => short_as r.t _ u rfl) rfl (fun u => short_as r.c _ u rfl) (fun u => wide_any r.l u) (fun u => dataMay_any r.t r.d u hd)

end Go.Proofs.Ytcapankhobnfeaa
