/- What awake gives: true. -/
import Derived.Test.YtoeaogbeifkliaaRdF
namespace Go.Proofs.Ytoeaogbeifkliaa
open Go.RowKit
open Pl

/-- Strings that have just been laid in a block of their own. -/
theorem srow_new (W : World) (ps : List ByteArray) (t : TypeId) (n g : Nat) (hg : g = W.heap.size) (hn : n = ps.length) (hm : ps.length ≤ maxLen) (hz : ∀ k, k < ps.length → (ps.getD k ⟨#[]⟩).size ≤ maxLen) :
    SRow (W.alloc (.cells (ps.map Value.string).toArray t)) (.slice (some ⟨g, 0, none⟩) n n) ps := by
  subst hn
  subst hg
  refine ⟨.inr ⟨_, _, rfl, fun k hk => ?_⟩, hm, hz⟩
  rw [add_off, World.cell?_alloc_mark]
  simp [List.getD_eq_getElem?_getD, List.getElem?_eq_getElem hk]

/-- The data of the root's SOA. -/
def aSoa : ByteArray := ⟨#[0, 0, 0, 0, 0, 0, 0, 0, 0, 0, 0, 0, 0, 0, 0, 0, 0, 0, 0, 0, 0, 7]⟩
theorem max9 {n : Nat} (h : n ≤ 100) : n ≤ maxLen := by unfold maxLen; omega

theorem aw1 (w : World) : Calls Try.prog 8 #[.int .i64 258] w fun e w' => e = .returned (.tuple #[.string ⟨#[0, 0, 1, 2]⟩, .int .i64 0]) ∧ Below w.heap.size w w' := a_yes 258 w (by decide)
theorem aw2 (w : World) : Calls Try.prog 10 #[.string ⟨#[0, 0, 1, 2]⟩] w fun e w' => e = .returned (.tuple #[.int .i64 258, .int .i64 0]) ∧ ∃ m, w' = w.drewN m := addr_yes ⟨#[0, 0, 1, 2]⟩ w rfl
theorem aw3 (w : World) : Calls Try.prog 12 #[.int .i64 5, .string ⟨#[1, 109, 0]⟩] w fun e w' => e = .returned (.tuple #[.string ⟨#[0, 5, 1, 109, 0]⟩, .int .i64 0]) ∧ Below w.heap.size w w' := by
  have h := mx_yes 5 ⟨#[1, 109, 0]⟩ w (by decide) (by decide)
  rw [show be2 5 ++ (⟨#[1, 109, 0]⟩ : ByteArray) = ⟨#[0, 5, 1, 109, 0]⟩ from by apply ByteArray.ext; decide] at h
  exact h
theorem aw4 (w : World) : Calls Try.prog 14 #[.int .i64 15, .string ⟨#[0, 5, 1, 109, 0]⟩] w fun e w' => e = .returned (.tuple #[.string ⟨#[1, 109, 0]⟩, .int .i64 0]) ∧ Below w.heap.size w w' := by
  have h := host_any 15 ⟨#[0, 5, 1, 109, 0]⟩ w (max9 (by decide))
  rw [show hostD 15 ⟨#[0, 5, 1, 109, 0]⟩ = some ⟨#[1, 109, 0]⟩ from by
    unfold hostD
    rw [if_neg (by decide), if_pos rfl, if_pos (by decide)]
    congr 1] at h
  exact h
theorem aw5 (w : World) : Calls Try.prog 19 #[.agg #[.string ⟨#[0]⟩, .string ⟨#[0]⟩, .int .i64 0, .int .i64 0, .int .i64 0, .int .i64 0, .int .i64 7]] w fun e w' => e = .returned (.tuple #[.string aSoa, .int .i64 0]) ∧ Below w.heap.size w w' := by
  have h := soa_yes ⟨#[0]⟩ ⟨#[0]⟩ 0 0 0 0 7 w (by decide) (by decide) (by decide)
  rw [show soaS ⟨#[0]⟩ ⟨#[0]⟩ 0 0 0 0 7 5 = aSoa from by apply ByteArray.ext; decide] at h
  exact h
theorem aw6 (w : World) : Calls Try.prog 21 #[.string aSoa] w fun e w' => e = .returned (.tuple #[.agg #[.string ⟨#[0]⟩, .string ⟨#[0]⟩, .int .i64 0, .int .i64 0, .int .i64 0, .int .i64 0, .int .i64 7], .int .i64 0]) ∧ Below w.heap.size w w' := by
  have h := unsoa_yes aSoa 1 1 2 w (max9 (by decide)) (by decide) rfl
  exact h
theorem aw7 (w : World) (v : Value) (h : SRow w v [⟨#[97, 98]⟩, ⟨#[]⟩]) : Calls Try.prog 24 #[v] w fun e w' => e = .returned (.tuple #[.string ⟨#[2, 97, 98, 0]⟩, .int .i64 0]) ∧ Below w.heap.size w w' := by
  have h := txt_any v _ w h
  rw [show txtB [⟨#[97, 98]⟩, ⟨#[]⟩] = some ⟨#[2, 97, 98, 0]⟩ from by
    rw [txt_yes (by decide) (by decide) (by decide)]; rfl] at h
  exact h
theorem aw8 (w : World) : Calls Try.prog 8 #[.int .i64 (-1)] w fun e w' => e = .returned (.tuple #[.string ⟨#[]⟩, .int .i64 400]) ∧ Below w.heap.size w w' := a_no (-1) w (by decide)
theorem aw9 (w : World) : Calls Try.prog 17 #[.int .i64 1, .string ⟨#[0, 0, 1, 2]⟩] w fun e w' => e = .returned (.bool true) ∧ ∃ m, w' = w.drewN m := may4_as 1 _ true w (max9 (by decide)) (by decide)
theorem aw10 (w : World) : Calls Try.prog 17 #[.int .i64 1, .string ⟨#[]⟩] w fun e w' => e = .returned (.bool false) ∧ ∃ m, w' = w.drewN m := may4_as 1 _ false w (max9 (by decide)) (by decide)
theorem aw11 (w : World) : Calls Try.prog 17 #[.int .i64 0, .string ⟨#[]⟩] w fun e w' => e = .returned (.bool false) ∧ ∃ m, w' = w.drewN m := may4_as 0 _ false w (max9 (by decide)) (by decide)

set_option maxRecDepth 20000 in
set_option maxHeartbeats 4000000 in
theorem awake_any (w : World) : Calls Try.prog 27 #[] w fun e w' => e = .returned (.bool true) ∧ Below w.heap.size w w' := by
  have hb : Below w.heap.size w w := Below.refl _ _
  have z22 : aSoa.size = 22 := rfl
  obtain ⟨X, hX⟩ : ∃ X, X = aSoa := ⟨_, rfl⟩
  have k5 := aw5
  have k6 := aw6
  rw [← hX] at z22
  simp only [← hX] at k5 k6
  clear hX
  go_enter Try.func27, Try.ntmps27
  go_wp2_with (first
    | (go_at_call_of 8 (#[Value.int IntKind.i64 258]); go_must (refine (aw1 _).mono ?_); rintro e w1 ⟨rfl, b1⟩; replace hb := next hb b1; clear b1)
    | (go_at_call 10; go_must (refine (aw2 _).mono ?_); rintro e w2 ⟨rfl, b1⟩; replace hb := next hb (below_drew b1); clear b1)
    | (go_at_call 12; go_must (refine (aw3 _).mono ?_); rintro e w3 ⟨rfl, b1⟩; replace hb := next hb b1; clear b1)
    | (go_at_call 14; go_must (refine (aw4 _).mono ?_); rintro e w4 ⟨rfl, b1⟩; replace hb := next hb b1; clear b1)
    | (go_at_call 19; go_must (refine (k5 _).mono ?_); rintro e w5 ⟨rfl, b1⟩; replace hb := next hb b1; clear b1)
    | (go_at_call 21; go_must (refine (k6 _).mono ?_); rintro e w6 ⟨rfl, b1⟩; replace hb := next hb b1; clear b1)
    | (go_at_call 24; go_must (refine (aw7 _ _ (srow_new _ [⟨#[97, 98]⟩, ⟨#[]⟩] 9 2 (w6.heap.size + 1) (by simp) rfl (max9 (by decide)) (by decide))).mono ?_); rintro e w7 ⟨rfl, b1⟩; replace hb := next (lay (lay hb _) _) b1; have kb := ((Blk.new w6 (soaV ⟨#[0]⟩ ⟨#[0]⟩ 0 0 0 0 7) 23).alloc _).below b1; clear b1)
    | (go_at_call 8; go_must (refine (aw8 _).mono ?_); rintro e w8 ⟨rfl, b1⟩; replace hb := next hb b1; have kc : w8.cell? ⟨w6.heap.size, 6, none⟩ = some (.int .i64 7) := (kb.below b1).cell 6; clear b1)
    | (go_at_call 16; refine (num_any _ _).mono ?_; rintro e w' ⟨rfl, hw⟩; obtain rfl := hw.symm)
    | (go_at_call_of 17 (#[Value.int IntKind.i64 1, Value.string ⟨#[0, 0, 1, 2]⟩]); go_must (refine (aw9 _).mono ?_); rintro e w9 ⟨rfl, b1⟩; replace hb := next hb (below_drew b1); clear b1)
    | (go_at_call_of 17 (#[Value.int IntKind.i64 1, Value.string ⟨#[]⟩]); go_must (refine (aw10 _).mono ?_); rintro e w9 ⟨rfl, b1⟩; replace hb := next hb (below_drew b1); clear b1)
    | (go_at_call 17; go_must (refine (aw11 _).mono ?_); rintro e w9 ⟨rfl, b1⟩; replace hb := next hb (below_drew b1); clear b1))
  go_ret
  exact ⟨rfl, hb⟩

end Go.Proofs.Ytoeaogbeifkliaa
