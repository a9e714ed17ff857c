/- awake of the statements over package bail. -/
import Derived.Test.YtnecdpieoipjdaaBaG
import Derived.Laws.StructEq
namespace Go.Proofs.Ytnecdpieoipjdaa
open Go.RowKit
open Pl

/-- What awake asks for. -/
def awA : Rc := ⟨⟨#[1, 97, 1, 99, 0]⟩, 1, 1, 0, ⟨#[97, 98, 99, 100]⟩⟩
def awB : Rc := ⟨⟨#[1, 97, 1, 100, 0]⟩, 1, 1, 0, ⟨#[97, 98, 99, 100]⟩⟩
def awC : Rc := ⟨⟨#[1, 97, 1, 99, 0]⟩, 1, 3, 0, ⟨#[97, 98, 99, 100]⟩⟩
theorem aw12_n : isName [1, 67, 0] = true := by kernel_rfl
theorem aw12_1 : kpL [1, 67, 0] [awA, awB] = [awA] := by
  have h1 : kpB [1, 67, 0] awA = true := by kernel_rfl
  have h2 : kpB [1, 67, 0] awB = false := by kernel_rfl
  simp [kpL, h1, h2]
theorem aw12_2 : kpL [1, 67, 0] [awC, awA] = [awA] := by
  have h1 : kpB [1, 67, 0] awA = true := by kernel_rfl
  have h2 : kpB [1, 67, 0] awC = false := by kernel_rfl
  simp [kpL, h1, h2]
theorem aw12_3 : (⟨⟨0, false, 0, false, false, false, false, 0, 0⟩, [], [awA], [], [awA]⟩ : Ms) = fM [1, 67, 0] ⟨⟨0, false, 0, false, false, false, false, 0, 0⟩, [], [awA, awB], [], [awC, awA]⟩ := by
  rw [fM_yes aw12_n]
  simp [kpM, aw12_1, aw12_2]
  rfl
theorem aw12_e : isName [] = false := by kernel_rfl
theorem aw_fits : Fits ⟨⟨0, false, 0, false, false, false, false, 0, 0⟩, [], [awA, awB], [], [awC, awA]⟩ :=
  ⟨by decide, by decide, by decide, by decide, fun x h => by simp at h, fun r h => by simp at h; rcases h with rfl | rfl <;> decide, fun r h => by simp at h, fun r h => by simp at h; rcases h with rfl | rfl <;> decide⟩
theorem aw_rec {B : Nat} {w : World} {g c : Nat} {r : Rc} (h : w.ownsRow B 42 5 (.slice (some ⟨g, 0, none⟩) 1 c) 1 (rC [r])) : w.cell? ⟨g, 0, none⟩ = some (.string r.n) ∧ w.cell? ⟨g, 1, none⟩ = some (.int .i64 r.t) ∧ w.cell? ⟨g, 2, none⟩ = some (.int .i64 r.c) ∧ w.cell? ⟨g, 3, none⟩ = some (.int .i64 r.l) ∧ w.cell? ⟨g, 4, none⟩ = some (.string r.d) := by
  refine ⟨?_, ?_, ?_, ?_, ?_⟩ <;> rw [h.cellAt _ (by decide)] <;> rfl

theorem aw_f1 (u : World) (g g' : Nat) (h : Blk u g (rC [awA, awB]).toArray 42) (h' : Blk u g' (rC [awC, awA]).toArray 42) :
    Calls Try.prog 8 #[.agg #[.int .i64 0, .bool false, .int .i64 0, .bool false, .bool false, .bool false, .bool false, .int .i64 0, .int .i64 0, .slice none 0 0, .slice (some ⟨g, 0, none⟩) 2 2, .slice none 0 0, .slice (some ⟨g', 0, none⟩) 2 2], .string ⟨#[1, 67, 0]⟩] u fun e w' => ∃ (y0 y2 : Option Addr) (ga gb k0 k1 k2 k3 : Nat), e = .returned (.tuple #[.agg #[.int .i64 0, .bool false, .int .i64 0, .bool false, .bool false, .bool false, .bool false, .int .i64 0, .int .i64 0, .slice y0 0 k0, .slice (some ⟨ga, 0, none⟩) 1 k1, .slice y2 0 k2, .slice (some ⟨gb, 0, none⟩) 1 k3], .int .i64 0]) ∧
      Own u.heap.size w' (.slice y0 0 k0) (.slice (some ⟨ga, 0, none⟩) 1 k1) (.slice y2 0 k2) (.slice (some ⟨gb, 0, none⟩) 1 k3) ⟨⟨0, false, 0, false, false, false, false, 0, 0⟩, [], [awA], [], [awA]⟩ ∧ Below u.heap.size u w' := by
  refine (filter_any ⟨#[1, 67, 0]⟩ 0 false 0 false false false false 0 0 [] [awA, awB] [] [awC, awA] _ _ _ _ u 0 false 0 false false false false 0 0 [] [awA] [] [awA] 0 (Row.nil _ _) (Row.of_blk h (by simp) 2 2) (Row.nil _ _) (Row.of_blk h' (by simp) 2 2) aw_fits (by decide) aw12_3 (fE_yes aw12_n).symm).mono ?_
  rintro e w' ⟨y0, y1, y2, y3, k0, k1, k2, k3, rfl, ow, b⟩
  obtain ⟨ga, cap, hv, _, _⟩ := ow.an.form (by simp)
  simp only [Value.slice.injEq] at hv
  obtain ⟨rfl, -, rfl⟩ := hv
  obtain ⟨gb, cap, hv, _, _⟩ := ow.ar.form (by simp)
  simp only [Value.slice.injEq] at hv
  obtain ⟨rfl, -, rfl⟩ := hv
  exact ⟨y0, y2, ga, gb, k0, k1, k2, k3, rfl, ow, b⟩
theorem aw_f2 (u : World) (y0 y1 y2 y3 : Option Addr) (k0 k1 k2 k3 : Nat) {B : Nat} (h : Own B u (.slice y0 0 k0) (.slice y1 1 k1) (.slice y2 0 k2) (.slice y3 1 k3) ⟨⟨0, false, 0, false, false, false, false, 0, 0⟩, [], [awA], [], [awA]⟩) :
    Calls Try.prog 8 #[.agg #[.int .i64 0, .bool false, .int .i64 0, .bool false, .bool false, .bool false, .bool false, .int .i64 0, .int .i64 0, .slice y0 0 k0, .slice y1 1 k1, .slice y2 0 k2, .slice y3 1 k3], .string ⟨#[]⟩] u fun e w' => e = .returned (.tuple #[.agg #[.int .i64 0, .bool false, .int .i64 0, .bool false, .bool false, .bool false, .bool false, .int .i64 0, .int .i64 0, .slice none 0 0, .slice none 0 0, .slice none 0 0, .slice none 0 0], .int .i64 1200]) ∧ Below u.heap.size u w' :=
  filter_no ⟨#[]⟩ 0 false 0 false false false false 0 0 [] [awA] [] [awA] _ _ _ _ u (Row.of_own h.q) (Row.of_own h.an) (Row.of_own h.ns) (Row.of_own h.ar) (by decide) aw12_e
theorem blk4 (w : World) (o o' o'' : Obj) (C : Array Value) (t : TypeId) : Blk ((((w.alloc o).alloc o').alloc o'').alloc (.cells C t)) (w.heap.size + 1 + 1 + 1) C t := by
  have := Blk.new (((w.alloc o).alloc o').alloc o'') C t
  rw [World.size_alloc, World.size_alloc, World.size_alloc] at this
  exact this

theorem blk5 (w : World) (o o' o'' o3 : Obj) (C : Array Value) (t : TypeId) : Blk (((((w.alloc o).alloc o').alloc o'').alloc o3).alloc (.cells C t)) (w.heap.size + 1 + 1 + 1 + 1) C t := by
  have := Blk.new ((((w.alloc o).alloc o').alloc o'').alloc o3) C t
  rw [World.size_alloc, World.size_alloc, World.size_alloc, World.size_alloc] at this
  exact this

set_option maxRecDepth 20000 in
set_option maxHeartbeats 2000000 in
theorem awake_any (w : World) : Calls Try.prog 13 #[] w fun e w' => e = .returned (.bool true) ∧ Below w.heap.size w w' := by
  have hb : Below w.heap.size w w := Below.refl _ _
  have t1 : True := trivial
  go_enter Try.func13, Try.ntmps13
  go_wp2_with (first
    | (go_at_call 8; have _t := t1; go_must (refine (aw_f1 _ _ _ ((blk4 _ _ _ _ _ _).alloc _) (blk5 _ _ _ _ _ _ _)).mono ?_); rintro e w1 ⟨y0, y2, ga, gb, k0, k1, k2, k3, rfl, ow, b1⟩; obtain ⟨B, ow⟩ : ∃ B, Own B w1 (.slice y0 0 k0) (.slice (some ⟨ga, 0, none⟩) 1 k1) (.slice y2 0 k2) (.slice (some ⟨gb, 0, none⟩) 1 k3) ⟨⟨0, false, 0, false, false, false, false, 0, 0⟩, [], [awA], [], [awA]⟩ := ⟨_, ow⟩; have HO : Hid (Own B w1 (.slice y0 0 k0) (.slice (some ⟨ga, 0, none⟩) 1 k1) (.slice y2 0 k2) (.slice (some ⟨gb, 0, none⟩) 1 k3) ⟨⟨0, false, 0, false, false, false, false, 0, 0⟩, [], [awA], [], [awA]⟩) := ow; have HA : Hid (Blk w1 w.heap.size #[.string ⟨#[1, 97, 1, 99, 0]⟩, .int .i64 1, .int .i64 1, .int .i64 0, .string ⟨#[97, 98, 99, 100]⟩] 42) := (((((Blk.new w _ _).alloc _).alloc _).alloc _).alloc _).below b1; replace hb := next (lay (lay (lay (lay (lay hb _) _) _) _) _) b1; clear ow b1 t1 _t)
    | (go_at_call 8; go_must (refine (aw_f2 _ _ _ _ _ _ _ _ _ (HO.out.below (lay (Below.refl _ _) _))).mono ?_); rintro e w2 ⟨rfl, b2⟩; have HM : Hid (Blk w2 w1.heap.size #[.int .i64 0, .bool false, .int .i64 0, .bool false, .bool false, .bool false, .bool false, .int .i64 0, .int .i64 0, .slice y0 0 k0, .slice (some ⟨ga, 0, none⟩) 1 k1, .slice y2 0 k2, .slice (some ⟨gb, 0, none⟩) 1 k3] 27) := (Blk.new w1 _ _).below b2; replace HO : Hid (Own B w2 (.slice y0 0 k0) (.slice (some ⟨ga, 0, none⟩) 1 k1) (.slice y2 0 k2) (.slice (some ⟨gb, 0, none⟩) 1 k3) ⟨⟨0, false, 0, false, false, false, false, 0, 0⟩, [], [awA], [], [awA]⟩) := (HO.out.below (lay (Below.refl _ _) _)).below b2; replace HA : Hid (Blk w2 w.heap.size #[.string ⟨#[1, 97, 1, 99, 0]⟩, .int .i64 1, .int .i64 1, .int .i64 0, .string ⟨#[97, 98, 99, 100]⟩] 42) := (HA.out.alloc _).below b2; replace hb := next (lay hb _) b2; clear b2))
  have b3 : Below w2.heap.size w2 (w2.alloc (.cells #[.int .i64 0, .bool false, .int .i64 0, .bool false, .bool false, .bool false, .bool false, .int .i64 0, .int .i64 0, .slice none 0 0, .slice none 0 0, .slice none 0 0, .slice none 0 0] 27)) := lay (Below.refl _ _) _
  replace hb := next hb b3
  replace HO : Hid (Own B (w2.alloc (.cells #[.int .i64 0, .bool false, .int .i64 0, .bool false, .bool false, .bool false, .bool false, .int .i64 0, .int .i64 0, .slice none 0 0, .slice none 0 0, .slice none 0 0, .slice none 0 0] 27)) (.slice y0 0 k0) (.slice (some ⟨ga, 0, none⟩) 1 k1) (.slice y2 0 k2) (.slice (some ⟨gb, 0, none⟩) 1 k3) ⟨⟨0, false, 0, false, false, false, false, 0, 0⟩, [], [awA], [], [awA]⟩) := HO.out.below b3
  replace HA : Hid (Blk (w2.alloc (.cells #[.int .i64 0, .bool false, .int .i64 0, .bool false, .bool false, .bool false, .bool false, .int .i64 0, .int .i64 0, .slice none 0 0, .slice none 0 0, .slice none 0 0, .slice none 0 0] 27)) w.heap.size #[.string ⟨#[1, 97, 1, 99, 0]⟩, .int .i64 1, .int .i64 1, .int .i64 0, .string ⟨#[97, 98, 99, 100]⟩] 42) := HA.out.below b3
  replace HM : Hid (Blk (w2.alloc (.cells #[.int .i64 0, .bool false, .int .i64 0, .bool false, .bool false, .bool false, .bool false, .int .i64 0, .int .i64 0, .slice none 0 0, .slice none 0 0, .slice none 0 0, .slice none 0 0] 27)) w1.heap.size #[.int .i64 0, .bool false, .int .i64 0, .bool false, .bool false, .bool false, .bool false, .int .i64 0, .int .i64 0, .slice y0 0 k0, .slice (some ⟨ga, 0, none⟩) 1 k1, .slice y2 0 k2, .slice (some ⟨gb, 0, none⟩) 1 k3] 27) := HM.out.below b3
  clear b3
  revert hb HO HA HM
  generalize w2.alloc (.cells #[.int .i64 0, .bool false, .int .i64 0, .bool false, .bool false, .bool false, .bool false, .int .i64 0, .int .i64 0, .slice none 0 0, .slice none 0 0, .slice none 0 0, .slice none 0 0] 27) = W
  intro hb HO HA HM
  obtain ⟨g, hg⟩ : ∃ g, g = w1.heap.size := ⟨_, rfl⟩
  rw [← hg] at HM ⊢
  obtain ⟨x0, x1, x2, x3, x4⟩ := aw_rec HO.out.an
  simp only [awA] at x0 x1 x2 x3 x4
  obtain ⟨a0, a1, a2, a3, a4⟩ := HA.out.five5
  have m10 : W.cell? ⟨g, 10, none⟩ = some (.slice (some ⟨ga, 0, none⟩) 1 k1) := HM.out.cell 10
  have m12 : W.cell? ⟨g, 12, none⟩ = some (.slice (some ⟨gb, 0, none⟩) 1 k3) := HM.out.cell 12
  clear hg
  go_quiet ((go_at_call 11; exact Calls.quiet_of_same (num_any _ _)))
  go_wp2
  go_ret
  first
    | exact ⟨rfl, hb⟩
    | exact ⟨rfl, next hb (below_drew ⟨_, rfl⟩)⟩

end Go.Proofs.Ytnecdpieoipjdaa
