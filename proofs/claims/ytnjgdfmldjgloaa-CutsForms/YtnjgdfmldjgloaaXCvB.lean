/- CutsForms' ways 5 to 9, 12, 13. -/
import Derived.Test.YtnjgdfmldjgloaaXCvA
namespace Go.Proofs.Ytnjgdfmldjgloaa
open Go.RowKit
open Pl
namespace Cu

set_option maxRecDepth 20000 in
set_option maxHeartbeats 4000000 in
theorem cf5 (which x U e : Int) (w : World) (hU : IntKind.u64.wrap which = U) (hm : U.tmod 14 = 5) (m63 : bits .and .i64 x 63 = e) (e0 : 0 ≤ e) (e1 : e < 64) :
    Calls Try.prog 5 #[.int .i64 which, .int .i64 x] w fun e w' => e = .returned (.bool true) ∧ Below w.heap.size w w' := by
  have hno : mayD ⟨⟨#[1, 97, 1, 98, 0]⟩, [⟨#[1, 104, 0]⟩, ⟨#[1, 72, 0]⟩], [delG 5 9], 9⟩ ⟨#[1, 98, 0]⟩ 3 = false := by decide
  have HNO : Hid (mayD ⟨⟨#[1, 97, 1, 98, 0]⟩, [⟨#[1, 104, 0]⟩, ⟨#[1, 72, 0]⟩], [delG 5 9], 9⟩ ⟨#[1, 98, 0]⟩ 3 = false) := hno
  clear hno
  have t1 : True := trivial
  have t2 : True := trivial
  go_enter Try.func5, Try.ntmps5
  go_wp2_with (first
    | (go_at_call 8; go_must (refine (awake_any _).mono ?_); rintro e w1 ⟨rfl, b1⟩)
    | (go_at_call 10; go_must (refine (hints_any _).mono ?_); rintro e wh ⟨rfl, rfl⟩)
    | (go_at_call 9; go_must (refine (lw_hints (M := fun _ => False) b1 (fun _ h => h.elim)).mono ?_); rintro e w2 ⟨o, rfl, s2, _⟩; clear b1)
    | (go_at_call 22; go_must (refine (del_any ⟨#[1, 97, 1, 98, 0]⟩ 5 9 _).mono ?_); rintro e w3 ⟨X, Y, rfl, kx, ky, b3, hX, hY⟩; obtain ⟨BX, s3, kxa, kya, kz⟩ := del_box (cn := ⟨#[1, 97, 1, 98, 0]⟩) s2 kx ky b3 hX hY; have hp1 := s3.put (din_del (cn := ⟨#[1, 97, 1, 98, 0]⟩) kxa kya (by decide)) ⟨#[1, 98, 0]⟩ 3 (by decide) 0 cfE1 cfF cfP1; clear hX hY kx ky b3 s2 s3)
    | (go_at_call 11; have _t := t1; go_must (refine hp1.mono ?_); rintro e w4 ⟨rfl, s4, T4⟩; have kx4 := T4.blk kxa (fun h => h.2 BX.x); have ky4 := T4.blk kya (fun h => h.2 BX.y); have kz4 := T4.blk kz (fun h => h.2 BX.z); have q0 := kz4.cell 0; have q1 := kz4.cell 1; have q2 := kz4.cell 2; have q3 := kz4.cell 3; have f0 := kz4.frozen 0; have f1 := kz4.frozen 1; have f2 := kz4.frozen 2; have f3 := kz4.frozen 3; have hz4 := kz4.lt; have sa := s4.wrote BX.z 1 (.slice (some ⟨w4.heap.size, 0, none⟩) 2 2); have ba : Below (w4.setCell ⟨w3.heap.size, 1, none⟩ (.slice (some ⟨w4.heap.size, 0, none⟩) 2 2)).heap.size (w4.setCell ⟨w3.heap.size, 1, none⟩ (.slice (some ⟨w4.heap.size, 0, none⟩) 2 2)) ((w4.setCell ⟨w3.heap.size, 1, none⟩ (.slice (some ⟨w4.heap.size, 0, none⟩) 2 2)).alloc (.cells #[.string ⟨#[1, 104, 0]⟩, .string ⟨#[1, 72, 0]⟩] 9)) := lay (Below.refl _ _) _; have s5 := sa.below ba; have kn5 : Blk ((w4.setCell ⟨w3.heap.size, 1, none⟩ (.slice (some ⟨w4.heap.size, 0, none⟩) 2 2)).alloc (.cells #[.string ⟨#[1, 104, 0]⟩, .string ⟨#[1, 72, 0]⟩] 9)) w4.heap.size #[.string ⟨#[1, 104, 0]⟩, .string ⟨#[1, 72, 0]⟩] 9 := (by have := Blk.new (w4.setCell ⟨w3.heap.size, 1, none⟩ (.slice (some ⟨w4.heap.size, 0, none⟩) 2 2)) #[.string ⟨#[1, 104, 0]⟩, .string ⟨#[1, 72, 0]⟩] 9; rw [World.size_setCell] at this; exact this); have ky5 := (ky4.other BX.yz 1 (.slice (some ⟨w4.heap.size, 0, none⟩) 2 2)).below ba; have kz5 := (kz4.set 1 (.slice (some ⟨w4.heap.size, 0, none⟩) 2 2)).below ba; have d5 : DIn ((w4.setCell ⟨w3.heap.size, 1, none⟩ (.slice (some ⟨w4.heap.size, 0, none⟩) 2 2)).alloc (.cells #[.string ⟨#[1, 104, 0]⟩, .string ⟨#[1, 72, 0]⟩] 9)) ⟨⟨#[1, 97, 1, 98, 0]⟩, [⟨#[1, 104, 0]⟩, ⟨#[1, 72, 0]⟩], [delG 5 9], 9⟩ (.slice (some ⟨w4.heap.size, 0, none⟩) 2 2) (.slice (some ⟨Y, 0, none⟩) 1 1) := ⟨Row.of_blk kn5 rfl 2 2, ⟨_, 2, rfl, Nat.le_refl _⟩, Row.of_blk ky5 rfl 1 1, by decide, by decide, by decide, fun z hz => by simp at hz; rcases hz with rfl | rfl <;> decide, fun z hz => by simp at hz; subst hz; decide⟩; have z0 := kz5.cell 0; have z1 := kz5.cell 1; have z2 := kz5.cell 2; have z3 := kz5.cell 3; simp only [List.setIfInBounds_toArray, List.set_cons_zero, List.set_cons_succ] at z0 z1 z2 z3; simp only [List.getElem?_toArray, List.getElem?_cons_succ, List.getElem?_cons_zero] at q0 q1 q2 q3 z0 z1 z2 z3; have hp2 := s5.put d5 ⟨#[1, 98, 0]⟩ 3 (by decide) 1500 (no_may HNO.out).1 cfF ((no_may HNO.out).2 _); clear t1 hp1 s4 s5 T4 kxa kya kz kx4 ky4 kz4 kz5 d5)
    | (go_at_call 11; have _t := t2; go_must (refine hp2.mono ?_); rintro e w6 ⟨rfl, s6, _⟩; clear t2 hp2 z0 z1 z2 z3 q0 q1 q2 q3 f0 f1 f2 f3)
    | (go_at_call 20; refine (num_any _ _).mono ?_; rintro e w' ⟨rfl, hw⟩; obtain rfl := hw.symm)
    | (go_at_call 18; go_must (refine (s6.binds ⟨#[1, 97, 1, 98, 0]⟩ 4 (by decide) [cfB] cfB1 1 rfl).mono ?_); rintro e w7 ⟨y7, c7, rfl, _, s7, _⟩; clear s6))
  go_ret
  exact ⟨rfl, s7.bel⟩

set_option maxRecDepth 20000 in
set_option maxHeartbeats 4000000 in
theorem cf6 (which x U e : Int) (w : World) (hU : IntKind.u64.wrap which = U) (hm : U.tmod 14 = 6) (m63 : bits .and .i64 x 63 = e) (e0 : 0 ≤ e) (e1 : e < 64) :
    Calls Try.prog 5 #[.int .i64 which, .int .i64 x] w fun e w' => e = .returned (.bool true) ∧ Below w.heap.size w w' := by
  have hno : mayD ⟨⟨#[1, 97, 1, 98, 0]⟩, [⟨#[1, 104, 0]⟩, ⟨#[104]⟩], [delG 5 9], 9⟩ ⟨#[1, 98, 0]⟩ 3 = false := by decide
  have HNO : Hid (mayD ⟨⟨#[1, 97, 1, 98, 0]⟩, [⟨#[1, 104, 0]⟩, ⟨#[104]⟩], [delG 5 9], 9⟩ ⟨#[1, 98, 0]⟩ 3 = false) := hno
  clear hno
  have t1 : True := trivial
  have t2 : True := trivial
  go_enter Try.func5, Try.ntmps5
  go_wp2_with (first
    | (go_at_call 8; go_must (refine (awake_any _).mono ?_); rintro e w1 ⟨rfl, b1⟩)
    | (go_at_call 10; go_must (refine (hints_any _).mono ?_); rintro e wh ⟨rfl, rfl⟩)
    | (go_at_call 9; go_must (refine (lw_hints (M := fun _ => False) b1 (fun _ h => h.elim)).mono ?_); rintro e w2 ⟨o, rfl, s2, _⟩; clear b1)
    | (go_at_call 22; go_must (refine (del_any ⟨#[1, 97, 1, 98, 0]⟩ 5 9 _).mono ?_); rintro e w3 ⟨X, Y, rfl, kx, ky, b3, hX, hY⟩; obtain ⟨BX, s3, kxa, kya, kz⟩ := del_box (cn := ⟨#[1, 97, 1, 98, 0]⟩) s2 kx ky b3 hX hY; have hp1 := s3.put (din_del (cn := ⟨#[1, 97, 1, 98, 0]⟩) kxa kya (by decide)) ⟨#[1, 98, 0]⟩ 3 (by decide) 0 cfE1 cfF cfP1; clear hX hY kx ky b3 s2 s3)
    | (go_at_call 11; have _t := t1; go_must (refine hp1.mono ?_); rintro e w4 ⟨rfl, s4, T4⟩; have kx4 := T4.blk kxa (fun h => h.2 BX.x); have ky4 := T4.blk kya (fun h => h.2 BX.y); have kz4 := T4.blk kz (fun h => h.2 BX.z); have q0 := kz4.cell 0; have q1 := kz4.cell 1; have q2 := kz4.cell 2; have q3 := kz4.cell 3; have f0 := kz4.frozen 0; have f1 := kz4.frozen 1; have f2 := kz4.frozen 2; have f3 := kz4.frozen 3; have hz4 := kz4.lt; have sa := s4.wrote BX.z 1 (.slice (some ⟨w4.heap.size, 0, none⟩) 2 2); have ba : Below (w4.setCell ⟨w3.heap.size, 1, none⟩ (.slice (some ⟨w4.heap.size, 0, none⟩) 2 2)).heap.size (w4.setCell ⟨w3.heap.size, 1, none⟩ (.slice (some ⟨w4.heap.size, 0, none⟩) 2 2)) ((w4.setCell ⟨w3.heap.size, 1, none⟩ (.slice (some ⟨w4.heap.size, 0, none⟩) 2 2)).alloc (.cells #[.string ⟨#[1, 104, 0]⟩, .string ⟨#[104]⟩] 9)) := lay (Below.refl _ _) _; have s5 := sa.below ba; have kn5 : Blk ((w4.setCell ⟨w3.heap.size, 1, none⟩ (.slice (some ⟨w4.heap.size, 0, none⟩) 2 2)).alloc (.cells #[.string ⟨#[1, 104, 0]⟩, .string ⟨#[104]⟩] 9)) w4.heap.size #[.string ⟨#[1, 104, 0]⟩, .string ⟨#[104]⟩] 9 := (by have := Blk.new (w4.setCell ⟨w3.heap.size, 1, none⟩ (.slice (some ⟨w4.heap.size, 0, none⟩) 2 2)) #[.string ⟨#[1, 104, 0]⟩, .string ⟨#[104]⟩] 9; rw [World.size_setCell] at this; exact this); have ky5 := (ky4.other BX.yz 1 (.slice (some ⟨w4.heap.size, 0, none⟩) 2 2)).below ba; have kz5 := (kz4.set 1 (.slice (some ⟨w4.heap.size, 0, none⟩) 2 2)).below ba; have d5 : DIn ((w4.setCell ⟨w3.heap.size, 1, none⟩ (.slice (some ⟨w4.heap.size, 0, none⟩) 2 2)).alloc (.cells #[.string ⟨#[1, 104, 0]⟩, .string ⟨#[104]⟩] 9)) ⟨⟨#[1, 97, 1, 98, 0]⟩, [⟨#[1, 104, 0]⟩, ⟨#[104]⟩], [delG 5 9], 9⟩ (.slice (some ⟨w4.heap.size, 0, none⟩) 2 2) (.slice (some ⟨Y, 0, none⟩) 1 1) := ⟨Row.of_blk kn5 rfl 2 2, ⟨_, 2, rfl, Nat.le_refl _⟩, Row.of_blk ky5 rfl 1 1, by decide, by decide, by decide, fun z hz => by simp at hz; rcases hz with rfl | rfl <;> decide, fun z hz => by simp at hz; subst hz; decide⟩; have z0 := kz5.cell 0; have z1 := kz5.cell 1; have z2 := kz5.cell 2; have z3 := kz5.cell 3; simp only [List.setIfInBounds_toArray, List.set_cons_zero, List.set_cons_succ] at z0 z1 z2 z3; simp only [List.getElem?_toArray, List.getElem?_cons_succ, List.getElem?_cons_zero] at q0 q1 q2 q3 z0 z1 z2 z3; have hp2 := s5.put d5 ⟨#[1, 98, 0]⟩ 3 (by decide) 1500 (no_may HNO.out).1 cfF ((no_may HNO.out).2 _); clear t1 hp1 s4 s5 T4 kxa kya kz kx4 ky4 kz4 kz5 d5)
    | (go_at_call 11; have _t := t2; go_must (refine hp2.mono ?_); rintro e w6 ⟨rfl, s6, _⟩; clear t2 hp2 z0 z1 z2 z3 q0 q1 q2 q3 f0 f1 f2 f3)
    | (go_at_call 20; refine (num_any _ _).mono ?_; rintro e w' ⟨rfl, hw⟩; obtain rfl := hw.symm)
    | (go_at_call 18; go_must (refine (s6.binds ⟨#[1, 97, 1, 98, 0]⟩ 4 (by decide) [cfB] cfB1 1 rfl).mono ?_); rintro e w7 ⟨y7, c7, rfl, _, s7, _⟩; clear s6))
  go_ret
  exact ⟨rfl, s7.bel⟩

set_option maxRecDepth 20000 in
set_option maxHeartbeats 4000000 in
theorem cf7 (which x U e : Int) (w : World) (hU : IntKind.u64.wrap which = U) (hm : U.tmod 14 = 7) (m63 : bits .and .i64 x 63 = e) (e0 : 0 ≤ e) (e1 : e < 64) :
    Calls Try.prog 5 #[.int .i64 which, .int .i64 x] w fun e w' => e = .returned (.bool true) ∧ Below w.heap.size w w' := by
  have hno : mayD ⟨⟨#[1, 97, 1, 98, 0]⟩, [⟨#[1, 104, 0]⟩], [⟨⟨#[]⟩, ⟨#[1, 120, 0]⟩, 5, ⟨#[]⟩, 9⟩], 9⟩ ⟨#[1, 98, 0]⟩ 3 = false := by decide
  have HNO : Hid (mayD ⟨⟨#[1, 97, 1, 98, 0]⟩, [⟨#[1, 104, 0]⟩], [⟨⟨#[]⟩, ⟨#[1, 120, 0]⟩, 5, ⟨#[]⟩, 9⟩], 9⟩ ⟨#[1, 98, 0]⟩ 3 = false) := hno
  clear hno
  have t1 : True := trivial
  have t2 : True := trivial
  go_enter Try.func5, Try.ntmps5
  go_wp2_with (first
    | (go_at_call 8; go_must (refine (awake_any _).mono ?_); rintro e w1 ⟨rfl, b1⟩)
    | (go_at_call 10; go_must (refine (hints_any _).mono ?_); rintro e wh ⟨rfl, rfl⟩)
    | (go_at_call 9; go_must (refine (lw_hints (M := fun _ => False) b1 (fun _ h => h.elim)).mono ?_); rintro e w2 ⟨o, rfl, s2, _⟩; clear b1)
    | (go_at_call 22; go_must (refine (del_any ⟨#[1, 97, 1, 98, 0]⟩ 5 9 _).mono ?_); rintro e w3 ⟨X, Y, rfl, kx, ky, b3, hX, hY⟩; obtain ⟨BX, s3, kxa, kya, kz⟩ := del_box (cn := ⟨#[1, 97, 1, 98, 0]⟩) s2 kx ky b3 hX hY; have hp1 := s3.put (din_del (cn := ⟨#[1, 97, 1, 98, 0]⟩) kxa kya (by decide)) ⟨#[1, 98, 0]⟩ 3 (by decide) 0 cfE1 cfF cfP1; clear hX hY kx ky b3 s2 s3)
    | (go_at_call 11; have _t := t1; go_must (refine hp1.mono ?_); rintro e w4 ⟨rfl, s4, T4⟩; have kx4 := T4.blk kxa (fun h => h.2 BX.x); have ky4 := T4.blk kya (fun h => h.2 BX.y); have kz4 := T4.blk kz (fun h => h.2 BX.z); have q0 := kz4.cell 0; have q1 := kz4.cell 1; have q2 := kz4.cell 2; have q3 := kz4.cell 3; have f0 := kz4.frozen 0; have f1 := kz4.frozen 1; have f2 := kz4.frozen 2; have f3 := kz4.frozen 3; have s5 := s4.wrote BX.y 1 (.string ⟨#[1, 120, 0]⟩); have kx5 := kx4.other BX.xy 1 (.string ⟨#[1, 120, 0]⟩); have ky5 := ky4.set 1 (.string ⟨#[1, 120, 0]⟩); have kz5 := kz4.other BX.yz.symm 1 (.string ⟨#[1, 120, 0]⟩); have y1 := ky4.frozen 1; have y2 := ky4.cell 1; simp only [List.getElem?_toArray, List.getElem?_cons_succ, List.getElem?_cons_zero] at y2; have d5 : DIn (w4.setCell ⟨Y, 1, none⟩ (.string ⟨#[1, 120, 0]⟩)) ⟨⟨#[1, 97, 1, 98, 0]⟩, [⟨#[1, 104, 0]⟩], [⟨⟨#[]⟩, ⟨#[1, 120, 0]⟩, 5, ⟨#[]⟩, 9⟩], 9⟩ (.slice (some ⟨X, 0, none⟩) 1 1) (.slice (some ⟨Y, 0, none⟩) 1 1) := din_one kx5 ky5 (by decide) (by decide) (by decide); have z0 := kz5.cell 0; have z1 := kz5.cell 1; have z2 := kz5.cell 2; have z3 := kz5.cell 3; simp only [List.getElem?_toArray, List.getElem?_cons_succ, List.getElem?_cons_zero] at q0 q1 q2 q3 z0 z1 z2 z3; have hp2 := s5.put d5 ⟨#[1, 98, 0]⟩ 3 (by decide) 1500 (no_may HNO.out).1 cfF ((no_may HNO.out).2 _); clear t1 hp1 s4 s5 T4 kxa kya kz kx4 ky4 kz4 kz5 d5)
    | (go_at_call 11; have _t := t2; go_must (refine hp2.mono ?_); rintro e w6 ⟨rfl, s6, _⟩; clear t2 hp2 z0 z1 z2 z3 q0 q1 q2 q3 f0 f1 f2 f3)
    | (go_at_call 20; refine (num_any _ _).mono ?_; rintro e w' ⟨rfl, hw⟩; obtain rfl := hw.symm)
    | (go_at_call 18; go_must (refine (s6.binds ⟨#[1, 97, 1, 98, 0]⟩ 4 (by decide) [cfB] cfB1 1 rfl).mono ?_); rintro e w7 ⟨y7, c7, rfl, _, s7, _⟩; clear s6))
  go_ret
  exact ⟨rfl, s7.bel⟩

set_option maxRecDepth 20000 in
set_option maxHeartbeats 4000000 in
theorem cf8 (which x U e : Int) (w : World) (hU : IntKind.u64.wrap which = U) (hm : U.tmod 14 = 8) (m63 : bits .and .i64 x 63 = e) (e0 : 0 ≤ e) (e1 : e < 64) :
    Calls Try.prog 5 #[.int .i64 which, .int .i64 x] w fun e w' => e = .returned (.bool true) ∧ Below w.heap.size w w' := by
  have hno : mayD ⟨⟨#[1, 97, 1, 98, 0]⟩, [⟨#[1, 104, 0]⟩], [⟨⟨#[]⟩, ⟨#[1, 72, 0]⟩, (-(1 + e)), ⟨#[]⟩, 9⟩], 9⟩ ⟨#[1, 98, 0]⟩ 3 = false := no_wide (by unfold wideB; rw [decide_eq_false (by omega)]; rfl)
  have HNO : Hid (mayD ⟨⟨#[1, 97, 1, 98, 0]⟩, [⟨#[1, 104, 0]⟩], [⟨⟨#[]⟩, ⟨#[1, 72, 0]⟩, (-(1 + e)), ⟨#[]⟩, 9⟩], 9⟩ ⟨#[1, 98, 0]⟩ 3 = false) := hno
  clear hno
  have t1 : True := trivial
  have t2 : True := trivial
  go_enter Try.func5, Try.ntmps5
  go_wp2_with (first
    | (go_at_call 8; go_must (refine (awake_any _).mono ?_); rintro e w1 ⟨rfl, b1⟩)
    | (go_at_call 10; go_must (refine (hints_any _).mono ?_); rintro e wh ⟨rfl, rfl⟩)
    | (go_at_call 9; go_must (refine (lw_hints (M := fun _ => False) b1 (fun _ h => h.elim)).mono ?_); rintro e w2 ⟨o, rfl, s2, _⟩; clear b1)
    | (go_at_call 22; go_must (refine (del_any ⟨#[1, 97, 1, 98, 0]⟩ 5 9 _).mono ?_); rintro e w3 ⟨X, Y, rfl, kx, ky, b3, hX, hY⟩; obtain ⟨BX, s3, kxa, kya, kz⟩ := del_box (cn := ⟨#[1, 97, 1, 98, 0]⟩) s2 kx ky b3 hX hY; have hp1 := s3.put (din_del (cn := ⟨#[1, 97, 1, 98, 0]⟩) kxa kya (by decide)) ⟨#[1, 98, 0]⟩ 3 (by decide) 0 cfE1 cfF cfP1; clear hX hY kx ky b3 s2 s3)
    | (go_at_call 11; have _t := t1; go_must (refine hp1.mono ?_); rintro e w4 ⟨rfl, s4, T4⟩; have kx4 := T4.blk kxa (fun h => h.2 BX.x); have ky4 := T4.blk kya (fun h => h.2 BX.y); have kz4 := T4.blk kz (fun h => h.2 BX.z); have q0 := kz4.cell 0; have q1 := kz4.cell 1; have q2 := kz4.cell 2; have q3 := kz4.cell 3; have f0 := kz4.frozen 0; have f1 := kz4.frozen 1; have f2 := kz4.frozen 2; have f3 := kz4.frozen 3; have s5 := s4.wrote BX.y 2 (.int .i64 (-(1 + e))); have kx5 := kx4.other BX.xy 2 (.int .i64 (-(1 + e))); have ky5 := ky4.set 2 (.int .i64 (-(1 + e))); have kz5 := kz4.other BX.yz.symm 2 (.int .i64 (-(1 + e))); have y1 := ky4.frozen 2; have y2 := ky4.cell 2; simp only [List.getElem?_toArray, List.getElem?_cons_succ, List.getElem?_cons_zero] at y2; have d5 : DIn (w4.setCell ⟨Y, 2, none⟩ (.int .i64 (-(1 + e)))) ⟨⟨#[1, 97, 1, 98, 0]⟩, [⟨#[1, 104, 0]⟩], [⟨⟨#[]⟩, ⟨#[1, 72, 0]⟩, (-(1 + e)), ⟨#[]⟩, 9⟩], 9⟩ (.slice (some ⟨X, 0, none⟩) 1 1) (.slice (some ⟨Y, 0, none⟩) 1 1) := din_one kx5 ky5 (by decide) (by decide) (by decide); have z0 := kz5.cell 0; have z1 := kz5.cell 1; have z2 := kz5.cell 2; have z3 := kz5.cell 3; simp only [List.getElem?_toArray, List.getElem?_cons_succ, List.getElem?_cons_zero] at q0 q1 q2 q3 z0 z1 z2 z3; have hp2 := s5.put d5 ⟨#[1, 98, 0]⟩ 3 (by decide) 1500 (no_may HNO.out).1 cfF ((no_may HNO.out).2 _); clear t1 hp1 s4 s5 T4 kxa kya kz kx4 ky4 kz4 kz5 d5)
    | (go_at_call 11; have _t := t2; go_must (refine hp2.mono ?_); rintro e w6 ⟨rfl, s6, _⟩; clear t2 hp2 z0 z1 z2 z3 q0 q1 q2 q3 f0 f1 f2 f3)
    | (go_at_call 20; refine (num_any _ _).mono ?_; rintro e w' ⟨rfl, hw⟩; obtain rfl := hw.symm)
    | (go_at_call 18; go_must (refine (s6.binds ⟨#[1, 97, 1, 98, 0]⟩ 4 (by decide) [cfB] cfB1 1 rfl).mono ?_); rintro e w7 ⟨y7, c7, rfl, _, s7, _⟩; clear s6))
  go_ret
  exact ⟨rfl, s7.bel⟩

set_option maxRecDepth 20000 in
set_option maxHeartbeats 4000000 in
theorem cf9 (which x U e : Int) (w : World) (hU : IntKind.u64.wrap which = U) (hm : U.tmod 14 = 9) (m63 : bits .and .i64 x 63 = e) (e0 : 0 ≤ e) (e1 : e < 64) :
    Calls Try.prog 5 #[.int .i64 which, .int .i64 x] w fun e w' => e = .returned (.bool true) ∧ Below w.heap.size w w' := by
  have hno : mayD ⟨⟨#[1, 97, 1, 98, 0]⟩, [⟨#[1, 104, 0]⟩], [⟨⟨#[]⟩, ⟨#[1, 72, 0]⟩, (4294967295 + (1 + e)), ⟨#[]⟩, 9⟩], 9⟩ ⟨#[1, 98, 0]⟩ 3 = false := no_wide (by unfold wideB; rw [decide_eq_false (p := 4294967295 + (1 + e) ≤ 4294967295) (by omega), Bool.and_false])
  have HNO : Hid (mayD ⟨⟨#[1, 97, 1, 98, 0]⟩, [⟨#[1, 104, 0]⟩], [⟨⟨#[]⟩, ⟨#[1, 72, 0]⟩, (4294967295 + (1 + e)), ⟨#[]⟩, 9⟩], 9⟩ ⟨#[1, 98, 0]⟩ 3 = false) := hno
  clear hno
  have t1 : True := trivial
  have t2 : True := trivial
  go_enter Try.func5, Try.ntmps5
  go_wp2_with (first
    | (go_at_call 8; go_must (refine (awake_any _).mono ?_); rintro e w1 ⟨rfl, b1⟩)
    | (go_at_call 10; go_must (refine (hints_any _).mono ?_); rintro e wh ⟨rfl, rfl⟩)
    | (go_at_call 9; go_must (refine (lw_hints (M := fun _ => False) b1 (fun _ h => h.elim)).mono ?_); rintro e w2 ⟨o, rfl, s2, _⟩; clear b1)
    | (go_at_call 22; go_must (refine (del_any ⟨#[1, 97, 1, 98, 0]⟩ 5 9 _).mono ?_); rintro e w3 ⟨X, Y, rfl, kx, ky, b3, hX, hY⟩; obtain ⟨BX, s3, kxa, kya, kz⟩ := del_box (cn := ⟨#[1, 97, 1, 98, 0]⟩) s2 kx ky b3 hX hY; have hp1 := s3.put (din_del (cn := ⟨#[1, 97, 1, 98, 0]⟩) kxa kya (by decide)) ⟨#[1, 98, 0]⟩ 3 (by decide) 0 cfE1 cfF cfP1; clear hX hY kx ky b3 s2 s3)
    | (go_at_call 11; have _t := t1; go_must (refine hp1.mono ?_); rintro e w4 ⟨rfl, s4, T4⟩; have kx4 := T4.blk kxa (fun h => h.2 BX.x); have ky4 := T4.blk kya (fun h => h.2 BX.y); have kz4 := T4.blk kz (fun h => h.2 BX.z); have q0 := kz4.cell 0; have q1 := kz4.cell 1; have q2 := kz4.cell 2; have q3 := kz4.cell 3; have f0 := kz4.frozen 0; have f1 := kz4.frozen 1; have f2 := kz4.frozen 2; have f3 := kz4.frozen 3; have s5 := s4.wrote BX.y 2 (.int .i64 (4294967295 + (1 + e))); have kx5 := kx4.other BX.xy 2 (.int .i64 (4294967295 + (1 + e))); have ky5 := ky4.set 2 (.int .i64 (4294967295 + (1 + e))); have kz5 := kz4.other BX.yz.symm 2 (.int .i64 (4294967295 + (1 + e))); have y1 := ky4.frozen 2; have y2 := ky4.cell 2; simp only [List.getElem?_toArray, List.getElem?_cons_succ, List.getElem?_cons_zero] at y2; have d5 : DIn (w4.setCell ⟨Y, 2, none⟩ (.int .i64 (4294967295 + (1 + e)))) ⟨⟨#[1, 97, 1, 98, 0]⟩, [⟨#[1, 104, 0]⟩], [⟨⟨#[]⟩, ⟨#[1, 72, 0]⟩, (4294967295 + (1 + e)), ⟨#[]⟩, 9⟩], 9⟩ (.slice (some ⟨X, 0, none⟩) 1 1) (.slice (some ⟨Y, 0, none⟩) 1 1) := din_one kx5 ky5 (by decide) (by decide) (by decide); have z0 := kz5.cell 0; have z1 := kz5.cell 1; have z2 := kz5.cell 2; have z3 := kz5.cell 3; simp only [List.getElem?_toArray, List.getElem?_cons_succ, List.getElem?_cons_zero] at q0 q1 q2 q3 z0 z1 z2 z3; have hp2 := s5.put d5 ⟨#[1, 98, 0]⟩ 3 (by decide) 1500 (no_may HNO.out).1 cfF ((no_may HNO.out).2 _); clear t1 hp1 s4 s5 T4 kxa kya kz kx4 ky4 kz4 kz5 d5)
    | (go_at_call 11; have _t := t2; go_must (refine hp2.mono ?_); rintro e w6 ⟨rfl, s6, _⟩; clear t2 hp2 z0 z1 z2 z3 q0 q1 q2 q3 f0 f1 f2 f3)
    | (go_at_call 20; refine (num_any _ _).mono ?_; rintro e w' ⟨rfl, hw⟩; obtain rfl := hw.symm)
    | (go_at_call 18; go_must (refine (s6.binds ⟨#[1, 97, 1, 98, 0]⟩ 4 (by decide) [cfB] cfB1 1 rfl).mono ?_); rintro e w7 ⟨y7, c7, rfl, _, s7, _⟩; clear s6))
  go_ret
  exact ⟨rfl, s7.bel⟩

set_option maxRecDepth 20000 in
set_option maxHeartbeats 4000000 in
theorem cf12 (which x U e : Int) (w : World) (hU : IntKind.u64.wrap which = U) (hm : U.tmod 14 = 12) (m63 : bits .and .i64 x 63 = e) (e0 : 0 ≤ e) (e1 : e < 64) :
    Calls Try.prog 5 #[.int .i64 which, .int .i64 x] w fun e w' => e = .returned (.bool true) ∧ Below w.heap.size w w' := by
  have hno : mayD (delD ⟨#[1, 97, 1, 98, 0]⟩ 5 9) ⟨#[1, 98, 0]⟩ (-(1 + e)) = false := no_now (.inl (by omega))
  have HNO : Hid (mayD (delD ⟨#[1, 97, 1, 98, 0]⟩ 5 9) ⟨#[1, 98, 0]⟩ (-(1 + e)) = false) := hno
  clear hno
  have t1 : True := trivial
  have t2 : True := trivial
  go_enter Try.func5, Try.ntmps5
  go_wp2_with (first
    | (go_at_call 8; go_must (refine (awake_any _).mono ?_); rintro e w1 ⟨rfl, b1⟩)
    | (go_at_call 10; go_must (refine (hints_any _).mono ?_); rintro e wh ⟨rfl, rfl⟩)
    | (go_at_call 9; go_must (refine (lw_hints (M := fun _ => False) b1 (fun _ h => h.elim)).mono ?_); rintro e w2 ⟨o, rfl, s2, _⟩; clear b1)
    | (go_at_call 22; go_must (refine (del_any ⟨#[1, 97, 1, 98, 0]⟩ 5 9 _).mono ?_); rintro e w3 ⟨X, Y, rfl, kx, ky, b3, hX, hY⟩; obtain ⟨BX, s3, kxa, kya, kz⟩ := del_box (cn := ⟨#[1, 97, 1, 98, 0]⟩) s2 kx ky b3 hX hY; have hp1 := s3.put (din_del (cn := ⟨#[1, 97, 1, 98, 0]⟩) kxa kya (by decide)) ⟨#[1, 98, 0]⟩ 3 (by decide) 0 cfE1 cfF cfP1; clear hX hY kx ky b3 s2 s3)
    | (go_at_call 11; have _t := t1; go_must (refine hp1.mono ?_); rintro e w4 ⟨rfl, s4, T4⟩; have kx4 := T4.blk kxa (fun h => h.2 BX.x); have ky4 := T4.blk kya (fun h => h.2 BX.y); have kz4 := T4.blk kz (fun h => h.2 BX.z); have q0 := kz4.cell 0; have q1 := kz4.cell 1; have q2 := kz4.cell 2; have q3 := kz4.cell 3; have f0 := kz4.frozen 0; have f1 := kz4.frozen 1; have f2 := kz4.frozen 2; have f3 := kz4.frozen 3; have s5 := s4; have kz5 := kz4; have d5 : DIn w4 (delD ⟨#[1, 97, 1, 98, 0]⟩ 5 9) (.slice (some ⟨X, 0, none⟩) 1 1) (.slice (some ⟨Y, 0, none⟩) 1 1) := (din_del kx4 ky4 (by decide)); have z0 := kz5.cell 0; have z1 := kz5.cell 1; have z2 := kz5.cell 2; have z3 := kz5.cell 3; simp only [List.getElem?_toArray, List.getElem?_cons_succ, List.getElem?_cons_zero] at q0 q1 q2 q3 z0 z1 z2 z3; have hp2 := s5.put d5 ⟨#[1, 98, 0]⟩ (-(1 + e)) (by decide) 1500 (no_may HNO.out).1 cfF ((no_may HNO.out).2 _); clear t1 hp1 s4 s5 T4 kxa kya kz kx4 ky4 kz4 kz5 d5)
    | (go_at_call 11; have _t := t2; go_must (refine hp2.mono ?_); rintro e w6 ⟨rfl, s6, _⟩; clear t2 hp2 z0 z1 z2 z3 q0 q1 q2 q3 f0 f1 f2 f3)
    | (go_at_call 20; refine (num_any _ _).mono ?_; rintro e w' ⟨rfl, hw⟩; obtain rfl := hw.symm)
    | (go_at_call 18; go_must (refine (s6.binds ⟨#[1, 97, 1, 98, 0]⟩ 4 (by decide) [cfB] cfB1 1 rfl).mono ?_); rintro e w7 ⟨y7, c7, rfl, _, s7, _⟩; clear s6))
  go_ret
  exact ⟨rfl, s7.bel⟩

set_option maxRecDepth 20000 in
set_option maxHeartbeats 4000000 in
theorem cf13 (which x U e : Int) (w : World) (hU : IntKind.u64.wrap which = U) (hm : U.tmod 14 = 13) (m63 : bits .and .i64 x 63 = e) (e0 : 0 ≤ e) (e1 : e < 64) :
    Calls Try.prog 5 #[.int .i64 which, .int .i64 x] w fun e w' => e = .returned (.bool true) ∧ Below w.heap.size w w' := by
  have hno : mayD (delD ⟨#[1, 97, 1, 98, 0]⟩ 5 9) ⟨#[1, 98, 0]⟩ (1099511627776 + (1 + e)) = false := no_now (.inr (by omega))
  have HNO : Hid (mayD (delD ⟨#[1, 97, 1, 98, 0]⟩ 5 9) ⟨#[1, 98, 0]⟩ (1099511627776 + (1 + e)) = false) := hno
  clear hno
  have t1 : True := trivial
  have t2 : True := trivial
  go_enter Try.func5, Try.ntmps5
  go_wp2_with (first
    | (go_at_call 8; go_must (refine (awake_any _).mono ?_); rintro e w1 ⟨rfl, b1⟩)
    | (go_at_call 10; go_must (refine (hints_any _).mono ?_); rintro e wh ⟨rfl, rfl⟩)
    | (go_at_call 9; go_must (refine (lw_hints (M := fun _ => False) b1 (fun _ h => h.elim)).mono ?_); rintro e w2 ⟨o, rfl, s2, _⟩; clear b1)
    | (go_at_call 22; go_must (refine (del_any ⟨#[1, 97, 1, 98, 0]⟩ 5 9 _).mono ?_); rintro e w3 ⟨X, Y, rfl, kx, ky, b3, hX, hY⟩; obtain ⟨BX, s3, kxa, kya, kz⟩ := del_box (cn := ⟨#[1, 97, 1, 98, 0]⟩) s2 kx ky b3 hX hY; have hp1 := s3.put (din_del (cn := ⟨#[1, 97, 1, 98, 0]⟩) kxa kya (by decide)) ⟨#[1, 98, 0]⟩ 3 (by decide) 0 cfE1 cfF cfP1; clear hX hY kx ky b3 s2 s3)
    | (go_at_call 11; have _t := t1; go_must (refine hp1.mono ?_); rintro e w4 ⟨rfl, s4, T4⟩; have kx4 := T4.blk kxa (fun h => h.2 BX.x); have ky4 := T4.blk kya (fun h => h.2 BX.y); have kz4 := T4.blk kz (fun h => h.2 BX.z); have q0 := kz4.cell 0; have q1 := kz4.cell 1; have q2 := kz4.cell 2; have q3 := kz4.cell 3; have f0 := kz4.frozen 0; have f1 := kz4.frozen 1; have f2 := kz4.frozen 2; have f3 := kz4.frozen 3; have s5 := s4; have kz5 := kz4; have d5 : DIn w4 (delD ⟨#[1, 97, 1, 98, 0]⟩ 5 9) (.slice (some ⟨X, 0, none⟩) 1 1) (.slice (some ⟨Y, 0, none⟩) 1 1) := (din_del kx4 ky4 (by decide)); have z0 := kz5.cell 0; have z1 := kz5.cell 1; have z2 := kz5.cell 2; have z3 := kz5.cell 3; simp only [List.getElem?_toArray, List.getElem?_cons_succ, List.getElem?_cons_zero] at q0 q1 q2 q3 z0 z1 z2 z3; have hp2 := s5.put d5 ⟨#[1, 98, 0]⟩ (1099511627776 + (1 + e)) (by decide) 1500 (no_may HNO.out).1 cfF ((no_may HNO.out).2 _); clear t1 hp1 s4 s5 T4 kxa kya kz kx4 ky4 kz4 kz5 d5)
    | (go_at_call 11; have _t := t2; go_must (refine hp2.mono ?_); rintro e w6 ⟨rfl, s6, _⟩; clear t2 hp2 z0 z1 z2 z3 q0 q1 q2 q3 f0 f1 f2 f3)
    | (go_at_call 20; refine (num_any _ _).mono ?_; rintro e w' ⟨rfl, hw⟩; obtain rfl := hw.symm)
    | (go_at_call 18; go_must (refine (s6.binds ⟨#[1, 97, 1, 98, 0]⟩ 4 (by decide) [cfB] cfB1 1 rfl).mono ?_); rintro e w7 ⟨y7, c7, rfl, _, s7, _⟩; clear s6))
  go_ret
  exact ⟨rfl, s7.bel⟩

end Cu
end Go.Proofs.Ytnjgdfmldjgloaa
