/- CutsForms' ways 0 to 4. -/
import Derived.Test.YtnjgdfmldjgloaaXP16
namespace Go.Proofs.Ytnjgdfmldjgloaa
open Go.RowKit
open Pl
namespace Cu

def cfF : List Ct := [⟨⟨#[1, 97, 1, 98, 0]⟩, [⟨#[1, 104, 0]⟩], ⟨#[1, 98, 0]⟩, 12, [⟨0, 5, 12⟩]⟩]
def cfB : Bn := ⟨⟨#[1, 97, 1, 98, 0]⟩, ⟨#[1, 104, 0]⟩, 5, ⟨#[1, 98, 0]⟩, 12⟩
theorem cfE1 : errC (delD ⟨#[1, 97, 1, 98, 0]⟩ 5 9) ⟨#[1, 98, 0]⟩ 3 = 0 := by decide
theorem cfP1 : putC [] (delD ⟨#[1, 97, 1, 98, 0]⟩ 5 9) ⟨#[1, 98, 0]⟩ 3 = cfF := by rfl
theorem cfB1 : bindF Hb2 cfF ⟨#[1, 97, 1, 98, 0]⟩ 4 = [cfB] := by rfl
theorem no_wide {c g x y fr : ByteArray} {hs : List ByteArray} {a u t now : Int} (h : wideB a = false) : mayD ⟨c, hs, [⟨x, g, a, y, u⟩], t⟩ fr now = false := by
  unfold mayD glueOk
  simp [gOk, h]
theorem no_now {d : Dg} {fr : ByteArray} {now : Int} (h : now < 0 ∨ 1099511627776 < now) : mayD d fr now = false := by
  cases hm : mayD d fr now with
  | false => rfl
  | true =>
    obtain ⟨_, _, _, h4, h5⟩ := mayD_parts hm
    omega

set_option maxRecDepth 20000 in
set_option maxHeartbeats 4000000 in
theorem cf0 (which x U e : Int) (w : World) (hU : IntKind.u64.wrap which = U) (hm : U.tmod 14 = 0) (m63 : bits .and .i64 x 63 = e) (e0 : 0 ≤ e) (e1 : e < 64) :
    Calls Try.prog 5 #[.int .i64 which, .int .i64 x] w fun e w' => e = .returned (.bool true) ∧ Below w.heap.size w w' := by
  have hno : mayD (delD ⟨#[97]⟩ 5 9) ⟨#[1, 98, 0]⟩ 3 = false := by decide
  have HNO : Hid (mayD (delD ⟨#[97]⟩ 5 9) ⟨#[1, 98, 0]⟩ 3 = false) := hno
  clear hno
  have t1 : True := trivial
  have t2 : True := trivial
  go_enter Try.func5, Try.ntmps5
  go_wp2_with (first
    | (go_at_call 8; go_must (refine (awake_any _).mono ?_); rintro e w1 ⟨rfl, b1⟩)
    | (go_at_call 10; go_must (refine (hints_any _).mono ?_); rintro e wh ⟨rfl, rfl⟩)
    | (go_at_call 9; go_must (refine (lw_hints (M := fun _ => False) b1 (fun _ h => h.elim)).mono ?_); rintro e w2 ⟨o, rfl, s2, _⟩; clear b1)
    | (go_at_call 22; go_must (refine (del_any ⟨#[1, 97, 1, 98, 0]⟩ 5 9 _).mono ?_); rintro e w3 ⟨X, Y, rfl, kx, ky, b3, hX, hY⟩; obtain ⟨BX, s3, kxa, kya, kz⟩ := del_box (cn := ⟨#[1, 97, 1, 98, 0]⟩) s2 kx ky b3 hX hY; have hp1 := s3.put (din_del (cn := ⟨#[1, 97, 1, 98, 0]⟩) kxa kya (by decide)) ⟨#[1, 98, 0]⟩ 3 (by decide) 0 cfE1 cfF cfP1; clear hX hY kx ky b3 s2 s3)
    | (go_at_call 11; have _t := t1; go_must (refine hp1.mono ?_); rintro e w4 ⟨rfl, s4, T4⟩; have kx4 := T4.blk kxa (fun h => h.2 BX.x); have ky4 := T4.blk kya (fun h => h.2 BX.y); have kz4 := T4.blk kz (fun h => h.2 BX.z); have q0 := kz4.cell 0; have q1 := kz4.cell 1; have q2 := kz4.cell 2; have q3 := kz4.cell 3; have f0 := kz4.frozen 0; have f1 := kz4.frozen 1; have f2 := kz4.frozen 2; have f3 := kz4.frozen 3; have s5 := s4.wrote BX.z 0 (.string ⟨#[97]⟩); have kx5 := kx4.other BX.xz 0 (.string ⟨#[97]⟩); have ky5 := ky4.other BX.yz 0 (.string ⟨#[97]⟩); have kz5 := kz4.set 0 (.string ⟨#[97]⟩); have d5 := din_del (cn := ⟨#[97]⟩) kx5 ky5 (by decide); have z0 := kz5.cell 0; have z1 := kz5.cell 1; have z2 := kz5.cell 2; have z3 := kz5.cell 3; simp only [List.setIfInBounds_toArray, List.set_cons_zero] at z0 z1 z2 z3; simp only [List.getElem?_toArray, List.getElem?_cons_succ, List.getElem?_cons_zero] at q0 q1 q2 q3 z0 z1 z2 z3; have hp2 := s5.put d5 ⟨#[1, 98, 0]⟩ 3 (by decide) 1500 (no_may HNO.out).1 cfF ((no_may HNO.out).2 _); clear t1 hp1 s4 s5 T4 kxa kya kz kx4 ky4 kz4 kz5 d5)
    | (go_at_call 11; have _t := t2; go_must (refine hp2.mono ?_); rintro e w6 ⟨rfl, s6, _⟩; clear t2 hp2 z0 z1 z2 z3 q0 q1 q2 q3 f0 f1 f2 f3)
    | (go_at_call 20; refine (num_any _ _).mono ?_; rintro e w' ⟨rfl, hw⟩; obtain rfl := hw.symm)
    | (go_at_call 18; go_must (refine (s6.binds ⟨#[1, 97, 1, 98, 0]⟩ 4 (by decide) [cfB] cfB1 1 rfl).mono ?_); rintro e w7 ⟨y7, c7, rfl, _, s7, _⟩; clear s6))
  go_ret
  exact ⟨rfl, s7.bel⟩

set_option maxRecDepth 20000 in
set_option maxHeartbeats 4000000 in
theorem cf1 (which x U e : Int) (w : World) (hU : IntKind.u64.wrap which = U) (hm : U.tmod 14 = 1) (m63 : bits .and .i64 x 63 = e) (e0 : 0 ≤ e) (e1 : e < 64) :
    Calls Try.prog 5 #[.int .i64 which, .int .i64 x] w fun e w' => e = .returned (.bool true) ∧ Below w.heap.size w w' := by
  have hno : mayD (delD ⟨#[1, 97, 1, 98, 0]⟩ 5 9) ⟨#[]⟩ 3 = false := by decide
  have HNO : Hid (mayD (delD ⟨#[1, 97, 1, 98, 0]⟩ 5 9) ⟨#[]⟩ 3 = false) := hno
  clear hno
  have t1 : True := trivial
  have t2 : True := trivial
  go_enter Try.func5, Try.ntmps5
  go_wp2_with (first
    | (go_at_call 8; go_must (refine (awake_any _).mono ?_); rintro e w1 ⟨rfl, b1⟩)
    | (go_at_call 10; go_must (refine (hints_any _).mono ?_); rintro e wh ⟨rfl, rfl⟩)
    | (go_at_call 9; go_must (refine (lw_hints (M := fun _ => False) b1 (fun _ h => h.elim)).mono ?_); rintro e w2 ⟨o, rfl, s2, _⟩; clear b1)
    | (go_at_call 22; go_must (refine (del_any ⟨#[1, 97, 1, 98, 0]⟩ 5 9 _).mono ?_); rintro e w3 ⟨X, Y, rfl, kx, ky, b3, hX, hY⟩; obtain ⟨BX, s3, kxa, kya, kz⟩ := del_box (cn := ⟨#[1, 97, 1, 98, 0]⟩) s2 kx ky b3 hX hY; have hp1 := s3.put (din_del (cn := ⟨#[1, 97, 1, 98, 0]⟩) kxa kya (by decide)) ⟨#[1, 98, 0]⟩ 3 (by decide) 0 cfE1 cfF cfP1; clear hX hY kx ky b3 s2 s3)
    | (go_at_call 11; have _t := t1; go_must (refine hp1.mono ?_); rintro e w4 ⟨rfl, s4, T4⟩; have kx4 := T4.blk kxa (fun h => h.2 BX.x); have ky4 := T4.blk kya (fun h => h.2 BX.y); have kz4 := T4.blk kz (fun h => h.2 BX.z); have q0 := kz4.cell 0; have q1 := kz4.cell 1; have q2 := kz4.cell 2; have q3 := kz4.cell 3; have f0 := kz4.frozen 0; have f1 := kz4.frozen 1; have f2 := kz4.frozen 2; have f3 := kz4.frozen 3; have s5 := s4; have kz5 := kz4; have d5 : DIn w4 (delD ⟨#[1, 97, 1, 98, 0]⟩ 5 9) (.slice (some ⟨X, 0, none⟩) 1 1) (.slice (some ⟨Y, 0, none⟩) 1 1) := (din_del kx4 ky4 (by decide)); have z0 := kz5.cell 0; have z1 := kz5.cell 1; have z2 := kz5.cell 2; have z3 := kz5.cell 3; simp only [List.getElem?_toArray, List.getElem?_cons_succ, List.getElem?_cons_zero] at q0 q1 q2 q3 z0 z1 z2 z3; have hp2 := s5.put d5 ⟨#[]⟩ 3 (by decide) 1500 (no_may HNO.out).1 cfF ((no_may HNO.out).2 _); clear t1 hp1 s4 s5 T4 kxa kya kz kx4 ky4 kz4 kz5 d5)
    | (go_at_call 11; have _t := t2; go_must (refine hp2.mono ?_); rintro e w6 ⟨rfl, s6, _⟩; clear t2 hp2 z0 z1 z2 z3 q0 q1 q2 q3 f0 f1 f2 f3)
    | (go_at_call 20; refine (num_any _ _).mono ?_; rintro e w' ⟨rfl, hw⟩; obtain rfl := hw.symm)
    | (go_at_call 18; go_must (refine (s6.binds ⟨#[1, 97, 1, 98, 0]⟩ 4 (by decide) [cfB] cfB1 1 rfl).mono ?_); rintro e w7 ⟨y7, c7, rfl, _, s7, _⟩; clear s6))
  go_ret
  exact ⟨rfl, s7.bel⟩

set_option maxRecDepth 20000 in
set_option maxHeartbeats 4000000 in
theorem cf2 (which x U e : Int) (w : World) (hU : IntKind.u64.wrap which = U) (hm : U.tmod 14 = 2) (m63 : bits .and .i64 x 63 = e) (e0 : 0 ≤ e) (e1 : e < 64) :
    Calls Try.prog 5 #[.int .i64 which, .int .i64 x] w fun e w' => e = .returned (.bool true) ∧ Below w.heap.size w w' := by
  have hno : mayD (delD ⟨#[1, 97, 1, 98, 0]⟩ 5 9) ⟨#[1, 97, 1, 66, 0]⟩ 3 = false := by decide
  have HNO : Hid (mayD (delD ⟨#[1, 97, 1, 98, 0]⟩ 5 9) ⟨#[1, 97, 1, 66, 0]⟩ 3 = false) := hno
  clear hno
  have t1 : True := trivial
  have t2 : True := trivial
  go_enter Try.func5, Try.ntmps5
  go_wp2_with (first
    | (go_at_call 8; go_must (refine (awake_any _).mono ?_); rintro e w1 ⟨rfl, b1⟩)
    | (go_at_call 10; go_must (refine (hints_any _).mono ?_); rintro e wh ⟨rfl, rfl⟩)
    | (go_at_call 9; go_must (refine (lw_hints (M := fun _ => False) b1 (fun _ h => h.elim)).mono ?_); rintro e w2 ⟨o, rfl, s2, _⟩; clear b1)
    | (go_at_call 22; go_must (refine (del_any ⟨#[1, 97, 1, 98, 0]⟩ 5 9 _).mono ?_); rintro e w3 ⟨X, Y, rfl, kx, ky, b3, hX, hY⟩; obtain ⟨BX, s3, kxa, kya, kz⟩ := del_box (cn := ⟨#[1, 97, 1, 98, 0]⟩) s2 kx ky b3 hX hY; have hp1 := s3.put (din_del (cn := ⟨#[1, 97, 1, 98, 0]⟩) kxa kya (by decide)) ⟨#[1, 98, 0]⟩ 3 (by decide) 0 cfE1 cfF cfP1; clear hX hY kx ky b3 s2 s3)
    | (go_at_call 11; have _t := t1; go_must (refine hp1.mono ?_); rintro e w4 ⟨rfl, s4, T4⟩; have kx4 := T4.blk kxa (fun h => h.2 BX.x); have ky4 := T4.blk kya (fun h => h.2 BX.y); have kz4 := T4.blk kz (fun h => h.2 BX.z); have q0 := kz4.cell 0; have q1 := kz4.cell 1; have q2 := kz4.cell 2; have q3 := kz4.cell 3; have f0 := kz4.frozen 0; have f1 := kz4.frozen 1; have f2 := kz4.frozen 2; have f3 := kz4.frozen 3; have s5 := s4; have kz5 := kz4; have d5 : DIn w4 (delD ⟨#[1, 97, 1, 98, 0]⟩ 5 9) (.slice (some ⟨X, 0, none⟩) 1 1) (.slice (some ⟨Y, 0, none⟩) 1 1) := (din_del kx4 ky4 (by decide)); have z0 := kz5.cell 0; have z1 := kz5.cell 1; have z2 := kz5.cell 2; have z3 := kz5.cell 3; simp only [List.getElem?_toArray, List.getElem?_cons_succ, List.getElem?_cons_zero] at q0 q1 q2 q3 z0 z1 z2 z3; have hp2 := s5.put d5 ⟨#[1, 97, 1, 66, 0]⟩ 3 (by decide) 1500 (no_may HNO.out).1 cfF ((no_may HNO.out).2 _); clear t1 hp1 s4 s5 T4 kxa kya kz kx4 ky4 kz4 kz5 d5)
    | (go_at_call 11; have _t := t2; go_must (refine hp2.mono ?_); rintro e w6 ⟨rfl, s6, _⟩; clear t2 hp2 z0 z1 z2 z3 q0 q1 q2 q3 f0 f1 f2 f3)
    | (go_at_call 20; refine (num_any _ _).mono ?_; rintro e w' ⟨rfl, hw⟩; obtain rfl := hw.symm)
    | (go_at_call 18; go_must (refine (s6.binds ⟨#[1, 97, 1, 98, 0]⟩ 4 (by decide) [cfB] cfB1 1 rfl).mono ?_); rintro e w7 ⟨y7, c7, rfl, _, s7, _⟩; clear s6))
  go_ret
  exact ⟨rfl, s7.bel⟩

set_option maxRecDepth 20000 in
set_option maxHeartbeats 4000000 in
theorem cf3 (which x U e : Int) (w : World) (hU : IntKind.u64.wrap which = U) (hm : U.tmod 14 = 3) (m63 : bits .and .i64 x 63 = e) (e0 : 0 ≤ e) (e1 : e < 64) :
    Calls Try.prog 5 #[.int .i64 which, .int .i64 x] w fun e w' => e = .returned (.bool true) ∧ Below w.heap.size w w' := by
  have hno : mayD (delD ⟨#[1, 97, 1, 98, 0]⟩ 5 9) ⟨#[1, 99, 0]⟩ 3 = false := by decide
  have HNO : Hid (mayD (delD ⟨#[1, 97, 1, 98, 0]⟩ 5 9) ⟨#[1, 99, 0]⟩ 3 = false) := hno
  clear hno
  have t1 : True := trivial
  have t2 : True := trivial
  go_enter Try.func5, Try.ntmps5
  go_wp2_with (first
    | (go_at_call 8; go_must (refine (awake_any _).mono ?_); rintro e w1 ⟨rfl, b1⟩)
    | (go_at_call 10; go_must (refine (hints_any _).mono ?_); rintro e wh ⟨rfl, rfl⟩)
    | (go_at_call 9; go_must (refine (lw_hints (M := fun _ => False) b1 (fun _ h => h.elim)).mono ?_); rintro e w2 ⟨o, rfl, s2, _⟩; clear b1)
    | (go_at_call 22; go_must (refine (del_any ⟨#[1, 97, 1, 98, 0]⟩ 5 9 _).mono ?_); rintro e w3 ⟨X, Y, rfl, kx, ky, b3, hX, hY⟩; obtain ⟨BX, s3, kxa, kya, kz⟩ := del_box (cn := ⟨#[1, 97, 1, 98, 0]⟩) s2 kx ky b3 hX hY; have hp1 := s3.put (din_del (cn := ⟨#[1, 97, 1, 98, 0]⟩) kxa kya (by decide)) ⟨#[1, 98, 0]⟩ 3 (by decide) 0 cfE1 cfF cfP1; clear hX hY kx ky b3 s2 s3)
    | (go_at_call 11; have _t := t1; go_must (refine hp1.mono ?_); rintro e w4 ⟨rfl, s4, T4⟩; have kx4 := T4.blk kxa (fun h => h.2 BX.x); have ky4 := T4.blk kya (fun h => h.2 BX.y); have kz4 := T4.blk kz (fun h => h.2 BX.z); have q0 := kz4.cell 0; have q1 := kz4.cell 1; have q2 := kz4.cell 2; have q3 := kz4.cell 3; have f0 := kz4.frozen 0; have f1 := kz4.frozen 1; have f2 := kz4.frozen 2; have f3 := kz4.frozen 3; have s5 := s4; have kz5 := kz4; have d5 : DIn w4 (delD ⟨#[1, 97, 1, 98, 0]⟩ 5 9) (.slice (some ⟨X, 0, none⟩) 1 1) (.slice (some ⟨Y, 0, none⟩) 1 1) := (din_del kx4 ky4 (by decide)); have z0 := kz5.cell 0; have z1 := kz5.cell 1; have z2 := kz5.cell 2; have z3 := kz5.cell 3; simp only [List.getElem?_toArray, List.getElem?_cons_succ, List.getElem?_cons_zero] at q0 q1 q2 q3 z0 z1 z2 z3; have hp2 := s5.put d5 ⟨#[1, 99, 0]⟩ 3 (by decide) 1500 (no_may HNO.out).1 cfF ((no_may HNO.out).2 _); clear t1 hp1 s4 s5 T4 kxa kya kz kx4 ky4 kz4 kz5 d5)
    | (go_at_call 11; have _t := t2; go_must (refine hp2.mono ?_); rintro e w6 ⟨rfl, s6, _⟩; clear t2 hp2 z0 z1 z2 z3 q0 q1 q2 q3 f0 f1 f2 f3)
    | (go_at_call 20; refine (num_any _ _).mono ?_; rintro e w' ⟨rfl, hw⟩; obtain rfl := hw.symm)
    | (go_at_call 18; go_must (refine (s6.binds ⟨#[1, 97, 1, 98, 0]⟩ 4 (by decide) [cfB] cfB1 1 rfl).mono ?_); rintro e w7 ⟨y7, c7, rfl, _, s7, _⟩; clear s6))
  go_ret
  exact ⟨rfl, s7.bel⟩

set_option maxRecDepth 20000 in
set_option maxHeartbeats 4000000 in
theorem cf4 (which x U e : Int) (w : World) (hU : IntKind.u64.wrap which = U) (hm : U.tmod 14 = 4) (m63 : bits .and .i64 x 63 = e) (e0 : 0 ≤ e) (e1 : e < 64) :
    Calls Try.prog 5 #[.int .i64 which, .int .i64 x] w fun e w' => e = .returned (.bool true) ∧ Below w.heap.size w w' := by
  have hno : mayD ⟨⟨#[1, 97, 1, 98, 0]⟩, [], [delG 5 9], 9⟩ ⟨#[1, 98, 0]⟩ 3 = false := by decide
  have HNO : Hid (mayD ⟨⟨#[1, 97, 1, 98, 0]⟩, [], [delG 5 9], 9⟩ ⟨#[1, 98, 0]⟩ 3 = false) := hno
  clear hno
  have t1 : True := trivial
  have t2 : True := trivial
  go_enter Try.func5, Try.ntmps5
  go_wp2_with (first
    | (go_at_call 8; go_must (refine (awake_any _).mono ?_); rintro e w1 ⟨rfl, b1⟩)
    | (go_at_call 10; go_must (refine (hints_any _).mono ?_); rintro e wh ⟨rfl, rfl⟩)
    | (go_at_call 9; go_must (refine (lw_hints (M := fun _ => False) b1 (fun _ h => h.elim)).mono ?_); rintro e w2 ⟨o, rfl, s2, _⟩; clear b1)
    | (go_at_call 22; go_must (refine (del_any ⟨#[1, 97, 1, 98, 0]⟩ 5 9 _).mono ?_); rintro e w3 ⟨X, Y, rfl, kx, ky, b3, hX, hY⟩; obtain ⟨BX, s3, kxa, kya, kz⟩ := del_box (cn := ⟨#[1, 97, 1, 98, 0]⟩) s2 kx ky b3 hX hY; have hp1 := s3.put (din_del (cn := ⟨#[1, 97, 1, 98, 0]⟩) kxa kya (by decide)) ⟨#[1, 98, 0]⟩ 3 (by decide) 0 cfE1 cfF cfP1; clear hX hY kx ky b3 s2 s3)
    | (go_at_call 11; have _t := t1; go_must (refine hp1.mono ?_); rintro e w4 ⟨rfl, s4, T4⟩; have kx4 := T4.blk kxa (fun h => h.2 BX.x); have ky4 := T4.blk kya (fun h => h.2 BX.y); have kz4 := T4.blk kz (fun h => h.2 BX.z); have q0 := kz4.cell 0; have q1 := kz4.cell 1; have q2 := kz4.cell 2; have q3 := kz4.cell 3; have f0 := kz4.frozen 0; have f1 := kz4.frozen 1; have f2 := kz4.frozen 2; have f3 := kz4.frozen 3; have s5 := s4.wrote BX.z 1 (.slice none 0 0); have ky5 := ky4.other BX.yz 1 (.slice none 0 0); have kz5 := kz4.set 1 (.slice none 0 0); have d5 : DIn (w4.setCell ⟨w3.heap.size, 1, none⟩ (.slice none 0 0)) ⟨⟨#[1, 97, 1, 98, 0]⟩, [], [delG 5 9], 9⟩ (.slice none 0 0) (.slice (some ⟨Y, 0, none⟩) 1 1) := ⟨Row.nil _ _, ⟨none, 0, rfl, Nat.le_refl _⟩, Row.of_blk ky5 rfl 1 1, by decide, by decide, by decide, fun z hz => by simp at hz, fun z hz => by simp at hz; subst hz; decide⟩; have z0 := kz5.cell 0; have z1 := kz5.cell 1; have z2 := kz5.cell 2; have z3 := kz5.cell 3; simp only [List.setIfInBounds_toArray, List.set_cons_zero, List.set_cons_succ] at z0 z1 z2 z3; simp only [List.getElem?_toArray, List.getElem?_cons_succ, List.getElem?_cons_zero] at q0 q1 q2 q3 z0 z1 z2 z3; have hp2 := s5.put d5 ⟨#[1, 98, 0]⟩ 3 (by decide) 1500 (no_may HNO.out).1 cfF ((no_may HNO.out).2 _); clear t1 hp1 s4 s5 T4 kxa kya kz kx4 ky4 kz4 kz5 d5)
    | (go_at_call 11; have _t := t2; go_must (refine hp2.mono ?_); rintro e w6 ⟨rfl, s6, _⟩; clear t2 hp2 z0 z1 z2 z3 q0 q1 q2 q3 f0 f1 f2 f3)
    | (go_at_call 20; refine (num_any _ _).mono ?_; rintro e w' ⟨rfl, hw⟩; obtain rfl := hw.symm)
    | (go_at_call 18; go_must (refine (s6.binds ⟨#[1, 97, 1, 98, 0]⟩ 4 (by decide) [cfB] cfB1 1 rfl).mono ?_); rintro e w7 ⟨y7, c7, rfl, _, s7, _⟩; clear s6))
  go_ret
  exact ⟨rfl, s7.bel⟩

end Cu
end Go.Proofs.Ytnjgdfmldjgloaa
