/- What awake gives: true. -/
import Derived.Test.YtehldafdjldpbaaOpG
import Derived.Test.YtehldafdjldpbaaOpH
namespace Go.Proofs.Ytehldafdjldpbaa
open Go.RowKit

def awN : On := ⟨8, ⟨#[97, 98, 99]⟩⟩
def awO : Ot := ⟨1232, 1, 2, true, 3, [awN]⟩
def awC : Rc := ⟨rootB, 41, 1232, 16941059, ⟨#[0, 8, 0, 3, 97, 98, 99]⟩⟩
theorem aw_may : mayOt awO = true := by decide +kernel
theorem aw_os : osB [awN] = [0, 8, 0, 3, 97, 98, 99] := by decide +kernel
theorem aw_ttl : ttlO awO = 16941059 := by decide +kernel
theorem aw_put : putO awO = awC := by
  unfold putO
  rw [if_pos aw_may, aw_ttl]
  show Rc.mk rootB 41 1232 16941059 ⟨(osB [awN]).toArray⟩ = awC
  rw [aw_os]
  rfl
theorem aw_putE : putE awO = 0 := by unfold putE; rw [if_pos aw_may]
theorem aw_get : getO awC = awO ∧ getE awC = 0 := by rw [← aw_put]; exact put_get aw_may
theorem aw_bad : getO ⟨rootB, 41, 0, 0, ⟨#[97]⟩⟩ = otZ ∧ getE ⟨rootB, 41, 0, 0, ⟨#[97]⟩⟩ = 800 := get_none (rdL_short (by simp) (by simp))
theorem aw_no : putOV ⟨-1, 0, 0, false, 0, []⟩ = .tuple #[.agg (rrC rcZ), .int .i64 800] := putOV_no (by decide +kernel)
theorem aw_fin : finO [awC, awC] = awO ∧ finN [awC, awC] = 2 := ⟨aw_get.1, rfl⟩

theorem aw_p1 {v : Value} (u : World) (h : ORow u v [awN]) : Calls Try.prog 9 #[.agg #[.int .i64 1232, .int .i64 1, .int .i64 2, .bool true, .int .i64 3, v]] u fun e w' => e = .returned (.tuple #[.agg #[.string ⟨#[0]⟩, .int .i64 41, .int .i64 1232, .int .i64 16941059, .string ⟨#[0, 8, 0, 3, 97, 98, 99]⟩], .int .i64 0]) ∧ Below u.heap.size u w' := by
  have := optPut_any awO v u h
  unfold putOV at this
  rw [aw_put, aw_putE] at this
  exact this
theorem aw_p2 (u : World) : Calls Try.prog 9 #[.agg #[.int .i64 (-1), .int .i64 0, .int .i64 0, .bool false, .int .i64 0, .slice none 0 0]] u fun e w' => e = .returned (.tuple #[.agg #[.string ⟨#[]⟩, .int .i64 0, .int .i64 0, .int .i64 0, .string ⟨#[]⟩], .int .i64 800]) ∧ Below u.heap.size u w' := by
  have := optPut_any ⟨-1, 0, 0, false, 0, []⟩ (.slice none 0 0) u (ORow.nil u)
  rw [aw_no] at this
  exact this
theorem aw_g1 (u : World) : Calls Try.prog 11 #[.agg #[.string ⟨#[0]⟩, .int .i64 41, .int .i64 1232, .int .i64 16941059, .string ⟨#[0, 8, 0, 3, 97, 98, 99]⟩]] u fun e w' => ∃ (y : Option Addr) (n cap : Nat), e = .returned (.tuple #[.agg #[.int .i64 1232, .int .i64 1, .int .i64 2, .bool true, .int .i64 3, .slice y n cap], .int .i64 0]) ∧ w'.ownsRow u.heap.size 52 2 (.slice y n cap) 1 (oC [awN]) ∧ Below u.heap.size u w' := by
  have := optGet_any awC u (small100 (by decide))
  rw [aw_get.1, aw_get.2] at this
  exact this
theorem aw_g2 (u : World) : Calls Try.prog 11 #[.agg #[.string ⟨#[0]⟩, .int .i64 41, .int .i64 0, .int .i64 0, .string ⟨#[97]⟩]] u fun e w' => ∃ (y : Option Addr) (n cap : Nat), e = .returned (.tuple #[.agg #[.int .i64 0, .int .i64 0, .int .i64 0, .bool false, .int .i64 0, .slice y n cap], .int .i64 800]) ∧ Below u.heap.size u w' := by
  have := optGet_any ⟨rootB, 41, 0, 0, ⟨#[97]⟩⟩ u (small100 (by decide))
  rw [aw_bad.1, aw_bad.2] at this
  exact this.mono fun e w' ⟨y, n, cap, he, _, hb⟩ => ⟨y, n, cap, he, hb⟩
theorem aw_f {v : Value} (u : World) (h : RRow u v [awC, awC]) : Calls Try.prog 13 #[.agg #[.int .i64 0, .bool false, .int .i64 0, .bool false, .bool false, .bool false, .bool false, .int .i64 0, .int .i64 0, .slice none 0 0, .slice none 0 0, .slice none 0 0, v]] u fun e w' => ∃ (y : Option Addr) (n cap : Nat), e = .returned (.tuple #[.agg #[.int .i64 1232, .int .i64 1, .int .i64 2, .bool true, .int .i64 3, .slice y n cap], .int .i64 2]) ∧ w'.ownsRow u.heap.size 52 2 (.slice y n cap) 1 (oC [awN]) ∧ Below u.heap.size u w' := by
  have := optFind_any hdZ (.slice none 0 0) (.slice none 0 0) (.slice none 0 0) v [awC, awC] u h
  rw [aw_fin.1, aw_fin.2] at this
  exact this
theorem aw_s {v v' : Value} (u : World) (h : Row u v 1 (oC [awN])) (h' : Row u v' 1 (oC [awN])) : Calls Try.prog 16 #[.agg #[.int .i64 1232, .int .i64 1, .int .i64 2, .bool true, .int .i64 3, v], .agg #[.int .i64 1232, .int .i64 1, .int .i64 2, .bool true, .int .i64 3, v']] u fun e w' => e = .returned (.bool true) ∧ Below u.heap.size u w' :=
  sameOpt_yes awO v v' u h h' (small100 (by decide))
/-- What awake begins with: the option's row, the OPT's block. -/
theorem aw_begin (w : World) : ORow ((w.alloc (.cells #[.int .i64 8, .string ⟨#[97, 98, 99]⟩] 52)).alloc (.cells #[.int .i64 1232, .int .i64 1, .int .i64 2, .bool true, .int .i64 3, .slice (some ⟨w.heap.size, 0, none⟩) 1 1] 24)) (.slice (some ⟨w.heap.size, 0, none⟩) 1 1) [awN] ∧
    Blk ((w.alloc (.cells #[.int .i64 8, .string ⟨#[97, 98, 99]⟩] 52)).alloc (.cells #[.int .i64 1232, .int .i64 1, .int .i64 2, .bool true, .int .i64 3, .slice (some ⟨w.heap.size, 0, none⟩) 1 1] 24)) (w.heap.size + 1) #[.int .i64 1232, .int .i64 1, .int .i64 2, .bool true, .int .i64 3, .slice (some ⟨w.heap.size, 0, none⟩) 1 1] 24 := by
  have k := Blk.new (w.alloc (.cells #[.int .i64 8, .string ⟨#[97, 98, 99]⟩] 52)) #[.int .i64 1232, .int .i64 1, .int .i64 2, .bool true, .int .i64 3, .slice (some ⟨w.heap.size, 0, none⟩) 1 1] 24
  rw [show (w.alloc (.cells #[.int .i64 8, .string ⟨#[97, 98, 99]⟩] 52)).heap.size = w.heap.size + 1 from by simp] at k
  exact ⟨orow_lit (o := awN) ((Blk.new w (oV awN).toArray 52).alloc _) (by decide), k⟩
/-- Two records in a row. -/
theorem aw_two (u : World) (o : Obj) : RRow ((u.alloc o).alloc (.cells #[.string ⟨#[0]⟩, .int .i64 41, .int .i64 1232, .int .i64 16941059, .string ⟨#[0, 8, 0, 3, 97, 98, 99]⟩, .string ⟨#[0]⟩, .int .i64 41, .int .i64 1232, .int .i64 16941059, .string ⟨#[0, 8, 0, 3, 97, 98, 99]⟩] 26)) (.slice (some ⟨u.heap.size + 1, 0, none⟩) 2 2) [awC, awC] := by
  have k := Blk.new (u.alloc o) #[.string ⟨#[0]⟩, .int .i64 41, .int .i64 1232, .int .i64 16941059, .string ⟨#[0, 8, 0, 3, 97, 98, 99]⟩, .string ⟨#[0]⟩, .int .i64 41, .int .i64 1232, .int .i64 16941059, .string ⟨#[0, 8, 0, 3, 97, 98, 99]⟩] 26
  rw [show (u.alloc o).heap.size = u.heap.size + 1 from by simp] at k
  exact ⟨Row.of_blk k rfl 2 2, small100 (by decide), fun x hx => by simp at hx; subst hx; exact ⟨small100 (by decide), small100 (by decide)⟩⟩

set_option maxRecDepth 20000 in
set_option maxHeartbeats 1000000 in
theorem awake_any (w : World) : Calls Try.prog 19 #[] w fun e w' => e = .returned (.bool true) ∧ Below w.heap.size w w' := by
  have hb : Below w.heap.size w w := Below.refl _ _
  obtain ⟨q1, k1⟩ := aw_begin w
  have Q1 : Hid (ORow _ (.slice (some ⟨w.heap.size, 0, none⟩) 1 1) [awN]) := q1
  clear q1
  have t1 : True := trivial
  have t2 : True := trivial
  have t3 : True := trivial
  go_enter Try.func19, Try.ntmps19
  go_wp2_with (first
    | (go_at_call 9; have _t := t1; go_must (refine (aw_p1 _ Q1.out).mono ?_); rintro e w1 ⟨rfl, b1⟩; replace b1 := next b1 (lay (Below.refl _ _) (.cells #[.string ⟨#[0]⟩, .int .i64 41, .int .i64 1232, .int .i64 16941059, .string ⟨#[0, 8, 0, 3, 97, 98, 99]⟩] 26)); have k2 := Blk.new w1 #[.string ⟨#[0]⟩, .int .i64 41, .int .i64 1232, .int .i64 16941059, .string ⟨#[0, 8, 0, 3, 97, 98, 99]⟩] 26; replace Q1 : Hid (ORow _ (.slice (some ⟨w.heap.size, 0, none⟩) 1 1) [awN]) := Q1.out.below b1; replace k1 := k1.below b1; replace hb := next (lay (lay hb _) _) b1; clear b1 t1 _t)
    | (go_at_call 11; have _t := t2; go_must (refine (aw_g1 _).mono ?_); rintro e w2 ⟨y2, n2, c2, rfl, o2, b1⟩; replace b1 := next b1 (lay (Below.refl _ _) (.cells #[.int .i64 1232, .int .i64 1, .int .i64 2, .bool true, .int .i64 3, .slice y2 n2 c2] 24)); have k3 := Blk.new w2 #[.int .i64 1232, .int .i64 1, .int .i64 2, .bool true, .int .i64 3, .slice y2 n2 c2] 24; have O2 : Hid (Row _ (.slice y2 n2 c2) 1 (oC [awN])) := Row.of_own (o2.alloc (.cells #[.int .i64 1232, .int .i64 1, .int .i64 2, .bool true, .int .i64 3, .slice y2 n2 c2] 24)); replace Q1 : Hid (ORow _ (.slice (some ⟨w.heap.size, 0, none⟩) 1 1) [awN]) := Q1.out.below b1; replace k1 := k1.below b1; replace k2 := k2.below b1; replace hb := next hb b1; clear b1 o2 t2 _t)
    | (go_at_call 11; go_must (refine (aw_g2 _).mono ?_); rintro e w3 ⟨y3, n3, c3, rfl, b1⟩; replace b1 := next b1 (lay (Below.refl _ _) (.cells #[.int .i64 0, .int .i64 0, .int .i64 0, .bool false, .int .i64 0, .slice y3 n3 c3] 24)); replace O2 : Hid (Row _ (.slice y2 n2 c2) 1 (oC [awN])) := O2.out.below b1; replace Q1 : Hid (ORow _ (.slice (some ⟨w.heap.size, 0, none⟩) 1 1) [awN]) := Q1.out.below b1; replace k1 := k1.below b1; replace k2 := k2.below b1; replace k3 := k3.below b1; replace hb := next hb b1; clear b1)
    | (go_at_call 9; go_must (refine (aw_p2 _).mono ?_); rintro e w4 ⟨rfl, b1⟩; replace b1 := next b1 (lay (Below.refl _ _) (.cells #[.string ⟨#[]⟩, .int .i64 0, .int .i64 0, .int .i64 0, .string ⟨#[]⟩] 26)); replace O2 : Hid (Row _ (.slice y2 n2 c2) 1 (oC [awN])) := O2.out.below b1; replace Q1 : Hid (ORow _ (.slice (some ⟨w.heap.size, 0, none⟩) 1 1) [awN]) := Q1.out.below b1; replace k1 := k1.below b1; replace k2 := k2.below b1; replace k3 := k3.below b1; replace hb := next hb b1; obtain ⟨d0, d1, d2, d3, d4⟩ := k2.five'; clear b1)
    | (go_at_call 13; go_must (refine (aw_f _ (aw_two _ _)).mono ?_); rintro e w5 ⟨y5, n5, c5, rfl, o5, b1⟩; replace b1 := next (lay (Below.refl _ _) (.cells #[.string ⟨#[0]⟩, .int .i64 41, .int .i64 1232, .int .i64 16941059, .string ⟨#[0, 8, 0, 3, 97, 98, 99]⟩, .string ⟨#[0]⟩, .int .i64 41, .int .i64 1232, .int .i64 16941059, .string ⟨#[0, 8, 0, 3, 97, 98, 99]⟩] 26)) (next b1 (lay (Below.refl _ _) (.cells #[.int .i64 1232, .int .i64 1, .int .i64 2, .bool true, .int .i64 3, .slice y5 n5 c5] 24))); have k5 := Blk.new w5 #[.int .i64 1232, .int .i64 1, .int .i64 2, .bool true, .int .i64 3, .slice y5 n5 c5] 24; have O5 : Hid (Row _ (.slice y5 n5 c5) 1 (oC [awN])) := Row.of_own (o5.alloc (.cells #[.int .i64 1232, .int .i64 1, .int .i64 2, .bool true, .int .i64 3, .slice y5 n5 c5] 24)); replace O2 : Hid (Row _ (.slice y2 n2 c2) 1 (oC [awN])) := O2.out.below b1; replace Q1 : Hid (ORow _ (.slice (some ⟨w.heap.size, 0, none⟩) 1 1) [awN]) := Q1.out.below b1; replace k1 := k1.below b1; replace k2 := k2.below b1; replace k3 := k3.below b1; replace hb := next hb b1; clear d0 d1 d2 d3 d4; obtain ⟨d0, d1, d2, d3, d4⟩ := k2.five'; obtain ⟨f0, f1, f2, f3, f4, f5⟩ := k1.six'; obtain ⟨x0, x1, x2, x3, x4, x5⟩ := k3.six'; clear b1 o5)
    | (go_at_call 16; have _t := t3; go_must (refine (aw_s _ O2.out Q1.out.1).mono ?_); rintro e w6 ⟨rfl, b1⟩; replace O5 : Hid (Row _ (.slice y5 n5 c5) 1 (oC [awN])) := O5.out.below b1; replace Q1 : Hid (ORow _ (.slice (some ⟨w.heap.size, 0, none⟩) 1 1) [awN]) := Q1.out.below b1; replace k1 := k1.below b1; replace k5 := k5.below b1; replace hb := next hb b1; clear d0 d1 d2 d3 d4 f0 f1 f2 f3 f4 f5 x0 x1 x2 x3 x4 x5; obtain ⟨f0, f1, f2, f3, f4, f5⟩ := k1.six'; obtain ⟨x0, x1, x2, x3, x4, x5⟩ := k5.six'; clear b1 t3 _t)
    | (go_at_call 16; go_must (refine (aw_s _ O5.out Q1.out.1).mono ?_); rintro e w7 ⟨rfl, b1⟩; replace hb := next hb b1; clear b1)
    | (go_at_call 15; refine (num_any _ _).mono ?_; rintro e w' ⟨rfl, hw⟩; obtain rfl := hw.symm))
  go_ret
  exact ⟨rfl, hb⟩

end Go.Proofs.Ytehldafdjldpbaa
