/- QminForms holds: for every number, tasks and numbers that are none are refused. -/
import Derived.Test.YtnjlfbcfnmdkkaaQmG
namespace Go.Proofs.Ytnjlfbcfnmdkkaa.qminForms
open Go.ChangeShapes Go.WideShapes Go.ChangeAt Go.RowKit
open Go.ChangeMaps (open_string shut_string)
open Pl

theorem bad {s l c o : Int} (h : s < 0 ∨ l < 1 ∨ c < 0 ∨ o < 0 ∨ 1000 < s ∨ 1000 < l ∨ 1000 < c ∨ 1000 < o) : Qm.mayS s l c o = false := by
  cases hm : Qm.mayS s l c o with
  | false => rfl
  | true =>
    have := Qm.mayS_iff.1 hm
    omega
theorem bad_size (s l c o : Int) (w : World) (h : s < 0 ∨ l < 1 ∨ c < 0 ∨ o < 0 ∨ 1000 < s ∨ 1000 < l ∨ 1000 < c ∨ 1000 < o) :
    Calls Try.prog 9 #[.int .i64 s, .int .i64 l, .int .i64 c, .int .i64 o] w fun e w' => e = .returned (.tuple #[.int .i64 0, .int .i64 1700]) ∧ Below w.heap.size w w' :=
  Qm.size_as s l c o _ w (Qm.sizeV_no (bad h))
def okT : Qm.Tk := ⟨⟨#[1, 97, 1, 98, 0]⟩, 1, ⟨#[]⟩, ⟨#[1, 98, 0]⟩, 0, false, 0, 0⟩
theorem ok_next (w : World) : Calls Try.prog 11 #[.agg #[.string ⟨#[1, 97, 1, 98, 0]⟩, .int .i64 1, .string ⟨#[]⟩, .string ⟨#[1, 98, 0]⟩, .int .i64 0, .bool false, .int .i64 0, .int .i64 0], .int .i64 10, .int .i64 4] w
    fun e w' => e = .returned (.tuple #[.agg #[.string ⟨#[1, 97, 1, 98, 0]⟩, .int .i64 1], .int .i64 0]) ∧ Below w.heap.size w w' :=
  Qm.next_as okT 10 4 _ w (by decide) (by decide) (by rw [Qm.nextV_yes (by decide +kernel), show Qm.toldB okT 10 4 = ⟨#[1, 97, 1, 98, 0]⟩ from by decide +kernel, show Qm.typeI okT 10 4 = 1 from by decide +kernel]; rfl)

theorem bad0 (d : Int) (_ : 1 ≤ d) (_ : d ≤ 64) (w : World) : Calls Try.prog 11 #[.agg #[.string ⟨#[97]⟩, .int .i64 1, .string ⟨#[]⟩, .string ⟨#[1, 98, 0]⟩, .int .i64 0, .bool false, .int .i64 0, .int .i64 0], .int .i64 10, .int .i64 4] w
    fun e w' => e = .returned (.tuple #[.agg #[.string ⟨#[]⟩, .int .i64 0], .int .i64 1700]) ∧ Below w.heap.size w w' :=
  Qm.next_as ⟨⟨#[97]⟩, 1, ⟨#[]⟩, ⟨#[1, 98, 0]⟩, 0, false, 0, 0⟩ 10 4 _ w (by show (⟨#[97]⟩ : ByteArray).size ≤ maxLen; decide) (by show (⟨#[1, 98, 0]⟩ : ByteArray).size ≤ maxLen; decide) (Qm.nextV_no (by decide +kernel))
set_option maxRecDepth 20000 in
set_option maxHeartbeats 4000000 in
theorem way0 (which x U d : Int) (w : World) (hU : IntKind.u64.wrap which = U) (hm : U.tmod 6 = 0) (m63 : 1 + bits .and .i64 x 63 = d) (h1 : 1 ≤ d) (h2 : d ≤ 64) :
    Calls Try.prog 7 #[.int .i64 which, .int .i64 x] w fun e w' => e = .returned (.bool true) ∧ Below w.heap.size w w' := by
  have HD : Hid (1 + bits .and .i64 x 63 = d) := m63
  have hx : bits .and .i64 x 63 = d - 1 := by omega
  have hx2 : 1 + (d - 1) = d := by omega
  clear m63
  have t1 : True := trivial
  go_enter Try.func7, Try.ntmps7
  go_wp2_with (first
    | (go_at_call 14; go_must (refine (Qm.awake_any _).mono ?_); rintro e w1 ⟨rfl, b1⟩; have HB1 : Hid (Below w.heap.size w w1) := b1; obtain ⟨c0, c1, c2, c3, c4, c5, c6, c7⟩ := Qm.tk8 (Blk.new w1 #[.string ⟨#[1, 97, 1, 98, 0]⟩, .int .i64 1, .string ⟨#[]⟩, .string ⟨#[1, 98, 0]⟩, .int .i64 0, .bool false, .int .i64 0, .int .i64 0] 23); clear b1)
    | (go_at_call 11; have _t := t1; go_must (refine (ok_next _).mono ?_); rintro e w2 ⟨rfl, b2⟩; have hk2 : Hid (Blk (w2.alloc (.cells #[.string ⟨#[1, 97, 1, 98, 0]⟩, .int .i64 1] 30)) w1.heap.size #[.string ⟨#[1, 97, 1, 98, 0]⟩, .int .i64 1, .string ⟨#[]⟩, .string ⟨#[1, 98, 0]⟩, .int .i64 0, .bool false, .int .i64 0, .int .i64 0] 23) := ((Blk.new w1 _ _).below b2).alloc _; have fz := hk2.out.frozen 0; have fc : (w2.alloc (.cells #[.string ⟨#[1, 97, 1, 98, 0]⟩, .int .i64 1] 30)).cell? ⟨w1.heap.size, 0, none⟩ = some (.string ⟨#[1, 97, 1, 98, 0]⟩) := hk2.out.cell 0; have hk3 : Blk ((w2.alloc (.cells #[.string ⟨#[1, 97, 1, 98, 0]⟩, .int .i64 1] 30)).setCell ⟨w1.heap.size, 0, none⟩ (.string ⟨#[97]⟩)) w1.heap.size #[.string ⟨#[97]⟩, .int .i64 1, .string ⟨#[]⟩, .string ⟨#[1, 98, 0]⟩, .int .i64 0, .bool false, .int .i64 0, .int .i64 0] 23 := hk2.out.set 0 (.string ⟨#[97]⟩); obtain ⟨c0, c1, c2, c3, c4, c5, c6, c7⟩ := Qm.tk8 hk3; have HB2 : Hid (Below w.heap.size w ((w2.alloc (.cells #[.string ⟨#[1, 97, 1, 98, 0]⟩, .int .i64 1] 30)).setCell ⟨w1.heap.size, 0, none⟩ (.string ⟨#[97]⟩))) := (lay (next (lay HB1.out _) b2) _).setCell (p := ⟨w1.heap.size, 0, none⟩) HB1.out.size (.string ⟨#[97]⟩); clear hk3; clear b2 t1 _t)
    | (go_at_call 11; go_must (refine (bad0 d h1 h2 _).mono ?_); rintro e w3 ⟨rfl, b3⟩; have HR : Hid (Blk (w3.alloc (.cells #[.string ⟨#[]⟩, .int .i64 0] 30)) w3.heap.size #[.string ⟨#[]⟩, .int .i64 0] 30 ∧ Below w.heap.size w (w3.alloc (.cells #[.string ⟨#[]⟩, .int .i64 0] 30))) := ⟨Blk.new w3 _ _, lay (next HB2.out b3) _⟩; clear b3 c0 c1 c2 c3 c4 c5 c6 c7 hk2 HB2)
    | (go_at_call 9; go_must (refine (bad_size _ _ _ _ _ (by omega)).mono ?_); rintro e w4 ⟨rfl, b4⟩; replace HR : Hid (Blk w4 w3.heap.size #[.string ⟨#[]⟩, .int .i64 0] 30 ∧ Below w.heap.size w w4) := ⟨HR.out.1.below b4, next HR.out.2 b4⟩; obtain ⟨d0, d1⟩ := Qm.st2 HR.out.1; clear b4)
    | (go_at_call 13; refine (num_any _ _).mono ?_; rintro e w' ⟨rfl, hw⟩; obtain rfl := hw.symm))
  go_ret
  exact ⟨rfl, HR.out.2⟩

theorem bad1 (d : Int) (_ : 1 ≤ d) (_ : d ≤ 64) (w : World) : Calls Try.prog 11 #[.agg #[.string ⟨#[1, 97, 1, 98, 0]⟩, .int .i64 1, .string ⟨#[]⟩, .string ⟨#[1, 99, 0]⟩, .int .i64 0, .bool false, .int .i64 0, .int .i64 0], .int .i64 10, .int .i64 4] w
    fun e w' => e = .returned (.tuple #[.agg #[.string ⟨#[]⟩, .int .i64 0], .int .i64 1700]) ∧ Below w.heap.size w w' :=
  Qm.next_as ⟨⟨#[1, 97, 1, 98, 0]⟩, 1, ⟨#[]⟩, ⟨#[1, 99, 0]⟩, 0, false, 0, 0⟩ 10 4 _ w (by show (⟨#[1, 97, 1, 98, 0]⟩ : ByteArray).size ≤ maxLen; decide) (by show (⟨#[1, 99, 0]⟩ : ByteArray).size ≤ maxLen; decide) (Qm.nextV_no (by decide +kernel))
set_option maxRecDepth 20000 in
set_option maxHeartbeats 4000000 in
theorem way1 (which x U d : Int) (w : World) (hU : IntKind.u64.wrap which = U) (hm : U.tmod 6 = 1) (m63 : 1 + bits .and .i64 x 63 = d) (h1 : 1 ≤ d) (h2 : d ≤ 64) :
    Calls Try.prog 7 #[.int .i64 which, .int .i64 x] w fun e w' => e = .returned (.bool true) ∧ Below w.heap.size w w' := by
  have HD : Hid (1 + bits .and .i64 x 63 = d) := m63
  have hx : bits .and .i64 x 63 = d - 1 := by omega
  have hx2 : 1 + (d - 1) = d := by omega
  clear m63
  have t1 : True := trivial
  go_enter Try.func7, Try.ntmps7
  go_wp2_with (first
    | (go_at_call 14; go_must (refine (Qm.awake_any _).mono ?_); rintro e w1 ⟨rfl, b1⟩; have HB1 : Hid (Below w.heap.size w w1) := b1; obtain ⟨c0, c1, c2, c3, c4, c5, c6, c7⟩ := Qm.tk8 (Blk.new w1 #[.string ⟨#[1, 97, 1, 98, 0]⟩, .int .i64 1, .string ⟨#[]⟩, .string ⟨#[1, 98, 0]⟩, .int .i64 0, .bool false, .int .i64 0, .int .i64 0] 23); clear b1)
    | (go_at_call 11; have _t := t1; go_must (refine (ok_next _).mono ?_); rintro e w2 ⟨rfl, b2⟩; have hk2 : Hid (Blk (w2.alloc (.cells #[.string ⟨#[1, 97, 1, 98, 0]⟩, .int .i64 1] 30)) w1.heap.size #[.string ⟨#[1, 97, 1, 98, 0]⟩, .int .i64 1, .string ⟨#[]⟩, .string ⟨#[1, 98, 0]⟩, .int .i64 0, .bool false, .int .i64 0, .int .i64 0] 23) := ((Blk.new w1 _ _).below b2).alloc _; have fz := hk2.out.frozen 3; have fc : (w2.alloc (.cells #[.string ⟨#[1, 97, 1, 98, 0]⟩, .int .i64 1] 30)).cell? ⟨w1.heap.size, 3, none⟩ = some (.string ⟨#[1, 98, 0]⟩) := hk2.out.cell 3; have hk3 : Blk ((w2.alloc (.cells #[.string ⟨#[1, 97, 1, 98, 0]⟩, .int .i64 1] 30)).setCell ⟨w1.heap.size, 3, none⟩ (.string ⟨#[1, 99, 0]⟩)) w1.heap.size #[.string ⟨#[1, 97, 1, 98, 0]⟩, .int .i64 1, .string ⟨#[]⟩, .string ⟨#[1, 99, 0]⟩, .int .i64 0, .bool false, .int .i64 0, .int .i64 0] 23 := hk2.out.set 3 (.string ⟨#[1, 99, 0]⟩); obtain ⟨c0, c1, c2, c3, c4, c5, c6, c7⟩ := Qm.tk8 hk3; have HB2 : Hid (Below w.heap.size w ((w2.alloc (.cells #[.string ⟨#[1, 97, 1, 98, 0]⟩, .int .i64 1] 30)).setCell ⟨w1.heap.size, 3, none⟩ (.string ⟨#[1, 99, 0]⟩))) := (lay (next (lay HB1.out _) b2) _).setCell (p := ⟨w1.heap.size, 3, none⟩) HB1.out.size (.string ⟨#[1, 99, 0]⟩); clear hk3; clear b2 t1 _t)
    | (go_at_call 11; go_must (refine (bad1 d h1 h2 _).mono ?_); rintro e w3 ⟨rfl, b3⟩; have HR : Hid (Blk (w3.alloc (.cells #[.string ⟨#[]⟩, .int .i64 0] 30)) w3.heap.size #[.string ⟨#[]⟩, .int .i64 0] 30 ∧ Below w.heap.size w (w3.alloc (.cells #[.string ⟨#[]⟩, .int .i64 0] 30))) := ⟨Blk.new w3 _ _, lay (next HB2.out b3) _⟩; clear b3 c0 c1 c2 c3 c4 c5 c6 c7 hk2 HB2)
    | (go_at_call 9; go_must (refine (bad_size _ _ _ _ _ (by omega)).mono ?_); rintro e w4 ⟨rfl, b4⟩; replace HR : Hid (Blk w4 w3.heap.size #[.string ⟨#[]⟩, .int .i64 0] 30 ∧ Below w.heap.size w w4) := ⟨HR.out.1.below b4, next HR.out.2 b4⟩; obtain ⟨d0, d1⟩ := Qm.st2 HR.out.1; clear b4)
    | (go_at_call 13; refine (num_any _ _).mono ?_; rintro e w' ⟨rfl, hw⟩; obtain rfl := hw.symm))
  go_ret
  exact ⟨rfl, HR.out.2⟩

theorem bad2 (d : Int) (_ : 1 ≤ d) (_ : d ≤ 64) (w : World) : Calls Try.prog 11 #[.agg #[.string ⟨#[1, 97, 1, 98, 0]⟩, .int .i64 1, .string ⟨#[]⟩, .string ⟨#[]⟩, .int .i64 0, .bool false, .int .i64 0, .int .i64 0], .int .i64 10, .int .i64 4] w
    fun e w' => e = .returned (.tuple #[.agg #[.string ⟨#[]⟩, .int .i64 0], .int .i64 1700]) ∧ Below w.heap.size w w' :=
  Qm.next_as ⟨⟨#[1, 97, 1, 98, 0]⟩, 1, ⟨#[]⟩, ⟨#[]⟩, 0, false, 0, 0⟩ 10 4 _ w (by show (⟨#[1, 97, 1, 98, 0]⟩ : ByteArray).size ≤ maxLen; decide) (by show (⟨#[]⟩ : ByteArray).size ≤ maxLen; decide) (Qm.nextV_no (by decide +kernel))
set_option maxRecDepth 20000 in
set_option maxHeartbeats 4000000 in
theorem way2 (which x U d : Int) (w : World) (hU : IntKind.u64.wrap which = U) (hm : U.tmod 6 = 2) (m63 : 1 + bits .and .i64 x 63 = d) (h1 : 1 ≤ d) (h2 : d ≤ 64) :
    Calls Try.prog 7 #[.int .i64 which, .int .i64 x] w fun e w' => e = .returned (.bool true) ∧ Below w.heap.size w w' := by
  have HD : Hid (1 + bits .and .i64 x 63 = d) := m63
  have hx : bits .and .i64 x 63 = d - 1 := by omega
  have hx2 : 1 + (d - 1) = d := by omega
  clear m63
  have t1 : True := trivial
  go_enter Try.func7, Try.ntmps7
  go_wp2_with (first
    | (go_at_call 14; go_must (refine (Qm.awake_any _).mono ?_); rintro e w1 ⟨rfl, b1⟩; have HB1 : Hid (Below w.heap.size w w1) := b1; obtain ⟨c0, c1, c2, c3, c4, c5, c6, c7⟩ := Qm.tk8 (Blk.new w1 #[.string ⟨#[1, 97, 1, 98, 0]⟩, .int .i64 1, .string ⟨#[]⟩, .string ⟨#[1, 98, 0]⟩, .int .i64 0, .bool false, .int .i64 0, .int .i64 0] 23); clear b1)
    | (go_at_call 11; have _t := t1; go_must (refine (ok_next _).mono ?_); rintro e w2 ⟨rfl, b2⟩; have hk2 : Hid (Blk (w2.alloc (.cells #[.string ⟨#[1, 97, 1, 98, 0]⟩, .int .i64 1] 30)) w1.heap.size #[.string ⟨#[1, 97, 1, 98, 0]⟩, .int .i64 1, .string ⟨#[]⟩, .string ⟨#[1, 98, 0]⟩, .int .i64 0, .bool false, .int .i64 0, .int .i64 0] 23) := ((Blk.new w1 _ _).below b2).alloc _; have fz := hk2.out.frozen 3; have fc : (w2.alloc (.cells #[.string ⟨#[1, 97, 1, 98, 0]⟩, .int .i64 1] 30)).cell? ⟨w1.heap.size, 3, none⟩ = some (.string ⟨#[1, 98, 0]⟩) := hk2.out.cell 3; have hk3 : Blk ((w2.alloc (.cells #[.string ⟨#[1, 97, 1, 98, 0]⟩, .int .i64 1] 30)).setCell ⟨w1.heap.size, 3, none⟩ (.string ⟨#[]⟩)) w1.heap.size #[.string ⟨#[1, 97, 1, 98, 0]⟩, .int .i64 1, .string ⟨#[]⟩, .string ⟨#[]⟩, .int .i64 0, .bool false, .int .i64 0, .int .i64 0] 23 := hk2.out.set 3 (.string ⟨#[]⟩); obtain ⟨c0, c1, c2, c3, c4, c5, c6, c7⟩ := Qm.tk8 hk3; have HB2 : Hid (Below w.heap.size w ((w2.alloc (.cells #[.string ⟨#[1, 97, 1, 98, 0]⟩, .int .i64 1] 30)).setCell ⟨w1.heap.size, 3, none⟩ (.string ⟨#[]⟩))) := (lay (next (lay HB1.out _) b2) _).setCell (p := ⟨w1.heap.size, 3, none⟩) HB1.out.size (.string ⟨#[]⟩); clear hk3; clear b2 t1 _t)
    | (go_at_call 11; go_must (refine (bad2 d h1 h2 _).mono ?_); rintro e w3 ⟨rfl, b3⟩; have HR : Hid (Blk (w3.alloc (.cells #[.string ⟨#[]⟩, .int .i64 0] 30)) w3.heap.size #[.string ⟨#[]⟩, .int .i64 0] 30 ∧ Below w.heap.size w (w3.alloc (.cells #[.string ⟨#[]⟩, .int .i64 0] 30))) := ⟨Blk.new w3 _ _, lay (next HB2.out b3) _⟩; clear b3 c0 c1 c2 c3 c4 c5 c6 c7 hk2 HB2)
    | (go_at_call 9; go_must (refine (bad_size _ _ _ _ _ (by omega)).mono ?_); rintro e w4 ⟨rfl, b4⟩; replace HR : Hid (Blk w4 w3.heap.size #[.string ⟨#[]⟩, .int .i64 0] 30 ∧ Below w.heap.size w w4) := ⟨HR.out.1.below b4, next HR.out.2 b4⟩; obtain ⟨d0, d1⟩ := Qm.st2 HR.out.1; clear b4)
    | (go_at_call 13; refine (num_any _ _).mono ?_; rintro e w' ⟨rfl, hw⟩; obtain rfl := hw.symm))
  go_ret
  exact ⟨rfl, HR.out.2⟩

theorem bad3 (d : Int) (h1 : 1 ≤ d) (h2 : d ≤ 64) (w : World) : Calls Try.prog 11 #[.agg #[.string ⟨#[1, 97, 1, 98, 0]⟩, .int .i64 (65535 + d), .string ⟨#[]⟩, .string ⟨#[1, 98, 0]⟩, .int .i64 0, .bool false, .int .i64 0, .int .i64 0], .int .i64 10, .int .i64 4] w
    fun e w' => e = .returned (.tuple #[.agg #[.string ⟨#[]⟩, .int .i64 0], .int .i64 1700]) ∧ Below w.heap.size w w' :=
  Qm.next_as ⟨⟨#[1, 97, 1, 98, 0]⟩, (65535 + d), ⟨#[]⟩, ⟨#[1, 98, 0]⟩, 0, false, 0, 0⟩ 10 4 _ w (by show (⟨#[1, 97, 1, 98, 0]⟩ : ByteArray).size ≤ maxLen; decide) (by show (⟨#[1, 98, 0]⟩ : ByteArray).size ≤ maxLen; decide) (Qm.nextV_no (Qm.mayT_no (.inr (.inr (.inl (by show 65535 < 65535 + d; omega))))))
set_option maxRecDepth 20000 in
set_option maxHeartbeats 4000000 in
theorem way3 (which x U d : Int) (w : World) (hU : IntKind.u64.wrap which = U) (hm : U.tmod 6 = 3) (m63 : 1 + bits .and .i64 x 63 = d) (h1 : 1 ≤ d) (h2 : d ≤ 64) :
    Calls Try.prog 7 #[.int .i64 which, .int .i64 x] w fun e w' => e = .returned (.bool true) ∧ Below w.heap.size w w' := by
  have HD : Hid (1 + bits .and .i64 x 63 = d) := m63
  have hx : bits .and .i64 x 63 = d - 1 := by omega
  have hx2 : 1 + (d - 1) = d := by omega
  clear m63
  have t1 : True := trivial
  go_enter Try.func7, Try.ntmps7
  go_wp2_with (first
    | (go_at_call 14; go_must (refine (Qm.awake_any _).mono ?_); rintro e w1 ⟨rfl, b1⟩; have HB1 : Hid (Below w.heap.size w w1) := b1; obtain ⟨c0, c1, c2, c3, c4, c5, c6, c7⟩ := Qm.tk8 (Blk.new w1 #[.string ⟨#[1, 97, 1, 98, 0]⟩, .int .i64 1, .string ⟨#[]⟩, .string ⟨#[1, 98, 0]⟩, .int .i64 0, .bool false, .int .i64 0, .int .i64 0] 23); clear b1)
    | (go_at_call 11; have _t := t1; go_must (refine (ok_next _).mono ?_); rintro e w2 ⟨rfl, b2⟩; have hk2 : Hid (Blk (w2.alloc (.cells #[.string ⟨#[1, 97, 1, 98, 0]⟩, .int .i64 1] 30)) w1.heap.size #[.string ⟨#[1, 97, 1, 98, 0]⟩, .int .i64 1, .string ⟨#[]⟩, .string ⟨#[1, 98, 0]⟩, .int .i64 0, .bool false, .int .i64 0, .int .i64 0] 23) := ((Blk.new w1 _ _).below b2).alloc _; have fz := hk2.out.frozen 1; have fc : (w2.alloc (.cells #[.string ⟨#[1, 97, 1, 98, 0]⟩, .int .i64 1] 30)).cell? ⟨w1.heap.size, 1, none⟩ = some (.int .i64 1) := hk2.out.cell 1; have hk3 : Blk ((w2.alloc (.cells #[.string ⟨#[1, 97, 1, 98, 0]⟩, .int .i64 1] 30)).setCell ⟨w1.heap.size, 1, none⟩ (.int .i64 (65535 + d))) w1.heap.size #[.string ⟨#[1, 97, 1, 98, 0]⟩, .int .i64 (65535 + d), .string ⟨#[]⟩, .string ⟨#[1, 98, 0]⟩, .int .i64 0, .bool false, .int .i64 0, .int .i64 0] 23 := hk2.out.set 1 (.int .i64 (65535 + d)); obtain ⟨c0, c1, c2, c3, c4, c5, c6, c7⟩ := Qm.tk8 hk3; have HB2 : Hid (Below w.heap.size w ((w2.alloc (.cells #[.string ⟨#[1, 97, 1, 98, 0]⟩, .int .i64 1] 30)).setCell ⟨w1.heap.size, 1, none⟩ (.int .i64 (65535 + d)))) := (lay (next (lay HB1.out _) b2) _).setCell (p := ⟨w1.heap.size, 1, none⟩) HB1.out.size (.int .i64 (65535 + d)); clear hk3; clear b2 t1 _t)
    | (go_at_call 11; go_must (refine (bad3 d h1 h2 _).mono ?_); rintro e w3 ⟨rfl, b3⟩; have HR : Hid (Blk (w3.alloc (.cells #[.string ⟨#[]⟩, .int .i64 0] 30)) w3.heap.size #[.string ⟨#[]⟩, .int .i64 0] 30 ∧ Below w.heap.size w (w3.alloc (.cells #[.string ⟨#[]⟩, .int .i64 0] 30))) := ⟨Blk.new w3 _ _, lay (next HB2.out b3) _⟩; clear b3 c0 c1 c2 c3 c4 c5 c6 c7 hk2 HB2)
    | (go_at_call 9; go_must (refine (bad_size _ _ _ _ _ (by omega)).mono ?_); rintro e w4 ⟨rfl, b4⟩; replace HR : Hid (Blk w4 w3.heap.size #[.string ⟨#[]⟩, .int .i64 0] 30 ∧ Below w.heap.size w w4) := ⟨HR.out.1.below b4, next HR.out.2 b4⟩; obtain ⟨d0, d1⟩ := Qm.st2 HR.out.1; clear b4)
    | (go_at_call 13; refine (num_any _ _).mono ?_; rintro e w' ⟨rfl, hw⟩; obtain rfl := hw.symm))
  go_ret
  exact ⟨rfl, HR.out.2⟩

theorem bad4 (d : Int) (h1 : 1 ≤ d) (h2 : d ≤ 64) (w : World) : Calls Try.prog 11 #[.agg #[.string ⟨#[1, 97, 1, 98, 0]⟩, .int .i64 (1 - d), .string ⟨#[]⟩, .string ⟨#[1, 98, 0]⟩, .int .i64 0, .bool false, .int .i64 0, .int .i64 0], .int .i64 10, .int .i64 4] w
    fun e w' => e = .returned (.tuple #[.agg #[.string ⟨#[]⟩, .int .i64 0], .int .i64 1700]) ∧ Below w.heap.size w w' :=
  Qm.next_as ⟨⟨#[1, 97, 1, 98, 0]⟩, (1 - d), ⟨#[]⟩, ⟨#[1, 98, 0]⟩, 0, false, 0, 0⟩ 10 4 _ w (by show (⟨#[1, 97, 1, 98, 0]⟩ : ByteArray).size ≤ maxLen; decide) (by show (⟨#[1, 98, 0]⟩ : ByteArray).size ≤ maxLen; decide) (Qm.nextV_no (Qm.mayT_no (.inr (.inl (by show 1 - d < 1; omega)))))
set_option maxRecDepth 20000 in
set_option maxHeartbeats 4000000 in
theorem way4 (which x U d : Int) (w : World) (hU : IntKind.u64.wrap which = U) (hm : U.tmod 6 = 4) (m63 : 1 + bits .and .i64 x 63 = d) (h1 : 1 ≤ d) (h2 : d ≤ 64) :
    Calls Try.prog 7 #[.int .i64 which, .int .i64 x] w fun e w' => e = .returned (.bool true) ∧ Below w.heap.size w w' := by
  have HD : Hid (1 + bits .and .i64 x 63 = d) := m63
  have hx : bits .and .i64 x 63 = d - 1 := by omega
  have hx2 : 1 + (d - 1) = d := by omega
  clear m63
  have t1 : True := trivial
  go_enter Try.func7, Try.ntmps7
  go_wp2_with (first
    | (go_at_call 14; go_must (refine (Qm.awake_any _).mono ?_); rintro e w1 ⟨rfl, b1⟩; have HB1 : Hid (Below w.heap.size w w1) := b1; obtain ⟨c0, c1, c2, c3, c4, c5, c6, c7⟩ := Qm.tk8 (Blk.new w1 #[.string ⟨#[1, 97, 1, 98, 0]⟩, .int .i64 1, .string ⟨#[]⟩, .string ⟨#[1, 98, 0]⟩, .int .i64 0, .bool false, .int .i64 0, .int .i64 0] 23); clear b1)
    | (go_at_call 11; have _t := t1; go_must (refine (ok_next _).mono ?_); rintro e w2 ⟨rfl, b2⟩; have hk2 : Hid (Blk (w2.alloc (.cells #[.string ⟨#[1, 97, 1, 98, 0]⟩, .int .i64 1] 30)) w1.heap.size #[.string ⟨#[1, 97, 1, 98, 0]⟩, .int .i64 1, .string ⟨#[]⟩, .string ⟨#[1, 98, 0]⟩, .int .i64 0, .bool false, .int .i64 0, .int .i64 0] 23) := ((Blk.new w1 _ _).below b2).alloc _; have fz := hk2.out.frozen 1; have fc : (w2.alloc (.cells #[.string ⟨#[1, 97, 1, 98, 0]⟩, .int .i64 1] 30)).cell? ⟨w1.heap.size, 1, none⟩ = some (.int .i64 1) := hk2.out.cell 1; have hk3 : Blk ((w2.alloc (.cells #[.string ⟨#[1, 97, 1, 98, 0]⟩, .int .i64 1] 30)).setCell ⟨w1.heap.size, 1, none⟩ (.int .i64 (1 - d))) w1.heap.size #[.string ⟨#[1, 97, 1, 98, 0]⟩, .int .i64 (1 - d), .string ⟨#[]⟩, .string ⟨#[1, 98, 0]⟩, .int .i64 0, .bool false, .int .i64 0, .int .i64 0] 23 := hk2.out.set 1 (.int .i64 (1 - d)); obtain ⟨c0, c1, c2, c3, c4, c5, c6, c7⟩ := Qm.tk8 hk3; have HB2 : Hid (Below w.heap.size w ((w2.alloc (.cells #[.string ⟨#[1, 97, 1, 98, 0]⟩, .int .i64 1] 30)).setCell ⟨w1.heap.size, 1, none⟩ (.int .i64 (1 - d)))) := (lay (next (lay HB1.out _) b2) _).setCell (p := ⟨w1.heap.size, 1, none⟩) HB1.out.size (.int .i64 (1 - d)); clear hk3; clear b2 t1 _t)
    | (go_at_call 11; go_must (refine (bad4 d h1 h2 _).mono ?_); rintro e w3 ⟨rfl, b3⟩; have HR : Hid (Blk (w3.alloc (.cells #[.string ⟨#[]⟩, .int .i64 0] 30)) w3.heap.size #[.string ⟨#[]⟩, .int .i64 0] 30 ∧ Below w.heap.size w (w3.alloc (.cells #[.string ⟨#[]⟩, .int .i64 0] 30))) := ⟨Blk.new w3 _ _, lay (next HB2.out b3) _⟩; clear b3 c0 c1 c2 c3 c4 c5 c6 c7 hk2 HB2)
    | (go_at_call 9; go_must (refine (bad_size _ _ _ _ _ (by omega)).mono ?_); rintro e w4 ⟨rfl, b4⟩; replace HR : Hid (Blk w4 w3.heap.size #[.string ⟨#[]⟩, .int .i64 0] 30 ∧ Below w.heap.size w w4) := ⟨HR.out.1.below b4, next HR.out.2 b4⟩; obtain ⟨d0, d1⟩ := Qm.st2 HR.out.1; clear b4)
    | (go_at_call 13; refine (num_any _ _).mono ?_; rintro e w' ⟨rfl, hw⟩; obtain rfl := hw.symm))
  go_ret
  exact ⟨rfl, HR.out.2⟩

theorem bad5 (d : Int) (h1 : 1 ≤ d) (h2 : d ≤ 64) (w : World) : Calls Try.prog 11 #[.agg #[.string ⟨#[1, 97, 1, 98, 0]⟩, .int .i64 1, .string ⟨#[]⟩, .string ⟨#[1, 98, 0]⟩, .int .i64 (-d), .bool false, .int .i64 0, .int .i64 0], .int .i64 10, .int .i64 4] w
    fun e w' => e = .returned (.tuple #[.agg #[.string ⟨#[]⟩, .int .i64 0], .int .i64 1700]) ∧ Below w.heap.size w w' :=
  Qm.next_as ⟨⟨#[1, 97, 1, 98, 0]⟩, 1, ⟨#[]⟩, ⟨#[1, 98, 0]⟩, (-d), false, 0, 0⟩ 10 4 _ w (by show (⟨#[1, 97, 1, 98, 0]⟩ : ByteArray).size ≤ maxLen; decide) (by show (⟨#[1, 98, 0]⟩ : ByteArray).size ≤ maxLen; decide) (Qm.nextV_no (Qm.mayT_no (.inr (.inr (.inr (bad (.inl (by show -d < 0; omega))))))))
set_option maxRecDepth 20000 in
set_option maxHeartbeats 4000000 in
theorem way5 (which x U d : Int) (w : World) (hU : IntKind.u64.wrap which = U) (hm : U.tmod 6 = 5) (m63 : 1 + bits .and .i64 x 63 = d) (h1 : 1 ≤ d) (h2 : d ≤ 64) (hd : bits .and .i64 d 1 = 0) :
    Calls Try.prog 7 #[.int .i64 which, .int .i64 x] w fun e w' => e = .returned (.bool true) ∧ Below w.heap.size w w' := by
  have HD : Hid (1 + bits .and .i64 x 63 = d) := m63
  have hx : bits .and .i64 x 63 = d - 1 := by omega
  have hx2 : 1 + (d - 1) = d := by omega
  clear m63
  have t1 : True := trivial
  go_enter Try.func7, Try.ntmps7
  go_wp2_with (first
    | (go_at_call 14; go_must (refine (Qm.awake_any _).mono ?_); rintro e w1 ⟨rfl, b1⟩; have HB1 : Hid (Below w.heap.size w w1) := b1; obtain ⟨c0, c1, c2, c3, c4, c5, c6, c7⟩ := Qm.tk8 (Blk.new w1 #[.string ⟨#[1, 97, 1, 98, 0]⟩, .int .i64 1, .string ⟨#[]⟩, .string ⟨#[1, 98, 0]⟩, .int .i64 0, .bool false, .int .i64 0, .int .i64 0] 23); clear b1)
    | (go_at_call 11; have _t := t1; go_must (refine (ok_next _).mono ?_); rintro e w2 ⟨rfl, b2⟩; have hk2 : Hid (Blk (w2.alloc (.cells #[.string ⟨#[1, 97, 1, 98, 0]⟩, .int .i64 1] 30)) w1.heap.size #[.string ⟨#[1, 97, 1, 98, 0]⟩, .int .i64 1, .string ⟨#[]⟩, .string ⟨#[1, 98, 0]⟩, .int .i64 0, .bool false, .int .i64 0, .int .i64 0] 23) := ((Blk.new w1 _ _).below b2).alloc _; have fz := (hk2.out.alloc (.cells #[.int .i64 (-d), .int .i64 (1000 + d)] 3)).frozen 4; have fc : ((w2.alloc (.cells #[.string ⟨#[1, 97, 1, 98, 0]⟩, .int .i64 1] 30)).alloc (.cells #[.int .i64 (-d), .int .i64 (1000 + d)] 3)).cell? ⟨w1.heap.size, 4, none⟩ = some (.int .i64 0) := (hk2.out.alloc (.cells #[.int .i64 (-d), .int .i64 (1000 + d)] 3)).cell 4; have hk3 : Blk (((w2.alloc (.cells #[.string ⟨#[1, 97, 1, 98, 0]⟩, .int .i64 1] 30)).alloc (.cells #[.int .i64 (-d), .int .i64 (1000 + d)] 3)).setCell ⟨w1.heap.size, 4, none⟩ (.int .i64 (-d))) w1.heap.size #[.string ⟨#[1, 97, 1, 98, 0]⟩, .int .i64 1, .string ⟨#[]⟩, .string ⟨#[1, 98, 0]⟩, .int .i64 (-d), .bool false, .int .i64 0, .int .i64 0] 23 := (hk2.out.alloc (.cells #[.int .i64 (-d), .int .i64 (1000 + d)] 3)).set 4 (.int .i64 (-d)); obtain ⟨c0, c1, c2, c3, c4, c5, c6, c7⟩ := Qm.tk8 hk3; have HB2 : Hid (Below w.heap.size w (((w2.alloc (.cells #[.string ⟨#[1, 97, 1, 98, 0]⟩, .int .i64 1] 30)).alloc (.cells #[.int .i64 (-d), .int .i64 (1000 + d)] 3)).setCell ⟨w1.heap.size, 4, none⟩ (.int .i64 (-d)))) := (lay (lay (next (lay HB1.out _) b2) _) _).setCell (p := ⟨w1.heap.size, 4, none⟩) HB1.out.size (.int .i64 (-d)); clear hk3; clear b2 t1 _t)
    | (go_at_call 11; go_must (refine (bad5 d h1 h2 _).mono ?_); rintro e w3 ⟨rfl, b3⟩; have HR : Hid (Blk (w3.alloc (.cells #[.string ⟨#[]⟩, .int .i64 0] 30)) w3.heap.size #[.string ⟨#[]⟩, .int .i64 0] 30 ∧ Below w.heap.size w (w3.alloc (.cells #[.string ⟨#[]⟩, .int .i64 0] 30))) := ⟨Blk.new w3 _ _, lay (next HB2.out b3) _⟩; clear b3 c0 c1 c2 c3 c4 c5 c6 c7 hk2 HB2)
    | (go_at_call 9; go_must (refine (bad_size _ _ _ _ _ (by omega)).mono ?_); rintro e w4 ⟨rfl, b4⟩; replace HR : Hid (Blk w4 w3.heap.size #[.string ⟨#[]⟩, .int .i64 0] 30 ∧ Below w.heap.size w w4) := ⟨HR.out.1.below b4, next HR.out.2 b4⟩; obtain ⟨d0, d1⟩ := Qm.st2 HR.out.1; clear b4)
    | (go_at_call 13; refine (num_any _ _).mono ?_; rintro e w' ⟨rfl, hw⟩; obtain rfl := hw.symm))
  go_ret
  exact ⟨rfl, HR.out.2⟩

theorem bad6 (d : Int) (h1 : 1 ≤ d) (h2 : d ≤ 64) (w : World) : Calls Try.prog 11 #[.agg #[.string ⟨#[1, 97, 1, 98, 0]⟩, .int .i64 1, .string ⟨#[]⟩, .string ⟨#[1, 98, 0]⟩, .int .i64 (1000 + d), .bool false, .int .i64 0, .int .i64 0], .int .i64 10, .int .i64 4] w
    fun e w' => e = .returned (.tuple #[.agg #[.string ⟨#[]⟩, .int .i64 0], .int .i64 1700]) ∧ Below w.heap.size w w' :=
  Qm.next_as ⟨⟨#[1, 97, 1, 98, 0]⟩, 1, ⟨#[]⟩, ⟨#[1, 98, 0]⟩, (1000 + d), false, 0, 0⟩ 10 4 _ w (by show (⟨#[1, 97, 1, 98, 0]⟩ : ByteArray).size ≤ maxLen; decide) (by show (⟨#[1, 98, 0]⟩ : ByteArray).size ≤ maxLen; decide) (Qm.nextV_no (Qm.mayT_no (.inr (.inr (.inr (bad (.inr (.inr (.inr (.inr (.inl (by show 1000 < 1000 + d; omega))))))))))))
set_option maxRecDepth 20000 in
set_option maxHeartbeats 4000000 in
theorem way6 (which x U d : Int) (w : World) (hU : IntKind.u64.wrap which = U) (hm : U.tmod 6 = 5) (m63 : 1 + bits .and .i64 x 63 = d) (h1 : 1 ≤ d) (h2 : d ≤ 64) (hd : bits .and .i64 d 1 = 1) :
    Calls Try.prog 7 #[.int .i64 which, .int .i64 x] w fun e w' => e = .returned (.bool true) ∧ Below w.heap.size w w' := by
  have HD : Hid (1 + bits .and .i64 x 63 = d) := m63
  have hx : bits .and .i64 x 63 = d - 1 := by omega
  have hx2 : 1 + (d - 1) = d := by omega
  clear m63
  have t1 : True := trivial
  go_enter Try.func7, Try.ntmps7
  go_wp2_with (first
    | (go_at_call 14; go_must (refine (Qm.awake_any _).mono ?_); rintro e w1 ⟨rfl, b1⟩; have HB1 : Hid (Below w.heap.size w w1) := b1; obtain ⟨c0, c1, c2, c3, c4, c5, c6, c7⟩ := Qm.tk8 (Blk.new w1 #[.string ⟨#[1, 97, 1, 98, 0]⟩, .int .i64 1, .string ⟨#[]⟩, .string ⟨#[1, 98, 0]⟩, .int .i64 0, .bool false, .int .i64 0, .int .i64 0] 23); clear b1)
    | (go_at_call 11; have _t := t1; go_must (refine (ok_next _).mono ?_); rintro e w2 ⟨rfl, b2⟩; have hk2 : Hid (Blk (w2.alloc (.cells #[.string ⟨#[1, 97, 1, 98, 0]⟩, .int .i64 1] 30)) w1.heap.size #[.string ⟨#[1, 97, 1, 98, 0]⟩, .int .i64 1, .string ⟨#[]⟩, .string ⟨#[1, 98, 0]⟩, .int .i64 0, .bool false, .int .i64 0, .int .i64 0] 23) := ((Blk.new w1 _ _).below b2).alloc _; have fz := (hk2.out.alloc (.cells #[.int .i64 (-d), .int .i64 (1000 + d)] 3)).frozen 4; have fc : ((w2.alloc (.cells #[.string ⟨#[1, 97, 1, 98, 0]⟩, .int .i64 1] 30)).alloc (.cells #[.int .i64 (-d), .int .i64 (1000 + d)] 3)).cell? ⟨w1.heap.size, 4, none⟩ = some (.int .i64 0) := (hk2.out.alloc (.cells #[.int .i64 (-d), .int .i64 (1000 + d)] 3)).cell 4; have hk3 : Blk (((w2.alloc (.cells #[.string ⟨#[1, 97, 1, 98, 0]⟩, .int .i64 1] 30)).alloc (.cells #[.int .i64 (-d), .int .i64 (1000 + d)] 3)).setCell ⟨w1.heap.size, 4, none⟩ (.int .i64 (1000 + d))) w1.heap.size #[.string ⟨#[1, 97, 1, 98, 0]⟩, .int .i64 1, .string ⟨#[]⟩, .string ⟨#[1, 98, 0]⟩, .int .i64 (1000 + d), .bool false, .int .i64 0, .int .i64 0] 23 := (hk2.out.alloc (.cells #[.int .i64 (-d), .int .i64 (1000 + d)] 3)).set 4 (.int .i64 (1000 + d)); obtain ⟨c0, c1, c2, c3, c4, c5, c6, c7⟩ := Qm.tk8 hk3; have HB2 : Hid (Below w.heap.size w (((w2.alloc (.cells #[.string ⟨#[1, 97, 1, 98, 0]⟩, .int .i64 1] 30)).alloc (.cells #[.int .i64 (-d), .int .i64 (1000 + d)] 3)).setCell ⟨w1.heap.size, 4, none⟩ (.int .i64 (1000 + d)))) := (lay (lay (next (lay HB1.out _) b2) _) _).setCell (p := ⟨w1.heap.size, 4, none⟩) HB1.out.size (.int .i64 (1000 + d)); clear hk3; clear b2 t1 _t)
    | (go_at_call 11; go_must (refine (bad6 d h1 h2 _).mono ?_); rintro e w3 ⟨rfl, b3⟩; have HR : Hid (Blk (w3.alloc (.cells #[.string ⟨#[]⟩, .int .i64 0] 30)) w3.heap.size #[.string ⟨#[]⟩, .int .i64 0] 30 ∧ Below w.heap.size w (w3.alloc (.cells #[.string ⟨#[]⟩, .int .i64 0] 30))) := ⟨Blk.new w3 _ _, lay (next HB2.out b3) _⟩; clear b3 c0 c1 c2 c3 c4 c5 c6 c7 hk2 HB2)
    | (go_at_call 9; go_must (refine (bad_size _ _ _ _ _ (by omega)).mono ?_); rintro e w4 ⟨rfl, b4⟩; replace HR : Hid (Blk w4 w3.heap.size #[.string ⟨#[]⟩, .int .i64 0] 30 ∧ Below w.heap.size w w4) := ⟨HR.out.1.below b4, next HR.out.2 b4⟩; obtain ⟨d0, d1⟩ := Qm.st2 HR.out.1; clear b4)
    | (go_at_call 13; refine (num_any _ _).mono ?_; rintro e w' ⟨rfl, hw⟩; obtain rfl := hw.symm))
  go_ret
  exact ⟨rfl, HR.out.2⟩

set_option maxRecDepth 20000 in
theorem walk (which x : Int) (_ : (Lit.int .i64 which).wf = true) (_ : (Lit.int .i64 x).wf = true) (w : World) :
    Calls Try.prog 7 #[.int .i64 which, .int .i64 x] w fun e w' => e = .returned (.bool true) ∧ Below w.heap.size w w' := by
  have hU : 0 ≤ IntKind.u64.wrap which := by
    have : IntKind.u64.wrap which = which % 18446744073709551616 := by simp [IntKind.wrap, IntKind.bits, IntKind.signed]
    omega
  have m1 : bits .and .i64 x 63 = x % 64 := mask x 6 (by decide)
  have hd : 1 ≤ 1 + bits .and .i64 x 63 ∧ 1 + bits .and .i64 x 63 ≤ 64 := by omega
  obtain ⟨m, hm2⟩ : ∃ m, IntKind.u64.wrap which % 6 = m := ⟨_, rfl⟩
  have hm := hm2
  rw [← Int.tmod_eq_emod_of_nonneg hU] at hm
  have m2 : bits .and .i64 (1 + bits .and .i64 x 63) 1 = (1 + bits .and .i64 x 63) % 2 := mask _ 1 (by decide)
  have : m = 0 ∨ m = 1 ∨ m = 2 ∨ m = 3 ∨ m = 4 ∨ m = 5 := by omega
  rcases this with rfl | rfl | rfl | rfl | rfl | rfl
  · exact way0 which x _ _ w rfl hm rfl hd.1 hd.2
  · exact way1 which x _ _ w rfl hm rfl hd.1 hd.2
  · exact way2 which x _ _ w rfl hm rfl hd.1 hd.2
  · exact way3 which x _ _ w rfl hm rfl hd.1 hd.2
  · exact way4 which x _ _ w rfl hm rfl hd.1 hd.2
  · rcases Int.emod_two_eq (1 + bits .and .i64 x 63) with h | h
    · exact way5 which x _ _ w rfl hm rfl hd.1 hd.2 (by rw [m2, h])
    · exact way6 which x _ _ w rfl hm rfl hd.1 hd.2 (by rw [m2, h])

theorem own : ownKnob Try.prog.godebug = none := by kernel_rfl

set_option maxRecDepth 100000 in
theorem lifted (os : Os) (started : os.Started) (H : Type) (enc : TypeId × Value → H) :
    ReturnsInHanded {} Try.checked os 7 .any (Rows.qminFormsSpec.pre6 enc Try.prog Try.f7 Rows.qminFormsRow.domain false) (Rows.qminFormsSpec.post enc Try.prog Try.f7 false true false false) := by
  refine returnsInHanded_of_change (C := Try.checked) own started (by kernel_rfl) Try.func7
    (ChangeSpec.witness6 (enc := enc) (C := Try.checked) false ⟨#[], #[.int .i64 0, .int .i64 0], []⟩ 8 (by kernel_rfl) (by kernel_rfl) (by kernel_rfl) (by kernel_rfl)) ?_
  intro W base args ds gs before hval0 hW _ _
  have hval : ∀ (j : Nat) t v, Try.f7.params[j]? = some t → args[j]? = some v → Value.okWide Try.prog W .any base t v := hval0
  have hW' := hW
  obtain ⟨p, q, hA0, hV, rfl, hfz, hnd⟩ := hW
  have hA : DataW.TrodAll enc Try.prog W 0 (fun _ => true) true Try.f7.params.toList args.toList ds p := hA0
  rw [Try.params7] at hA hval
  obtain ⟨v0, vs0, d0, ds0, p0, q0, hargs, rfl, rfl, h0, r0⟩ := trodAll_cons hA
  obtain ⟨v1, vs1, d1, ds1, p1, q1, rfl, rfl, rfl, h1, r1⟩ := trodAll_cons r0
  obtain ⟨rfl, rfl, rfl⟩ := trodAll_nil r1
  obtain rfl : args = #[v0, v1] := by cases args; simp_all
  obtain ⟨rfl, rfl⟩ := trodVars_none hV
  obtain ⟨a0, rfl, rfl, rfl, w0⟩ := open_int Try.underlying3 (hval 0 3 v0 rfl rfl) h0
  obtain ⟨a1, rfl, rfl, rfl, w1⟩ := open_int Try.underlying3 (hval 1 3 v1 rfl rfl) h1
  clear hA0 hval0
  simp only [List.append_nil] at hW'
  refine (walk a0 a1 w0 w1 W ).mono fun e W' ⟨he, bel⟩ => ?_
  subst he
  exact ⟨_, rfl, _, _, _, [], [], [], hW', trodAll_mk1 (shut_bool Try.underlying4 _), (trodAll_cons_mk (shut_int Try.underlying3 w0) (trodAll_cons_mk (shut_int Try.underlying3 w1) trodAll_mk0)), rfl, bel.frame _, fun h => by cases h⟩

/-- The statement. -/
theorem proved : Rows.QminFormsSaid :=
  OpenClaim.holds_of_wide 7 Try.f7 rfl rfl rfl rfl rfl rfl rfl ⟨rfl, rfl, rfl, rfl, rfl⟩ rfl rfl rfl rfl rfl (by kernel_rfl) Try.func7 (by kernel_rfl)
    (of_decide_eq_true (by kernel_rfl)) (by unfold Func.isWrapper; first | (rw [if_pos (by decide +kernel)]; kernel_rfl) | (rw [if_neg (by decide +kernel)]; exact ⟨rfl, rfl⟩))
    (fun os started H enc _ => lifted os started H enc)
#print axioms proved


end Go.Proofs.Ytnjlfbcfnmdkkaa.qminForms
