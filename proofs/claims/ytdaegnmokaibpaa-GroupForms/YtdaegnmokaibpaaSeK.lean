/- GroupForms' ways: records of which a part may not be are refused. -/
import Derived.Test.YtdaegnmokaibpaaSeJ
import Derived.Lib.AppendZerosOnto
namespace Go.Proofs.Ytdaegnmokaibpaa.groupForms
open Go.RowKit
open Pl

/-- The record of the statement. -/
def gfR (c : Int) : Rc := ⟨⟨#[1, 97, 0]⟩, 1, c, 5, ⟨#[97, 98, 99, 100]⟩⟩
theorem gf_ok0 : okR (gfR 0) = true := by kernel_rfl
theorem gf_ok (c : Int) : okR (gfR c) = true := gf_ok0
theorem gf_good (c : Int) : badG [gfR c, gfR c] = false := by
  unfold badG; simp [gf_ok]
theorem gf_none {c : Int} (h : c ≠ 1) : grpS [gfR c, gfR c] = [] := by
  have h2 : (gfR c).c ≠ 1 := h
  unfold grpS; simp [stepS, h2]
theorem gf_bad {c : Int} {r : Rc} (h : okR r = false) : badG [gfR c, r] = true := by
  unfold badG; simp [h]
theorem ok_no {n : ByteArray} {t c l : Int} {d : ByteArray} (h : isName n.data.toList = false ∨ inB 4294967295 l = false ∨ mayD t d.data.toList = false) : okR ⟨n, t, c, l, d⟩ = false := by
  unfold okR
  rcases h with h | h | h <;> simp [h]
theorem may_out {t : Int} {l : List UInt8} (h : t < 1 ∨ 65535 < t) : mayD t l = false := by
  cases e : mayD t l with
  | false => rfl
  | true =>
    have := may_type e
    unfold inB at this
    rw [decide_eq_true_eq] at this
    rcases kinds t with rfl | rfl | h1 | rfl | rfl | rfl | h1
    · omega
    · omega
    · omega
    · omega
    · omega
    · omega
    · rw [may_o h1] at e
      simp only [Bool.and_eq_true, decide_eq_true_eq] at e
      omega
theorem gf_g1 {c : Int} (h : c ≠ 1) (u : World) (g : Nat) (hk : Blk u g (rC [gfR c, gfR c]).toArray 43) : Calls Try.prog 10 #[.slice (some ⟨g, 0, none⟩) 2 2] u fun e w' => ∃ (y : Option Addr) (c : Nat), e = .returned (.tuple #[.slice y 0 c, .int .i64 0]) ∧ Below u.heap.size u w' :=
  (group_ok _ [gfR c, gfR c] u (rrow_blk hk (by simp) (by show 2 ≤ 1000; decide) (by intro r hr; simp at hr; subst hr; exact ⟨by show 3 ≤ 100000; decide, by show 4 ≤ 100000; decide⟩)) (gf_good c)).mono fun e w' ⟨y, c, ps, h1, h2, _, h4⟩ => by
    rw [gf_none h] at h2
    have : ps = [] := by simpa using h2
    subst this
    exact ⟨y, c, h1, h4⟩
theorem gf_g2 {c : Int} (r : Rc) (h : okR r = false) (hn : r.n.size ≤ 100000) (hd : r.d.size ≤ 100000) (u : World) (g : Nat) (C : Array Value) (hk : Blk u g C 43) (hC : C.toList = rC [gfR c, r]) : Calls Try.prog 10 #[.slice (some ⟨g, 0, none⟩) 2 2] u fun e w' => e = .returned (.tuple #[.slice none 0 0, .int .i64 1100]) ∧ Below u.heap.size u w' :=
  group_bad _ [gfR c, r] u (rrow_blk (rs := [gfR c, r]) hk hC (by show 2 ≤ 1000; decide) (by intro r' hr; simp at hr; rcases hr with rfl | rfl; exact ⟨by show 3 ≤ 100000; decide, by show 4 ≤ 100000; decide⟩; exact ⟨hn, hd⟩)) (gf_bad h)
theorem blk2 (w : World) (o : Obj) (C : Array Value) (t : TypeId) : Blk ((w.alloc o).alloc (.cells C t)) (w.heap.size + 1) C t := by
  have := Blk.new (w.alloc o) C t
  rw [World.size_alloc] at this
  exact this

set_option maxRecDepth 20000 in
set_option maxHeartbeats 2000000 in
theorem c0 (which x U e : Int) (w : World) (hU : IntKind.u64.wrap which = U) (hm : U.tmod 7 = 0) (m63 : bits .and .i64 x 63 = e) (e0 : 0 ≤ e) (e1 : e < 64) :
    Calls Try.prog 6 #[.int .i64 which, .int .i64 x] w fun e w' => e = .returned (.bool true) ∧ Below w.heap.size w w' := by
  have hb : Below w.heap.size w w := Below.refl _ _
  have t1 : True := trivial
  have hc1 : 1 + (1 + e) ≠ 1 := by omega
  have HP : Hid (okR ⟨⟨#[97]⟩, 1, (1 + (1 + e)), 5, ⟨#[97, 98, 99, 100]⟩⟩ = false) := ok_no (.inl (by decide +kernel))
  have HA : Hid ((⟨⟨#[97]⟩, 1, (1 + (1 + e)), 5, ⟨#[97, 98, 99, 100]⟩⟩ : Rc).n.size ≤ 100000) := by show 1 ≤ 100000; decide
  have HD : Hid ((⟨⟨#[97]⟩, 1, (1 + (1 + e)), 5, ⟨#[97, 98, 99, 100]⟩⟩ : Rc).d.size ≤ 100000) := by show 4 ≤ 100000; decide
  go_enter Try.func6, Try.ntmps6
  go_wp2_with (first
    | (go_at_call 16; refine (num_any _ _).mono ?_; rintro e w' ⟨rfl, hw⟩; obtain rfl := hw.symm)
    | (go_at_call 21; go_must (refine (awake_any _).mono ?_); rintro e w0 ⟨rfl, bb⟩; replace hb := next hb bb; clear bb)
    | (go_at_call 10; have _t := t1; go_must (refine (gf_g1 hc1 _ _ (blk2 w0 _ _ _)).mono ?_); rintro e w1 ⟨y, cc, rfl, bb⟩; have KW : Hid (Blk w1 (w0.heap.size + 1) #[.string ⟨#[1, 97, 0]⟩, .int .i64 1, .int .i64 (1 + (1 + e)), .int .i64 5, .string ⟨#[97, 98, 99, 100]⟩, .string ⟨#[1, 97, 0]⟩, .int .i64 1, .int .i64 (1 + (1 + e)), .int .i64 5, .string ⟨#[97, 98, 99, 100]⟩] 43) := (blk2 w0 _ _ _).below bb; have lt0 := hb.size; replace hb := next (lay (lay hb _) _) bb; have ff := KW.out.frozen 5; have kk : w1.cell? ⟨w0.heap.size + 1, 5, none⟩ = some (.string ⟨#[1, 97, 0]⟩) := KW.out.cell 5; clear bb t1)
    | (go_at_call 10; go_must (refine (gf_g2 ⟨⟨#[97]⟩, 1, (1 + (1 + e)), 5, ⟨#[97, 98, 99, 100]⟩⟩ HP.out HA.out HD.out (w1.setCell ⟨w0.heap.size + 1, 5, none⟩ (.string ⟨#[97]⟩)) _ _ (KW.out.set 5 (.string ⟨#[97]⟩)) rfl).mono ?_); rintro e w2 ⟨rfl, bb⟩; replace hb := next (hb.setCell (p := ⟨w0.heap.size + 1, 5, none⟩) (Nat.le_trans lt0 (Nat.le_succ _)) (.string ⟨#[97]⟩)) bb; clear bb))
  go_ret
  exact ⟨rfl, hb⟩

set_option maxRecDepth 20000 in
set_option maxHeartbeats 2000000 in
theorem c1 (which x U e : Int) (w : World) (hU : IntKind.u64.wrap which = U) (hm : U.tmod 7 = 1) (m63 : bits .and .i64 x 63 = e) (e0 : 0 ≤ e) (e1 : e < 64) :
    Calls Try.prog 6 #[.int .i64 which, .int .i64 x] w fun e w' => e = .returned (.bool true) ∧ Below w.heap.size w w' := by
  have hb : Below w.heap.size w w := Below.refl _ _
  have t1 : True := trivial
  have hc1 : 1 + (1 + e) ≠ 1 := by omega
  have HP : Hid (okR ⟨⟨#[1, 97, 0]⟩, 65535 + (1 + e), (1 + (1 + e)), 5, ⟨#[97, 98, 99, 100]⟩⟩ = false) := ok_no (.inr (.inr (may_out (by omega))))
  have HA : Hid ((⟨⟨#[1, 97, 0]⟩, 65535 + (1 + e), (1 + (1 + e)), 5, ⟨#[97, 98, 99, 100]⟩⟩ : Rc).n.size ≤ 100000) := by show 3 ≤ 100000; decide
  have HD : Hid ((⟨⟨#[1, 97, 0]⟩, 65535 + (1 + e), (1 + (1 + e)), 5, ⟨#[97, 98, 99, 100]⟩⟩ : Rc).d.size ≤ 100000) := by show 4 ≤ 100000; decide
  go_enter Try.func6, Try.ntmps6
  go_wp2_with (first
    | (go_at_call 16; refine (num_any _ _).mono ?_; rintro e w' ⟨rfl, hw⟩; obtain rfl := hw.symm)
    | (go_at_call 21; go_must (refine (awake_any _).mono ?_); rintro e w0 ⟨rfl, bb⟩; replace hb := next hb bb; clear bb)
    | (go_at_call 10; have _t := t1; go_must (refine (gf_g1 hc1 _ _ (blk2 w0 _ _ _)).mono ?_); rintro e w1 ⟨y, cc, rfl, bb⟩; have KW : Hid (Blk w1 (w0.heap.size + 1) #[.string ⟨#[1, 97, 0]⟩, .int .i64 1, .int .i64 (1 + (1 + e)), .int .i64 5, .string ⟨#[97, 98, 99, 100]⟩, .string ⟨#[1, 97, 0]⟩, .int .i64 1, .int .i64 (1 + (1 + e)), .int .i64 5, .string ⟨#[97, 98, 99, 100]⟩] 43) := (blk2 w0 _ _ _).below bb; have lt0 := hb.size; replace hb := next (lay (lay hb _) _) bb; have ff := KW.out.frozen 6; have kk : w1.cell? ⟨w0.heap.size + 1, 6, none⟩ = some (.int .i64 1) := KW.out.cell 6; clear bb t1)
    | (go_at_call 10; go_must (refine (gf_g2 ⟨⟨#[1, 97, 0]⟩, 65535 + (1 + e), (1 + (1 + e)), 5, ⟨#[97, 98, 99, 100]⟩⟩ HP.out HA.out HD.out (w1.setCell ⟨w0.heap.size + 1, 6, none⟩ (.int .i64 (65535 + (1 + e)))) _ _ (KW.out.set 6 (.int .i64 (65535 + (1 + e)))) rfl).mono ?_); rintro e w2 ⟨rfl, bb⟩; replace hb := next (hb.setCell (p := ⟨w0.heap.size + 1, 6, none⟩) (Nat.le_trans lt0 (Nat.le_succ _)) (.int .i64 (65535 + (1 + e)))) bb; clear bb))
  go_ret
  exact ⟨rfl, hb⟩

set_option maxRecDepth 20000 in
set_option maxHeartbeats 2000000 in
theorem c2 (which x U e : Int) (w : World) (hU : IntKind.u64.wrap which = U) (hm : U.tmod 7 = 2) (m63 : bits .and .i64 x 63 = e) (e0 : 0 ≤ e) (e1 : e < 64) :
    Calls Try.prog 6 #[.int .i64 which, .int .i64 x] w fun e w' => e = .returned (.bool true) ∧ Below w.heap.size w w' := by
  have hb : Below w.heap.size w w := Below.refl _ _
  have t1 : True := trivial
  have hc1 : 1 + (1 + e) ≠ 1 := by omega
  have HP : Hid (okR ⟨⟨#[1, 97, 0]⟩, 1 - (1 + e), (1 + (1 + e)), 5, ⟨#[97, 98, 99, 100]⟩⟩ = false) := ok_no (.inr (.inr (may_out (by omega))))
  have HA : Hid ((⟨⟨#[1, 97, 0]⟩, 1 - (1 + e), (1 + (1 + e)), 5, ⟨#[97, 98, 99, 100]⟩⟩ : Rc).n.size ≤ 100000) := by show 3 ≤ 100000; decide
  have HD : Hid ((⟨⟨#[1, 97, 0]⟩, 1 - (1 + e), (1 + (1 + e)), 5, ⟨#[97, 98, 99, 100]⟩⟩ : Rc).d.size ≤ 100000) := by show 4 ≤ 100000; decide
  go_enter Try.func6, Try.ntmps6
  go_wp2_with (first
    | (go_at_call 16; refine (num_any _ _).mono ?_; rintro e w' ⟨rfl, hw⟩; obtain rfl := hw.symm)
    | (go_at_call 21; go_must (refine (awake_any _).mono ?_); rintro e w0 ⟨rfl, bb⟩; replace hb := next hb bb; clear bb)
    | (go_at_call 10; have _t := t1; go_must (refine (gf_g1 hc1 _ _ (blk2 w0 _ _ _)).mono ?_); rintro e w1 ⟨y, cc, rfl, bb⟩; have KW : Hid (Blk w1 (w0.heap.size + 1) #[.string ⟨#[1, 97, 0]⟩, .int .i64 1, .int .i64 (1 + (1 + e)), .int .i64 5, .string ⟨#[97, 98, 99, 100]⟩, .string ⟨#[1, 97, 0]⟩, .int .i64 1, .int .i64 (1 + (1 + e)), .int .i64 5, .string ⟨#[97, 98, 99, 100]⟩] 43) := (blk2 w0 _ _ _).below bb; have lt0 := hb.size; replace hb := next (lay (lay hb _) _) bb; have ff := KW.out.frozen 6; have kk : w1.cell? ⟨w0.heap.size + 1, 6, none⟩ = some (.int .i64 1) := KW.out.cell 6; clear bb t1)
    | (go_at_call 10; go_must (refine (gf_g2 ⟨⟨#[1, 97, 0]⟩, 1 - (1 + e), (1 + (1 + e)), 5, ⟨#[97, 98, 99, 100]⟩⟩ HP.out HA.out HD.out (w1.setCell ⟨w0.heap.size + 1, 6, none⟩ (.int .i64 (1 - (1 + e)))) _ _ (KW.out.set 6 (.int .i64 (1 - (1 + e)))) rfl).mono ?_); rintro e w2 ⟨rfl, bb⟩; replace hb := next (hb.setCell (p := ⟨w0.heap.size + 1, 6, none⟩) (Nat.le_trans lt0 (Nat.le_succ _)) (.int .i64 (1 - (1 + e)))) bb; clear bb))
  go_ret
  exact ⟨rfl, hb⟩

set_option maxRecDepth 20000 in
set_option maxHeartbeats 2000000 in
theorem c3 (which x U e : Int) (w : World) (hU : IntKind.u64.wrap which = U) (hm : U.tmod 7 = 3) (m63 : bits .and .i64 x 63 = e) (e0 : 0 ≤ e) (e1 : e < 64) :
    Calls Try.prog 6 #[.int .i64 which, .int .i64 x] w fun e w' => e = .returned (.bool true) ∧ Below w.heap.size w w' := by
  have hb : Below w.heap.size w w := Below.refl _ _
  have t1 : True := trivial
  have hc1 : 1 + (1 + e) ≠ 1 := by omega
  have HP : Hid (okR ⟨⟨#[1, 97, 0]⟩, 1, (1 + (1 + e)), -(1 + e), ⟨#[97, 98, 99, 100]⟩⟩ = false) := ok_no (.inr (.inl (by unfold inB; simp; omega)))
  have HA : Hid ((⟨⟨#[1, 97, 0]⟩, 1, (1 + (1 + e)), -(1 + e), ⟨#[97, 98, 99, 100]⟩⟩ : Rc).n.size ≤ 100000) := by show 3 ≤ 100000; decide
  have HD : Hid ((⟨⟨#[1, 97, 0]⟩, 1, (1 + (1 + e)), -(1 + e), ⟨#[97, 98, 99, 100]⟩⟩ : Rc).d.size ≤ 100000) := by show 4 ≤ 100000; decide
  go_enter Try.func6, Try.ntmps6
  go_wp2_with (first
    | (go_at_call 16; refine (num_any _ _).mono ?_; rintro e w' ⟨rfl, hw⟩; obtain rfl := hw.symm)
    | (go_at_call 21; go_must (refine (awake_any _).mono ?_); rintro e w0 ⟨rfl, bb⟩; replace hb := next hb bb; clear bb)
    | (go_at_call 10; have _t := t1; go_must (refine (gf_g1 hc1 _ _ (blk2 w0 _ _ _)).mono ?_); rintro e w1 ⟨y, cc, rfl, bb⟩; have KW : Hid (Blk w1 (w0.heap.size + 1) #[.string ⟨#[1, 97, 0]⟩, .int .i64 1, .int .i64 (1 + (1 + e)), .int .i64 5, .string ⟨#[97, 98, 99, 100]⟩, .string ⟨#[1, 97, 0]⟩, .int .i64 1, .int .i64 (1 + (1 + e)), .int .i64 5, .string ⟨#[97, 98, 99, 100]⟩] 43) := (blk2 w0 _ _ _).below bb; have lt0 := hb.size; replace hb := next (lay (lay hb _) _) bb; have ff := KW.out.frozen 8; have kk : w1.cell? ⟨w0.heap.size + 1, 8, none⟩ = some (.int .i64 5) := KW.out.cell 8; clear bb t1)
    | (go_at_call 10; go_must (refine (gf_g2 ⟨⟨#[1, 97, 0]⟩, 1, (1 + (1 + e)), -(1 + e), ⟨#[97, 98, 99, 100]⟩⟩ HP.out HA.out HD.out (w1.setCell ⟨w0.heap.size + 1, 8, none⟩ (.int .i64 (-(1 + e)))) _ _ (KW.out.set 8 (.int .i64 (-(1 + e)))) rfl).mono ?_); rintro e w2 ⟨rfl, bb⟩; replace hb := next (hb.setCell (p := ⟨w0.heap.size + 1, 8, none⟩) (Nat.le_trans lt0 (Nat.le_succ _)) (.int .i64 (-(1 + e)))) bb; clear bb))
  go_ret
  exact ⟨rfl, hb⟩

set_option maxRecDepth 20000 in
set_option maxHeartbeats 2000000 in
theorem c4 (which x U e : Int) (w : World) (hU : IntKind.u64.wrap which = U) (hm : U.tmod 7 = 4) (m63 : bits .and .i64 x 63 = e) (e0 : 0 ≤ e) (e1 : e < 64) :
    Calls Try.prog 6 #[.int .i64 which, .int .i64 x] w fun e w' => e = .returned (.bool true) ∧ Below w.heap.size w w' := by
  have hb : Below w.heap.size w w := Below.refl _ _
  have t1 : True := trivial
  have hc1 : 1 + (1 + e) ≠ 1 := by omega
  have HP : Hid (okR ⟨⟨#[1, 97, 0]⟩, 1, (1 + (1 + e)), 4294967295 + (1 + e), ⟨#[97, 98, 99, 100]⟩⟩ = false) := ok_no (.inr (.inl (by unfold inB; simp; omega)))
  have HA : Hid ((⟨⟨#[1, 97, 0]⟩, 1, (1 + (1 + e)), 4294967295 + (1 + e), ⟨#[97, 98, 99, 100]⟩⟩ : Rc).n.size ≤ 100000) := by show 3 ≤ 100000; decide
  have HD : Hid ((⟨⟨#[1, 97, 0]⟩, 1, (1 + (1 + e)), 4294967295 + (1 + e), ⟨#[97, 98, 99, 100]⟩⟩ : Rc).d.size ≤ 100000) := by show 4 ≤ 100000; decide
  go_enter Try.func6, Try.ntmps6
  go_wp2_with (first
    | (go_at_call 16; refine (num_any _ _).mono ?_; rintro e w' ⟨rfl, hw⟩; obtain rfl := hw.symm)
    | (go_at_call 21; go_must (refine (awake_any _).mono ?_); rintro e w0 ⟨rfl, bb⟩; replace hb := next hb bb; clear bb)
    | (go_at_call 10; have _t := t1; go_must (refine (gf_g1 hc1 _ _ (blk2 w0 _ _ _)).mono ?_); rintro e w1 ⟨y, cc, rfl, bb⟩; have KW : Hid (Blk w1 (w0.heap.size + 1) #[.string ⟨#[1, 97, 0]⟩, .int .i64 1, .int .i64 (1 + (1 + e)), .int .i64 5, .string ⟨#[97, 98, 99, 100]⟩, .string ⟨#[1, 97, 0]⟩, .int .i64 1, .int .i64 (1 + (1 + e)), .int .i64 5, .string ⟨#[97, 98, 99, 100]⟩] 43) := (blk2 w0 _ _ _).below bb; have lt0 := hb.size; replace hb := next (lay (lay hb _) _) bb; have ff := KW.out.frozen 8; have kk : w1.cell? ⟨w0.heap.size + 1, 8, none⟩ = some (.int .i64 5) := KW.out.cell 8; clear bb t1)
    | (go_at_call 10; go_must (refine (gf_g2 ⟨⟨#[1, 97, 0]⟩, 1, (1 + (1 + e)), 4294967295 + (1 + e), ⟨#[97, 98, 99, 100]⟩⟩ HP.out HA.out HD.out (w1.setCell ⟨w0.heap.size + 1, 8, none⟩ (.int .i64 (4294967295 + (1 + e)))) _ _ (KW.out.set 8 (.int .i64 (4294967295 + (1 + e)))) rfl).mono ?_); rintro e w2 ⟨rfl, bb⟩; replace hb := next (hb.setCell (p := ⟨w0.heap.size + 1, 8, none⟩) (Nat.le_trans lt0 (Nat.le_succ _)) (.int .i64 (4294967295 + (1 + e)))) bb; clear bb))
  go_ret
  exact ⟨rfl, hb⟩

set_option maxRecDepth 20000 in
set_option maxHeartbeats 2000000 in
theorem c5 (which x U e : Int) (w : World) (hU : IntKind.u64.wrap which = U) (hm : U.tmod 7 = 5) (m63 : bits .and .i64 x 63 = e) (e0 : 0 ≤ e) (e1 : e < 64) :
    Calls Try.prog 6 #[.int .i64 which, .int .i64 x] w fun e w' => e = .returned (.bool true) ∧ Below w.heap.size w w' := by
  have hb : Below w.heap.size w w := Below.refl _ _
  have t1 : True := trivial
  have hc1 : 1 + (1 + e) ≠ 1 := by omega
  have HP : Hid (okR ⟨⟨#[1, 97, 0]⟩, 1, (1 + (1 + e)), 5, ⟨#[97, 98, 99]⟩⟩ = false) := ok_no (.inr (.inr (by decide +kernel)))
  have HA : Hid ((⟨⟨#[1, 97, 0]⟩, 1, (1 + (1 + e)), 5, ⟨#[97, 98, 99]⟩⟩ : Rc).n.size ≤ 100000) := by show 3 ≤ 100000; decide
  have HD : Hid ((⟨⟨#[1, 97, 0]⟩, 1, (1 + (1 + e)), 5, ⟨#[97, 98, 99]⟩⟩ : Rc).d.size ≤ 100000) := by show 3 ≤ 100000; decide
  go_enter Try.func6, Try.ntmps6
  go_wp2_with (first
    | (go_at_call 16; refine (num_any _ _).mono ?_; rintro e w' ⟨rfl, hw⟩; obtain rfl := hw.symm)
    | (go_at_call 21; go_must (refine (awake_any _).mono ?_); rintro e w0 ⟨rfl, bb⟩; replace hb := next hb bb; clear bb)
    | (go_at_call 10; have _t := t1; go_must (refine (gf_g1 hc1 _ _ (blk2 w0 _ _ _)).mono ?_); rintro e w1 ⟨y, cc, rfl, bb⟩; have KW : Hid (Blk w1 (w0.heap.size + 1) #[.string ⟨#[1, 97, 0]⟩, .int .i64 1, .int .i64 (1 + (1 + e)), .int .i64 5, .string ⟨#[97, 98, 99, 100]⟩, .string ⟨#[1, 97, 0]⟩, .int .i64 1, .int .i64 (1 + (1 + e)), .int .i64 5, .string ⟨#[97, 98, 99, 100]⟩] 43) := (blk2 w0 _ _ _).below bb; have lt0 := hb.size; replace hb := next (lay (lay hb _) _) bb; have ff := KW.out.frozen 9; have kk : w1.cell? ⟨w0.heap.size + 1, 9, none⟩ = some (.string ⟨#[97, 98, 99, 100]⟩) := KW.out.cell 9; clear bb t1)
    | (go_at_call 10; go_must (refine (gf_g2 ⟨⟨#[1, 97, 0]⟩, 1, (1 + (1 + e)), 5, ⟨#[97, 98, 99]⟩⟩ HP.out HA.out HD.out (w1.setCell ⟨w0.heap.size + 1, 9, none⟩ (.string ⟨#[97, 98, 99]⟩)) _ _ (KW.out.set 9 (.string ⟨#[97, 98, 99]⟩)) rfl).mono ?_); rintro e w2 ⟨rfl, bb⟩; replace hb := next (hb.setCell (p := ⟨w0.heap.size + 1, 9, none⟩) (Nat.le_trans lt0 (Nat.le_succ _)) (.string ⟨#[97, 98, 99]⟩)) bb; clear bb))
  go_ret
  exact ⟨rfl, hb⟩

theorem zero64 (c : Int) (k : Nat) : ((rC [gfR c, gfR c]).toArray ++ Builtin.zeroCells (Value.agg #[.string ⟨#[]⟩, .int .i64 0, .int .i64 0, .int .i64 0, .string ⟨#[]⟩]).cells 64 ++ Builtin.zeroCells (Value.agg #[.string ⟨#[]⟩, .int .i64 0, .int .i64 0, .int .i64 0, .string ⟨#[]⟩]).cells k).toList.take (66 * 5) = rC ([gfR c, gfR c] ++ List.replicate 64 ⟨⟨#[]⟩, 0, 0, 0, ⟨#[]⟩⟩) := by
  have h1 : Builtin.zeroCells (Value.agg #[.string ⟨#[]⟩, .int .i64 0, .int .i64 0, .int .i64 0, .string ⟨#[]⟩]).cells 64 = madeCells (Value.agg #[.string ⟨#[]⟩, .int .i64 0, .int .i64 0, .int .i64 0, .string ⟨#[]⟩]).cells (64 * 5) := by
    kernel_rfl
  rw [Array.toList_append, Array.toList_append, h1, made5, rC_app]
  rw [List.take_left' (by simp [rC_len])]
theorem grow66 (c : Int) (u : World) (g : Nat) (hk : Blk u g (rC [gfR c, gfR c]).toArray 43) : ∃ (g' c' : Nat) (w' : World), (∀ ty, (Builtin.append_ #[22, 3] ty #[.slice (some ⟨g, 0, none⟩) 2 2, .int .i64 64]).run Try.prog u = .ok (.slice (some ⟨g', 0, none⟩) 66 c') w') ∧ RRow w' (.slice (some ⟨g', 0, none⟩) 66 c') ([gfR c, gfR c] ++ List.replicate 64 ⟨⟨#[]⟩, 0, 0, 0, ⟨#[]⟩⟩) ∧ Below u.heap.size u w' := by
  obtain ⟨i0, hi, hz0, hz1, hz2⟩ := info_parts infoR'
  have hold : (Builtin.firstCells i0.size 2 (.slice (some ⟨g, 0, none⟩) 2 2)).run Try.prog u.drew = .ok (rC [gfR c, gfR c]).toArray u.drew := by
    rw [hz1]
    exact run_firstCells_some u.drew 5 2 ⟨g, 0, none⟩ 2 2 (rC [gfR c, gfR c]) (by rw [rC_len]; rfl) (fun j v hj => by
      rw [show (⟨g, 0, none⟩ : Addr).add j = ⟨g, j, none⟩ from by unfold Addr.add; split <;> simp_all]
      have := hk.cell j
      show u.cell? _ = _
      rw [this, ← hj]; simp)
  have hrun := fun ty => Lib.run_append_grow_zeros (P := Try.prog) u 22 3 ty 43 i0 _ .i64 .i64 Try.underlying22 Try.underlying3 hi hz0 (some ⟨g, 0, none⟩) 2 2 _ hold 64 (by decide) (by rw [hz1]; decide) (by decide) (by decide) (by rw [hz2]; decide) (by rw [hz2]; decide)
  obtain ⟨K, hK⟩ : ∃ K, grownCap u (2 + 64) 2 43 = K := ⟨_, rfl⟩
  rw [hK] at hrun
  have hKm : K ≤ maxLen := by rw [← hK]; exact grownCap_le_maxLen _ _ _ _ (small100 (by decide))
  have hK66 : 66 ≤ K := by rw [← hK]; exact grownCap_ge _ _ _ _
  refine ⟨u.heap.size, K, _, hrun, ⟨?_, small100 (by simp), ?_⟩, lay (below_drew ⟨1, rfl⟩) _⟩
  · refine Row.of_own (base := 0) (e := 43) (z := 5) ⟨by rw [rC_len], .inr ⟨u.heap.size, K, _, rfl, Nat.zero_le _, heap_alloc_new u.drew _, hK66, hKm, ?_, zero64 c _⟩⟩
    rw [Array.size_append, Array.size_append, size_zeroCells, size_zeroCells, show (Value.agg #[.string ⟨#[]⟩, .int .i64 0, .int .i64 0, .int .i64 0, .string ⟨#[]⟩]).cells.size = 5 from rfl, List.size_toArray, rC_len]
    show 2 * 5 + 64 * 5 + (K - 66) * 5 = K * 5
    omega
  · intro r hr
    rcases List.mem_append.1 hr with hr | hr
    · simp at hr
      subst hr
      exact ⟨small100 (by show 3 ≤ 100000; decide), small100 (by show 4 ≤ 100000; decide)⟩
    · have := List.eq_of_mem_replicate hr
      subst this
      exact ⟨small100 (by decide), small100 (by decide)⟩
set_option maxRecDepth 20000 in
set_option maxHeartbeats 2000000 in
theorem c6 (which x U e : Int) (w : World) (hU : IntKind.u64.wrap which = U) (hm : U.tmod 7 = 6) (m63 : bits .and .i64 x 63 = e) (e0 : 0 ≤ e) (e1 : e < 64) :
    Calls Try.prog 6 #[.int .i64 which, .int .i64 x] w fun e w' => e = .returned (.bool true) ∧ Below w.heap.size w w' := by
  have hb : Below w.heap.size w w := Below.refl _ _
  have t1 : True := trivial
  have hc1 : 1 + (1 + e) ≠ 1 := by omega
  go_enter Try.func6, Try.ntmps6
  go_wp2_with (first
    | (go_at_call 16; refine (num_any _ _).mono ?_; rintro e w' ⟨rfl, hw⟩; obtain rfl := hw.symm)
    | (go_at_call 21; go_must (refine (awake_any _).mono ?_); rintro e w0 ⟨rfl, bb⟩; replace hb := next hb bb; clear bb)
    | (go_at_call 10; have _t := t1; go_must (refine (gf_g1 hc1 _ _ (blk2 w0 _ _ _)).mono ?_); rintro e w1 ⟨y, cc, rfl, bb⟩; have KW : Hid (Blk w1 (w0.heap.size + 1) #[.string ⟨#[1, 97, 0]⟩, .int .i64 1, .int .i64 (1 + (1 + e)), .int .i64 5, .string ⟨#[97, 98, 99, 100]⟩, .string ⟨#[1, 97, 0]⟩, .int .i64 1, .int .i64 (1 + (1 + e)), .int .i64 5, .string ⟨#[97, 98, 99, 100]⟩] 43) := (blk2 w0 _ _ _).below bb; have lt0 := hb.size; replace hb := next (lay (lay hb _) _) bb; obtain ⟨g3, c3, w3, hrun, hrow, b3⟩ := grow66 (1 + (1 + e)) w1 (w0.heap.size + 1) KW.out; have HR : Hid (RRow w3 (.slice (some ⟨g3, 0, none⟩) 66 c3) ([gfR (1 + (1 + e)), gfR (1 + (1 + e))] ++ List.replicate 64 ⟨⟨#[]⟩, 0, 0, 0, ⟨#[]⟩⟩)) := hrow; replace hb := next hb b3; clear hrow b3; clear bb t1)
    | (at_builtin; refine Lib.wpList_append_run _ rfl _ _ _ _ rfl _ _ rfl rfl _ _ (hrun _) ?_)
    | (go_at_call 10; go_must (refine (group_bad _ _ _ HR.out rfl).mono ?_); rintro e w2 ⟨rfl, bb⟩; replace hb := next hb bb; clear bb))
  go_ret
  exact ⟨rfl, hb⟩

end Go.Proofs.Ytdaegnmokaibpaa.groupForms
