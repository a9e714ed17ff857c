/- OptForms, cases 0 to 7: an OPT of which a part may not be is refused. -/
import Derived.Test.YtehldafdjldpbaaOpI
namespace Go.Proofs.Ytehldafdjldpbaa.optForms
open Go.RowKit

def ofO : Ot := ⟨5, 0, 0, false, 0, [⟨1, ⟨#[97]⟩⟩]⟩
theorem of_may : mayOt ofO = true := by decide +kernel
theorem of_p1 : ∃ T : ByteArray, ∀ {v : Value} (u : World), ORow u v [⟨1, ⟨#[97]⟩⟩] → Calls Try.prog 9 #[.agg #[.int .i64 5, .int .i64 0, .int .i64 0, .bool false, .int .i64 0, v]] u fun e w' => e = .returned (.tuple #[.agg #[.string ⟨#[0]⟩, .int .i64 41, .int .i64 5, .int .i64 0, .string T], .int .i64 0]) ∧ Below u.heap.size u w' := by
  refine ⟨⟨(osB ofO.os).toArray⟩, fun {v} u h => ?_⟩
  have := optPut_any ofO v u h
  rw [putOV_yes of_may, show ttlO ofO = 0 from by decide +kernel] at this
  exact this
theorem of_p2 (s e vv : Int) (b : Bool) (z : Int) (os : List On) (v : Value) (u : World) (hm : mayOt ⟨s, e, vv, b, z, os⟩ = false) (h : ORow u v os) : Calls Try.prog 9 #[.agg #[.int .i64 s, .int .i64 e, .int .i64 vv, .bool b, .int .i64 z, v]] u fun e w' => e = .returned (.tuple #[.agg #[.string ⟨#[]⟩, .int .i64 0, .int .i64 0, .int .i64 0, .string ⟨#[]⟩], .int .i64 800]) ∧ Below u.heap.size u w' := by
  have := optPut_any ⟨s, e, vv, b, z, os⟩ v u h
  rw [putOV_no hm] at this
  exact this
theorem fitO_no {p x : Int} (h : x < 0 ∨ p ≤ x) : fitO p x = false := by unfold fitO; simp; omega
theorem of_no {s e v z : Int} {b : Bool} {os : List On} (h : fitO 65536 s = false ∨ fitO 256 e = false ∨ fitO 256 v = false ∨ fitO 32768 z = false ∨ mayOs os = false) : mayOt ⟨s, e, v, b, z, os⟩ = false := by
  unfold mayOt mayFl
  simp only
  rcases h with h | h | h | h | h <;> simp [h]
/-- Where the OPT lies. -/
structure OF (w : World) (b : Nat) : Prop where
  o : Blk w b #[.int .i64 1, .string ⟨#[97]⟩] 52
  m : Blk w (b + 1) #[.int .i64 5, .int .i64 0, .int .i64 0, .bool false, .int .i64 0, .slice (some ⟨b, 0, none⟩) 1 1] 24
theorem OF.below {w w' : World} {b : Nat} (h : OF w b) (hb : Below w.heap.size w w') : OF w' b := ⟨h.o.below hb, h.m.below hb⟩
theorem of_new (w : World) : OF ((w.alloc (.cells #[.int .i64 1, .string ⟨#[97]⟩] 52)).alloc (.cells #[.int .i64 5, .int .i64 0, .int .i64 0, .bool false, .int .i64 0, .slice (some ⟨w.heap.size, 0, none⟩) 1 1] 24)) w.heap.size := by
  have k1 := Blk.new (w.alloc (.cells #[.int .i64 1, .string ⟨#[97]⟩] 52)) #[.int .i64 5, .int .i64 0, .int .i64 0, .bool false, .int .i64 0, .slice (some ⟨w.heap.size, 0, none⟩) 1 1] 24
  simp only [World.size_alloc] at k1
  exact ⟨(Blk.new w _ _).alloc _, k1⟩
theorem OF.row {w : World} {b : Nat} (h : OF w b) : ORow w (.slice (some ⟨b, 0, none⟩) 1 1) [⟨1, ⟨#[97]⟩⟩] := orow_lit (o := ⟨1, ⟨#[97]⟩⟩) h.o (by simp only; decide)

set_option maxRecDepth 20000 in
set_option maxHeartbeats 2000000 in
theorem c0 (which x U e : Int) (w : World) (hU : IntKind.u64.wrap which = U) (hm : U.tmod 10 = 0) (m63 : bits .and .i64 x 63 = e) (e0 : 0 ≤ e) (e1 : e < 64) :
    Calls Try.prog 5 #[.int .i64 which, .int .i64 x] w fun e w' => e = .returned (.bool true) ∧ Below w.heap.size w w' := by
  have hb : Below w.heap.size w w := Below.refl _ _
  obtain ⟨T, P1⟩ := of_p1
  have t1 : True := trivial
  have HP2 : Hid (mayOt ⟨(-(1 + e)), 0, 0, false, 0, [⟨1, ⟨#[97]⟩⟩]⟩ = false) := of_no (.inl (fitO_no (by omega)))
  go_enter Try.func5, Try.ntmps5
  go_wp2_with (first
    | (go_at_call 15; refine (num_any _ _).mono ?_; rintro e w' ⟨rfl, hw⟩; obtain rfl := hw.symm)
    | (go_at_call 19; go_must (refine (awake_any _).mono ?_); rintro e w0 ⟨rfl, bb⟩; replace hb := next hb bb; have lt0 := hb.size; clear bb)
    | (go_at_call 9; have _t := t1; go_must (refine (P1 _ (of_new w0).row).mono ?_); rintro e w1 ⟨rfl, bb⟩; replace bb := next bb (lay (Below.refl _ _) (.cells #[.string ⟨#[0]⟩, .int .i64 41, .int .i64 5, .int .i64 0, .string T] 26)); have KW : Hid (OF (w1.alloc (.cells #[.string ⟨#[0]⟩, .int .i64 41, .int .i64 5, .int .i64 0, .string T] 26)) w0.heap.size) := (of_new w0).below bb; obtain ⟨m0, m1, m2, m3, m4, m5⟩ := KW.out.m.six'; have ff := KW.out.m.frozen 0; replace hb := next (lay (lay hb _) _) bb; clear bb t1 _t)
    | (go_at_call 9; go_must (refine (of_p2 (-(1 + e)) 0 0 false 0 [⟨1, ⟨#[97]⟩⟩] _ ((w1.alloc (.cells #[.string ⟨#[0]⟩, .int .i64 41, .int .i64 5, .int .i64 0, .string T] 26)).setCell ⟨w0.heap.size + 1, 0, none⟩ (.int .i64 (-(1 + e)))) HP2.out (orow_lit (o := ⟨1, ⟨#[97]⟩⟩) (KW.out.o.other (by omega) 0 (.int .i64 (-(1 + e)))) (by simp only; decide))).mono ?_); rintro e w2 ⟨rfl, bb⟩; replace hb := next (hb.setCell (p := ⟨w0.heap.size + 1, 0, none⟩) (by show w.heap.size ≤ w0.heap.size + 1; omega) (.int .i64 (-(1 + e)))) bb; clear bb))
  go_ret
  exact ⟨rfl, lay hb _⟩

set_option maxRecDepth 20000 in
set_option maxHeartbeats 2000000 in
theorem c1 (which x U e : Int) (w : World) (hU : IntKind.u64.wrap which = U) (hm : U.tmod 10 = 1) (m63 : bits .and .i64 x 63 = e) (e0 : 0 ≤ e) (e1 : e < 64) :
    Calls Try.prog 5 #[.int .i64 which, .int .i64 x] w fun e w' => e = .returned (.bool true) ∧ Below w.heap.size w w' := by
  have hb : Below w.heap.size w w := Below.refl _ _
  obtain ⟨T, P1⟩ := of_p1
  have t1 : True := trivial
  have HP2 : Hid (mayOt ⟨(65535 + (1 + e)), 0, 0, false, 0, [⟨1, ⟨#[97]⟩⟩]⟩ = false) := of_no (.inl (fitO_no (by omega)))
  go_enter Try.func5, Try.ntmps5
  go_wp2_with (first
    | (go_at_call 15; refine (num_any _ _).mono ?_; rintro e w' ⟨rfl, hw⟩; obtain rfl := hw.symm)
    | (go_at_call 19; go_must (refine (awake_any _).mono ?_); rintro e w0 ⟨rfl, bb⟩; replace hb := next hb bb; have lt0 := hb.size; clear bb)
    | (go_at_call 9; have _t := t1; go_must (refine (P1 _ (of_new w0).row).mono ?_); rintro e w1 ⟨rfl, bb⟩; replace bb := next bb (lay (Below.refl _ _) (.cells #[.string ⟨#[0]⟩, .int .i64 41, .int .i64 5, .int .i64 0, .string T] 26)); have KW : Hid (OF (w1.alloc (.cells #[.string ⟨#[0]⟩, .int .i64 41, .int .i64 5, .int .i64 0, .string T] 26)) w0.heap.size) := (of_new w0).below bb; obtain ⟨m0, m1, m2, m3, m4, m5⟩ := KW.out.m.six'; have ff := KW.out.m.frozen 0; replace hb := next (lay (lay hb _) _) bb; clear bb t1 _t)
    | (go_at_call 9; go_must (refine (of_p2 (65535 + (1 + e)) 0 0 false 0 [⟨1, ⟨#[97]⟩⟩] _ ((w1.alloc (.cells #[.string ⟨#[0]⟩, .int .i64 41, .int .i64 5, .int .i64 0, .string T] 26)).setCell ⟨w0.heap.size + 1, 0, none⟩ (.int .i64 (65535 + (1 + e)))) HP2.out (orow_lit (o := ⟨1, ⟨#[97]⟩⟩) (KW.out.o.other (by omega) 0 (.int .i64 (65535 + (1 + e)))) (by simp only; decide))).mono ?_); rintro e w2 ⟨rfl, bb⟩; replace hb := next (hb.setCell (p := ⟨w0.heap.size + 1, 0, none⟩) (by show w.heap.size ≤ w0.heap.size + 1; omega) (.int .i64 (65535 + (1 + e)))) bb; clear bb))
  go_ret
  exact ⟨rfl, lay hb _⟩

set_option maxRecDepth 20000 in
set_option maxHeartbeats 2000000 in
theorem c2 (which x U e : Int) (w : World) (hU : IntKind.u64.wrap which = U) (hm : U.tmod 10 = 2) (m63 : bits .and .i64 x 63 = e) (e0 : 0 ≤ e) (e1 : e < 64) :
    Calls Try.prog 5 #[.int .i64 which, .int .i64 x] w fun e w' => e = .returned (.bool true) ∧ Below w.heap.size w w' := by
  have hb : Below w.heap.size w w := Below.refl _ _
  obtain ⟨T, P1⟩ := of_p1
  have t1 : True := trivial
  have HP2 : Hid (mayOt ⟨5, (255 + (1 + e)), 0, false, 0, [⟨1, ⟨#[97]⟩⟩]⟩ = false) := of_no (.inr (.inl (fitO_no (by omega))))
  go_enter Try.func5, Try.ntmps5
  go_wp2_with (first
    | (go_at_call 15; refine (num_any _ _).mono ?_; rintro e w' ⟨rfl, hw⟩; obtain rfl := hw.symm)
    | (go_at_call 19; go_must (refine (awake_any _).mono ?_); rintro e w0 ⟨rfl, bb⟩; replace hb := next hb bb; have lt0 := hb.size; clear bb)
    | (go_at_call 9; have _t := t1; go_must (refine (P1 _ (of_new w0).row).mono ?_); rintro e w1 ⟨rfl, bb⟩; replace bb := next bb (lay (Below.refl _ _) (.cells #[.string ⟨#[0]⟩, .int .i64 41, .int .i64 5, .int .i64 0, .string T] 26)); have KW : Hid (OF (w1.alloc (.cells #[.string ⟨#[0]⟩, .int .i64 41, .int .i64 5, .int .i64 0, .string T] 26)) w0.heap.size) := (of_new w0).below bb; obtain ⟨m0, m1, m2, m3, m4, m5⟩ := KW.out.m.six'; have ff := KW.out.m.frozen 1; replace hb := next (lay (lay hb _) _) bb; clear bb t1 _t)
    | (go_at_call 9; go_must (refine (of_p2 5 (255 + (1 + e)) 0 false 0 [⟨1, ⟨#[97]⟩⟩] _ ((w1.alloc (.cells #[.string ⟨#[0]⟩, .int .i64 41, .int .i64 5, .int .i64 0, .string T] 26)).setCell ⟨w0.heap.size + 1, 1, none⟩ (.int .i64 (255 + (1 + e)))) HP2.out (orow_lit (o := ⟨1, ⟨#[97]⟩⟩) (KW.out.o.other (by omega) 1 (.int .i64 (255 + (1 + e)))) (by simp only; decide))).mono ?_); rintro e w2 ⟨rfl, bb⟩; replace hb := next (hb.setCell (p := ⟨w0.heap.size + 1, 1, none⟩) (by show w.heap.size ≤ w0.heap.size + 1; omega) (.int .i64 (255 + (1 + e)))) bb; clear bb))
  go_ret
  exact ⟨rfl, lay hb _⟩

set_option maxRecDepth 20000 in
set_option maxHeartbeats 2000000 in
theorem c3 (which x U e : Int) (w : World) (hU : IntKind.u64.wrap which = U) (hm : U.tmod 10 = 3) (m63 : bits .and .i64 x 63 = e) (e0 : 0 ≤ e) (e1 : e < 64) :
    Calls Try.prog 5 #[.int .i64 which, .int .i64 x] w fun e w' => e = .returned (.bool true) ∧ Below w.heap.size w w' := by
  have hb : Below w.heap.size w w := Below.refl _ _
  obtain ⟨T, P1⟩ := of_p1
  have t1 : True := trivial
  have HP2 : Hid (mayOt ⟨5, 0, (-(1 + e)), false, 0, [⟨1, ⟨#[97]⟩⟩]⟩ = false) := of_no (.inr (.inr (.inl (fitO_no (by omega)))))
  go_enter Try.func5, Try.ntmps5
  go_wp2_with (first
    | (go_at_call 15; refine (num_any _ _).mono ?_; rintro e w' ⟨rfl, hw⟩; obtain rfl := hw.symm)
    | (go_at_call 19; go_must (refine (awake_any _).mono ?_); rintro e w0 ⟨rfl, bb⟩; replace hb := next hb bb; have lt0 := hb.size; clear bb)
    | (go_at_call 9; have _t := t1; go_must (refine (P1 _ (of_new w0).row).mono ?_); rintro e w1 ⟨rfl, bb⟩; replace bb := next bb (lay (Below.refl _ _) (.cells #[.string ⟨#[0]⟩, .int .i64 41, .int .i64 5, .int .i64 0, .string T] 26)); have KW : Hid (OF (w1.alloc (.cells #[.string ⟨#[0]⟩, .int .i64 41, .int .i64 5, .int .i64 0, .string T] 26)) w0.heap.size) := (of_new w0).below bb; obtain ⟨m0, m1, m2, m3, m4, m5⟩ := KW.out.m.six'; have ff := KW.out.m.frozen 2; replace hb := next (lay (lay hb _) _) bb; clear bb t1 _t)
    | (go_at_call 9; go_must (refine (of_p2 5 0 (-(1 + e)) false 0 [⟨1, ⟨#[97]⟩⟩] _ ((w1.alloc (.cells #[.string ⟨#[0]⟩, .int .i64 41, .int .i64 5, .int .i64 0, .string T] 26)).setCell ⟨w0.heap.size + 1, 2, none⟩ (.int .i64 (-(1 + e)))) HP2.out (orow_lit (o := ⟨1, ⟨#[97]⟩⟩) (KW.out.o.other (by omega) 2 (.int .i64 (-(1 + e)))) (by simp only; decide))).mono ?_); rintro e w2 ⟨rfl, bb⟩; replace hb := next (hb.setCell (p := ⟨w0.heap.size + 1, 2, none⟩) (by show w.heap.size ≤ w0.heap.size + 1; omega) (.int .i64 (-(1 + e)))) bb; clear bb))
  go_ret
  exact ⟨rfl, lay hb _⟩

set_option maxRecDepth 20000 in
set_option maxHeartbeats 2000000 in
theorem c4 (which x U e : Int) (w : World) (hU : IntKind.u64.wrap which = U) (hm : U.tmod 10 = 4) (m63 : bits .and .i64 x 63 = e) (e0 : 0 ≤ e) (e1 : e < 64) :
    Calls Try.prog 5 #[.int .i64 which, .int .i64 x] w fun e w' => e = .returned (.bool true) ∧ Below w.heap.size w w' := by
  have hb : Below w.heap.size w w := Below.refl _ _
  obtain ⟨T, P1⟩ := of_p1
  have t1 : True := trivial
  have HP2 : Hid (mayOt ⟨5, 0, (255 + (1 + e)), false, 0, [⟨1, ⟨#[97]⟩⟩]⟩ = false) := of_no (.inr (.inr (.inl (fitO_no (by omega)))))
  go_enter Try.func5, Try.ntmps5
  go_wp2_with (first
    | (go_at_call 15; refine (num_any _ _).mono ?_; rintro e w' ⟨rfl, hw⟩; obtain rfl := hw.symm)
    | (go_at_call 19; go_must (refine (awake_any _).mono ?_); rintro e w0 ⟨rfl, bb⟩; replace hb := next hb bb; have lt0 := hb.size; clear bb)
    | (go_at_call 9; have _t := t1; go_must (refine (P1 _ (of_new w0).row).mono ?_); rintro e w1 ⟨rfl, bb⟩; replace bb := next bb (lay (Below.refl _ _) (.cells #[.string ⟨#[0]⟩, .int .i64 41, .int .i64 5, .int .i64 0, .string T] 26)); have KW : Hid (OF (w1.alloc (.cells #[.string ⟨#[0]⟩, .int .i64 41, .int .i64 5, .int .i64 0, .string T] 26)) w0.heap.size) := (of_new w0).below bb; obtain ⟨m0, m1, m2, m3, m4, m5⟩ := KW.out.m.six'; have ff := KW.out.m.frozen 2; replace hb := next (lay (lay hb _) _) bb; clear bb t1 _t)
    | (go_at_call 9; go_must (refine (of_p2 5 0 (255 + (1 + e)) false 0 [⟨1, ⟨#[97]⟩⟩] _ ((w1.alloc (.cells #[.string ⟨#[0]⟩, .int .i64 41, .int .i64 5, .int .i64 0, .string T] 26)).setCell ⟨w0.heap.size + 1, 2, none⟩ (.int .i64 (255 + (1 + e)))) HP2.out (orow_lit (o := ⟨1, ⟨#[97]⟩⟩) (KW.out.o.other (by omega) 2 (.int .i64 (255 + (1 + e)))) (by simp only; decide))).mono ?_); rintro e w2 ⟨rfl, bb⟩; replace hb := next (hb.setCell (p := ⟨w0.heap.size + 1, 2, none⟩) (by show w.heap.size ≤ w0.heap.size + 1; omega) (.int .i64 (255 + (1 + e)))) bb; clear bb))
  go_ret
  exact ⟨rfl, lay hb _⟩

set_option maxRecDepth 20000 in
set_option maxHeartbeats 2000000 in
theorem c5 (which x U e : Int) (w : World) (hU : IntKind.u64.wrap which = U) (hm : U.tmod 10 = 5) (m63 : bits .and .i64 x 63 = e) (e0 : 0 ≤ e) (e1 : e < 64) :
    Calls Try.prog 5 #[.int .i64 which, .int .i64 x] w fun e w' => e = .returned (.bool true) ∧ Below w.heap.size w w' := by
  have hb : Below w.heap.size w w := Below.refl _ _
  obtain ⟨T, P1⟩ := of_p1
  have t1 : True := trivial
  have HP2 : Hid (mayOt ⟨5, 0, 0, false, (32767 + (1 + e)), [⟨1, ⟨#[97]⟩⟩]⟩ = false) := of_no (.inr (.inr (.inr (.inl (fitO_no (by omega))))))
  go_enter Try.func5, Try.ntmps5
  go_wp2_with (first
    | (go_at_call 15; refine (num_any _ _).mono ?_; rintro e w' ⟨rfl, hw⟩; obtain rfl := hw.symm)
    | (go_at_call 19; go_must (refine (awake_any _).mono ?_); rintro e w0 ⟨rfl, bb⟩; replace hb := next hb bb; have lt0 := hb.size; clear bb)
    | (go_at_call 9; have _t := t1; go_must (refine (P1 _ (of_new w0).row).mono ?_); rintro e w1 ⟨rfl, bb⟩; replace bb := next bb (lay (Below.refl _ _) (.cells #[.string ⟨#[0]⟩, .int .i64 41, .int .i64 5, .int .i64 0, .string T] 26)); have KW : Hid (OF (w1.alloc (.cells #[.string ⟨#[0]⟩, .int .i64 41, .int .i64 5, .int .i64 0, .string T] 26)) w0.heap.size) := (of_new w0).below bb; obtain ⟨m0, m1, m2, m3, m4, m5⟩ := KW.out.m.six'; have ff := KW.out.m.frozen 4; replace hb := next (lay (lay hb _) _) bb; clear bb t1 _t)
    | (go_at_call 9; go_must (refine (of_p2 5 0 0 false (32767 + (1 + e)) [⟨1, ⟨#[97]⟩⟩] _ ((w1.alloc (.cells #[.string ⟨#[0]⟩, .int .i64 41, .int .i64 5, .int .i64 0, .string T] 26)).setCell ⟨w0.heap.size + 1, 4, none⟩ (.int .i64 (32767 + (1 + e)))) HP2.out (orow_lit (o := ⟨1, ⟨#[97]⟩⟩) (KW.out.o.other (by omega) 4 (.int .i64 (32767 + (1 + e)))) (by simp only; decide))).mono ?_); rintro e w2 ⟨rfl, bb⟩; replace hb := next (hb.setCell (p := ⟨w0.heap.size + 1, 4, none⟩) (by show w.heap.size ≤ w0.heap.size + 1; omega) (.int .i64 (32767 + (1 + e)))) bb; clear bb))
  go_ret
  exact ⟨rfl, lay hb _⟩

set_option maxRecDepth 20000 in
set_option maxHeartbeats 2000000 in
theorem c6 (which x U e : Int) (w : World) (hU : IntKind.u64.wrap which = U) (hm : U.tmod 10 = 6) (m63 : bits .and .i64 x 63 = e) (e0 : 0 ≤ e) (e1 : e < 64) :
    Calls Try.prog 5 #[.int .i64 which, .int .i64 x] w fun e w' => e = .returned (.bool true) ∧ Below w.heap.size w w' := by
  have hb : Below w.heap.size w w := Below.refl _ _
  obtain ⟨T, P1⟩ := of_p1
  have t1 : True := trivial
  have HP2 : Hid (mayOt ⟨5, 0, 0, false, (-(1 + e)), [⟨1, ⟨#[97]⟩⟩]⟩ = false) := of_no (.inr (.inr (.inr (.inl (fitO_no (by omega))))))
  go_enter Try.func5, Try.ntmps5
  go_wp2_with (first
    | (go_at_call 15; refine (num_any _ _).mono ?_; rintro e w' ⟨rfl, hw⟩; obtain rfl := hw.symm)
    | (go_at_call 19; go_must (refine (awake_any _).mono ?_); rintro e w0 ⟨rfl, bb⟩; replace hb := next hb bb; have lt0 := hb.size; clear bb)
    | (go_at_call 9; have _t := t1; go_must (refine (P1 _ (of_new w0).row).mono ?_); rintro e w1 ⟨rfl, bb⟩; replace bb := next bb (lay (Below.refl _ _) (.cells #[.string ⟨#[0]⟩, .int .i64 41, .int .i64 5, .int .i64 0, .string T] 26)); have KW : Hid (OF (w1.alloc (.cells #[.string ⟨#[0]⟩, .int .i64 41, .int .i64 5, .int .i64 0, .string T] 26)) w0.heap.size) := (of_new w0).below bb; obtain ⟨m0, m1, m2, m3, m4, m5⟩ := KW.out.m.six'; have ff := KW.out.m.frozen 4; replace hb := next (lay (lay hb _) _) bb; clear bb t1 _t)
    | (go_at_call 9; go_must (refine (of_p2 5 0 0 false (-(1 + e)) [⟨1, ⟨#[97]⟩⟩] _ ((w1.alloc (.cells #[.string ⟨#[0]⟩, .int .i64 41, .int .i64 5, .int .i64 0, .string T] 26)).setCell ⟨w0.heap.size + 1, 4, none⟩ (.int .i64 (-(1 + e)))) HP2.out (orow_lit (o := ⟨1, ⟨#[97]⟩⟩) (KW.out.o.other (by omega) 4 (.int .i64 (-(1 + e)))) (by simp only; decide))).mono ?_); rintro e w2 ⟨rfl, bb⟩; replace hb := next (hb.setCell (p := ⟨w0.heap.size + 1, 4, none⟩) (by show w.heap.size ≤ w0.heap.size + 1; omega) (.int .i64 (-(1 + e)))) bb; clear bb))
  go_ret
  exact ⟨rfl, lay hb _⟩

set_option maxRecDepth 20000 in
set_option maxHeartbeats 2000000 in
theorem c7 (which x U e : Int) (w : World) (hU : IntKind.u64.wrap which = U) (hm : U.tmod 10 = 7) (m63 : bits .and .i64 x 63 = e) (e0 : 0 ≤ e) (e1 : e < 64) :
    Calls Try.prog 5 #[.int .i64 which, .int .i64 x] w fun e w' => e = .returned (.bool true) ∧ Below w.heap.size w w' := by
  have hb : Below w.heap.size w w := Below.refl _ _
  obtain ⟨T, P1⟩ := of_p1
  have t1 : True := trivial
  have HP2 : Hid (mayOt ⟨5, 0, 0, false, 0, [⟨65535 + (1 + e), ⟨#[97]⟩⟩]⟩ = false) := of_no (.inr (.inr (.inr (.inr (mayOs_code (k := 0) (by simp) (fitO_no (by simp; omega)))))))
  go_enter Try.func5, Try.ntmps5
  go_wp2_with (first
    | (go_at_call 15; refine (num_any _ _).mono ?_; rintro e w' ⟨rfl, hw⟩; obtain rfl := hw.symm)
    | (go_at_call 19; go_must (refine (awake_any _).mono ?_); rintro e w0 ⟨rfl, bb⟩; replace hb := next hb bb; have lt0 := hb.size; clear bb)
    | (go_at_call 9; have _t := t1; go_must (refine (P1 _ (of_new w0).row).mono ?_); rintro e w1 ⟨rfl, bb⟩; replace bb := next bb (lay (Below.refl _ _) (.cells #[.string ⟨#[0]⟩, .int .i64 41, .int .i64 5, .int .i64 0, .string T] 26)); have KW : Hid (OF (w1.alloc (.cells #[.string ⟨#[0]⟩, .int .i64 41, .int .i64 5, .int .i64 0, .string T] 26)) w0.heap.size) := (of_new w0).below bb; obtain ⟨m0, m1, m2, m3, m4, m5⟩ := KW.out.m.six'; have ff := KW.out.o.frozen 0; have kk : (w1.alloc (.cells #[.string ⟨#[0]⟩, .int .i64 41, .int .i64 5, .int .i64 0, .string T] 26)).cell? ⟨w0.heap.size, 0, none⟩ = some (.int .i64 1) := KW.out.o.cell 0; replace hb := next (lay (lay hb _) _) bb; clear bb t1 _t)
    | (go_at_call 9; go_must (refine (of_p2 5 0 0 false 0 [⟨65535 + (1 + e), ⟨#[97]⟩⟩] _ ((w1.alloc (.cells #[.string ⟨#[0]⟩, .int .i64 41, .int .i64 5, .int .i64 0, .string T] 26)).setCell ⟨w0.heap.size, 0, none⟩ (.int .i64 (65535 + (1 + e)))) HP2.out (orow_lit (o := ⟨65535 + (1 + e), ⟨#[97]⟩⟩) (KW.out.o.set 0 (.int .i64 (65535 + (1 + e)))) (by simp only; decide))).mono ?_); rintro e w2 ⟨rfl, bb⟩; replace hb := next (hb.setCell (p := ⟨w0.heap.size, 0, none⟩) (by show w.heap.size ≤ w0.heap.size; omega) (.int .i64 (65535 + (1 + e)))) bb; clear bb))
  go_ret
  exact ⟨rfl, lay hb _⟩

end Go.Proofs.Ytehldafdjldpbaa.optForms
