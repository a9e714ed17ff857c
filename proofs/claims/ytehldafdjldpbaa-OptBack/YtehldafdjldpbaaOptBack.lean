/- OptBack holds: for every OPT and every record, what Put gives is taken apart by Get as it was, and what Get takes apart is put together by Put as it was. -/
import Derived.Test.YtehldafdjldpbaaOpI
import Derived.Test.YtehldafdjldpbaaOpM
import Derived.ProofKit
import Derived.OpenShut
import Derived.ShutString
namespace Go.Proofs.Ytehldafdjldpbaa.optBack
open Go.ChangeShapes Go.WideShapes Go.ChangeAt Go.RowKit
open Go.ChangeMaps (open_string shut_string)

/-- What Put gives, as letters. -/
theorem put_form (o : Ot) : (∃ (T : Int) (D : ByteArray), D.size ≤ 65535 ∧ putOV o = .tuple #[.agg #[.string ⟨#[0]⟩, .int .i64 41, .int .i64 o.s, .int .i64 T, .string D], .int .i64 0] ∧ getO ⟨⟨#[0]⟩, 41, o.s, T, D⟩ = o ∧ getE ⟨⟨#[0]⟩, 41, o.s, T, D⟩ = 0) ∨ putOV o = .tuple #[.agg #[.string ⟨#[]⟩, .int .i64 0, .int .i64 0, .int .i64 0, .string ⟨#[]⟩], .int .i64 800] := by
  cases h : mayOt o with
  | false => exact .inr (putOV_no h)
  | true =>
    have h1 := put_get h
    have h2 : putO o = ⟨rootB, 41, o.s, ttlO o, ⟨(osB o.os).toArray⟩⟩ := by unfold putO; rw [if_pos h]
    rw [h2] at h1
    refine .inl ⟨_, _, ?_, putOV_yes h, h1.1, h1.2⟩
    rw [toArr_size]
    unfold mayOt at h
    rw [Bool.and_eq_true] at h
    exact (mayOs_iff.1 h.2).2
/-- What Get gives: the number of its error, and what Put makes of it. -/
theorem get_form (r : Rc) : (getE r = 0 ∧ putOV (getO r) = .tuple #[.agg (rrC r), .int .i64 0]) ∨ (getE r = 800 ∧ getO r = otZ) := by
  by_cases h : getE r = 0
  · obtain ⟨h1, h2⟩ := get_put h
    refine .inl ⟨h, ?_⟩
    unfold putOV
    rw [h2]
    unfold putE
    rw [if_pos h1]
  · refine .inr ?_
    cases hm : mayRc r with
    | false => exact ⟨(get_no hm).2, (get_no hm).1⟩
    | true =>
      cases hr : rdL r.d.data.toList with
      | none => exact ⟨(get_none hr).2, (get_none hr).1⟩
      | some os => exact absurd (get_some hm hr).2 h
theorem own_orow {B : Nat} {w : World} {v : Value} {r : Rc} (h : w.ownsRow B 52 2 v (getO r).os.length (oC (getO r).os)) : ORow w v (getO r).os := by
  obtain ⟨h1, h2⟩ := getO_small r
  exact ORow.own h (by unfold maxLen; omega) (fun o ho => by have := h2 o ho; unfold far; omega)

set_option maxRecDepth 20000 in
set_option maxHeartbeats 4000000 in
theorem case11 (s e vv : Int) (b : Bool) (z : Int) (os : List On) (x : Option Addr) (n c : Nat) (rn : ByteArray) (rt rc rl : Int) (rd : ByteArray) (hd : rd.size ≤ maxLen) (w : World) (hr : ORow w (.slice x n c) os)
    (hp : ∃ (T : Int) (D : ByteArray), D.size ≤ 65535 ∧ putOV ⟨s, e, vv, b, z, os⟩ = .tuple #[.agg #[.string ⟨#[0]⟩, .int .i64 41, .int .i64 s, .int .i64 T, .string D], .int .i64 0] ∧ getO ⟨⟨#[0]⟩, 41, s, T, D⟩ = ⟨s, e, vv, b, z, os⟩ ∧ getE ⟨⟨#[0]⟩, 41, s, T, D⟩ = 0)
    (hg : getE ⟨rn, rt, rc, rl, rd⟩ = 0 ∧ putOV (getO ⟨rn, rt, rc, rl, rd⟩) = .tuple #[.agg (rrC ⟨rn, rt, rc, rl, rd⟩), .int .i64 0]) :
    Calls Try.prog 4 #[.agg (optC ⟨s, e, vv, b, z, os⟩ (.slice x n c)), .agg (rrC ⟨rn, rt, rc, rl, rd⟩)] w fun e w' => e = .returned (.bool true) ∧ Below w.heap.size w w' := by
  have hb : Below w.heap.size w ((w.alloc (.cells #[.int .i64 s, .int .i64 e, .int .i64 vv, .bool b, .int .i64 z, .slice x n c] 24)).alloc (.cells #[.string rn, .int .i64 rt, .int .i64 rc, .int .i64 rl, .string rd] 26)) := lay (lay (Below.refl _ _) _) _
  have HR : Hid (ORow ((w.alloc (.cells #[.int .i64 s, .int .i64 e, .int .i64 vv, .bool b, .int .i64 z, .slice x n c] 24)).alloc (.cells #[.string rn, .int .i64 rt, .int .i64 rc, .int .i64 rl, .string rd] 26)) (.slice x n c) os) := hr.below hb
  have KA : Blk ((w.alloc (.cells #[.int .i64 s, .int .i64 e, .int .i64 vv, .bool b, .int .i64 z, .slice x n c] 24)).alloc (.cells #[.string rn, .int .i64 rt, .int .i64 rc, .int .i64 rl, .string rd] 26)) w.heap.size #[.int .i64 s, .int .i64 e, .int .i64 vv, .bool b, .int .i64 z, .slice x n c] 24 := (Blk.new w _ _).alloc _
  have KB : Blk ((w.alloc (.cells #[.int .i64 s, .int .i64 e, .int .i64 vv, .bool b, .int .i64 z, .slice x n c] 24)).alloc (.cells #[.string rn, .int .i64 rt, .int .i64 rc, .int .i64 rl, .string rd] 26)) (w.heap.size + 1) #[.string rn, .int .i64 rt, .int .i64 rc, .int .i64 rl, .string rd] 26 := by
    have h := Blk.new (w.alloc (.cells #[.int .i64 s, .int .i64 e, .int .i64 vv, .bool b, .int .i64 z, .slice x n c] 24)) #[.string rn, .int .i64 rt, .int .i64 rc, .int .i64 rl, .string rd] 26
    rw [show (w.alloc (.cells #[.int .i64 s, .int .i64 e, .int .i64 vv, .bool b, .int .i64 z, .slice x n c] 24)).heap.size = w.heap.size + 1 from by simp] at h
    exact h
  have P1 := fun u h => optPut_any ⟨s, e, vv, b, z, os⟩ (.slice x n c) u h
  obtain ⟨T, D, hD, hp1, hp2, hp3⟩ := hp
  rw [hp1] at P1
  have G1 := fun u => optGet_any ⟨⟨#[0]⟩, 41, s, T, D⟩ u (by show D.size ≤ maxLen; unfold maxLen; omega)
  rw [hp2, hp3] at G1
  unfold GetOP optC rrC at G1
  simp only at G1
  have S1 := fun (v v' : Value) (u : World) h h' => sameOpt_yes ⟨s, e, vv, b, z, os⟩ v v' u h h' hr.2.1
  unfold optC at S1
  simp only at S1
  unfold optC at P1
  simp only at P1
  have G2 := fun u => optGet_any ⟨rn, rt, rc, rl, rd⟩ u hd
  have P2 : ∀ (v : Value) (u : World), ORow u v (getO ⟨rn, rt, rc, rl, rd⟩).os → _ := fun v u h => optPut_any (getO ⟨rn, rt, rc, rl, rd⟩) v u h
  rw [hg.2] at P2
  rw [hg.1] at G2
  have HO : Hid (∀ (v : Value) (u : World) (B : Nat), u.ownsRow B 52 2 v (getO ⟨rn, rt, rc, rl, rd⟩).os.length (oC (getO ⟨rn, rt, rc, rl, rd⟩).os) → ORow u v (getO ⟨rn, rt, rc, rl, rd⟩).os) := fun v u B h => own_orow h
  obtain ⟨O, hO⟩ : ∃ O, O = getO ⟨rn, rt, rc, rl, rd⟩ := ⟨_, rfl⟩
  rw [← hO] at G2 P2 HO
  obtain ⟨O1, O2, O3, O4, O5, O6⟩ := O
  unfold optC rrC at P2
  simp only at P2 HO
  clear hO
  unfold GetOP optC rrC at G2
  simp only at G2
  unfold optC rrC
  simp only
  clear hg hr
  have t1 : True := trivial
  have t2 : True := trivial
  go_enter Try.func4, Try.ntmps4
  go_wp2_with (first
    | (go_at_call 19; go_must (refine (awake_any _).mono ?_); rintro e w0 ⟨rfl, bb⟩; replace HR : Hid (ORow w0 (.slice x n c) os) := HR.out.below bb; replace KA := KA.below bb; replace KB := KB.below bb; replace hb := next hb bb; obtain ⟨d0, d1, d2, d3, d4, d5⟩ := KA.six'; clear bb)
    | (go_at_call 15; refine (num_any _ _).mono ?_; rintro e w' ⟨rfl, hw⟩; obtain rfl := hw.symm)
    | (go_at_call 9; have _t := t1; go_must (refine (P1 _ HR.out).mono ?_); rintro e w1 ⟨rfl, bb⟩; replace bb := next bb (lay (Below.refl _ _) (.cells #[.string ⟨#[0]⟩, .int .i64 41, .int .i64 s, .int .i64 T, .string D] 26)); have KC := Blk.new w1 #[.string ⟨#[0]⟩, .int .i64 41, .int .i64 s, .int .i64 T, .string D] 26; replace HR : Hid (ORow _ (.slice x n c) os) := HR.out.below bb; replace KA := KA.below bb; replace KB := KB.below bb; replace hb := next hb bb; clear d0 d1 d2 d3 d4 d5; obtain ⟨r0, r1, r2, r3, r4⟩ := KB.five'; clear bb t1 _t)
    | (go_at_call 11; have _t := t2; go_must (refine (G1 _).mono ?_); rintro e w2 ⟨y2, n2, c2, rfl, own2, bb⟩; replace bb := next bb (lay (Below.refl _ _) (.cells #[.int .i64 s, .int .i64 e, .int .i64 vv, .bool b, .int .i64 z, .slice y2 n2 c2] 24)); have HO2 : Hid (Row (w2.alloc (.cells #[.int .i64 s, .int .i64 e, .int .i64 vv, .bool b, .int .i64 z, .slice y2 n2 c2] 24)) (.slice y2 n2 c2) os.length (oC os)) := Row.of_own (own2.alloc _); have KD := Blk.new w2 #[.int .i64 s, .int .i64 e, .int .i64 vv, .bool b, .int .i64 z, .slice y2 n2 c2] 24; replace HR : Hid (ORow _ (.slice x n c) os) := HR.out.below bb; replace KA := KA.below bb; replace KB := KB.below bb; replace KC := KC.below bb; replace hb := next hb bb; clear r0 r1 r2 r3 r4; obtain ⟨d0, d1, d2, d3, d4, d5⟩ := KA.six'; clear bb own2 t2 _t)
    | (go_at_call 16; go_must (refine (S1 _ _ _ HO2.out HR.out.1).mono ?_); rintro e w3 ⟨rfl, bb⟩; replace KB := KB.below bb; replace KC := KC.below bb; replace hb := next hb bb; clear d0 d1 d2 d3 d4 d5; obtain ⟨r0, r1, r2, r3, r4⟩ := KB.five'; obtain ⟨q0, q1, q2, q3, q4⟩ := KC.five'; clear bb)
    | (go_at_call 11; go_must (refine (G2 _).mono ?_); rintro e w4 ⟨y4, n4, c4, rfl, own4, bb⟩; replace bb := next bb (lay (Below.refl _ _) (.cells #[.int .i64 O1, .int .i64 O2, .int .i64 O3, .bool O4, .int .i64 O5, .slice y4 n4 c4] 24)); have HO4 : Hid (ORow (w4.alloc (.cells #[.int .i64 O1, .int .i64 O2, .int .i64 O3, .bool O4, .int .i64 O5, .slice y4 n4 c4] 24)) (.slice y4 n4 c4) O6) := HO.out _ _ _ (own4.alloc _); replace KB := KB.below bb; replace hb := next hb bb; clear bb own4)
    | (go_at_call 9; go_must (refine (P2 _ _ HO4.out).mono ?_); rintro e w5 ⟨rfl, bb⟩; replace bb := next bb (lay (Below.refl _ _) (.cells #[.string rn, .int .i64 rt, .int .i64 rc, .int .i64 rl, .string rd] 26)); replace KB := KB.below bb; replace hb := next hb bb; clear r0 r1 r2 r3 r4; obtain ⟨r0, r1, r2, r3, r4⟩ := KB.five'; clear bb))
  go_ret
  exact ⟨ret_bool (by simp), hb⟩

set_option maxRecDepth 20000 in
set_option maxHeartbeats 4000000 in
theorem case10 (s e vv : Int) (b : Bool) (z : Int) (os : List On) (x : Option Addr) (n c : Nat) (rn : ByteArray) (rt rc rl : Int) (rd : ByteArray) (hd : rd.size ≤ maxLen) (w : World) (hr : ORow w (.slice x n c) os)
    (hp : ∃ (T : Int) (D : ByteArray), D.size ≤ 65535 ∧ putOV ⟨s, e, vv, b, z, os⟩ = .tuple #[.agg #[.string ⟨#[0]⟩, .int .i64 41, .int .i64 s, .int .i64 T, .string D], .int .i64 0] ∧ getO ⟨⟨#[0]⟩, 41, s, T, D⟩ = ⟨s, e, vv, b, z, os⟩ ∧ getE ⟨⟨#[0]⟩, 41, s, T, D⟩ = 0)
    (hg : getE ⟨rn, rt, rc, rl, rd⟩ = 800 ∧ getO ⟨rn, rt, rc, rl, rd⟩ = otZ) :
    Calls Try.prog 4 #[.agg (optC ⟨s, e, vv, b, z, os⟩ (.slice x n c)), .agg (rrC ⟨rn, rt, rc, rl, rd⟩)] w fun e w' => e = .returned (.bool true) ∧ Below w.heap.size w w' := by
  have hb : Below w.heap.size w ((w.alloc (.cells #[.int .i64 s, .int .i64 e, .int .i64 vv, .bool b, .int .i64 z, .slice x n c] 24)).alloc (.cells #[.string rn, .int .i64 rt, .int .i64 rc, .int .i64 rl, .string rd] 26)) := lay (lay (Below.refl _ _) _) _
  have HR : Hid (ORow ((w.alloc (.cells #[.int .i64 s, .int .i64 e, .int .i64 vv, .bool b, .int .i64 z, .slice x n c] 24)).alloc (.cells #[.string rn, .int .i64 rt, .int .i64 rc, .int .i64 rl, .string rd] 26)) (.slice x n c) os) := hr.below hb
  have KA : Blk ((w.alloc (.cells #[.int .i64 s, .int .i64 e, .int .i64 vv, .bool b, .int .i64 z, .slice x n c] 24)).alloc (.cells #[.string rn, .int .i64 rt, .int .i64 rc, .int .i64 rl, .string rd] 26)) w.heap.size #[.int .i64 s, .int .i64 e, .int .i64 vv, .bool b, .int .i64 z, .slice x n c] 24 := (Blk.new w _ _).alloc _
  have KB : Blk ((w.alloc (.cells #[.int .i64 s, .int .i64 e, .int .i64 vv, .bool b, .int .i64 z, .slice x n c] 24)).alloc (.cells #[.string rn, .int .i64 rt, .int .i64 rc, .int .i64 rl, .string rd] 26)) (w.heap.size + 1) #[.string rn, .int .i64 rt, .int .i64 rc, .int .i64 rl, .string rd] 26 := by
    have h := Blk.new (w.alloc (.cells #[.int .i64 s, .int .i64 e, .int .i64 vv, .bool b, .int .i64 z, .slice x n c] 24)) #[.string rn, .int .i64 rt, .int .i64 rc, .int .i64 rl, .string rd] 26
    rw [show (w.alloc (.cells #[.int .i64 s, .int .i64 e, .int .i64 vv, .bool b, .int .i64 z, .slice x n c] 24)).heap.size = w.heap.size + 1 from by simp] at h
    exact h
  have P1 := fun u h => optPut_any ⟨s, e, vv, b, z, os⟩ (.slice x n c) u h
  obtain ⟨T, D, hD, hp1, hp2, hp3⟩ := hp
  rw [hp1] at P1
  have G1 := fun u => optGet_any ⟨⟨#[0]⟩, 41, s, T, D⟩ u (by show D.size ≤ maxLen; unfold maxLen; omega)
  rw [hp2, hp3] at G1
  unfold GetOP optC rrC at G1
  simp only at G1
  have S1 := fun (v v' : Value) (u : World) h h' => sameOpt_yes ⟨s, e, vv, b, z, os⟩ v v' u h h' hr.2.1
  unfold optC at S1
  simp only at S1
  unfold optC at P1
  simp only at P1
  have G2 := fun u => optGet_any ⟨rn, rt, rc, rl, rd⟩ u hd
  rw [hg.1, hg.2] at G2
  unfold GetOP optC rrC at G2
  unfold otZ at G2
  simp only at G2
  unfold optC rrC
  simp only
  clear hg hr
  have t1 : True := trivial
  have t2 : True := trivial
  go_enter Try.func4, Try.ntmps4
  go_wp2_with (first
    | (go_at_call 19; go_must (refine (awake_any _).mono ?_); rintro e w0 ⟨rfl, bb⟩; replace HR : Hid (ORow w0 (.slice x n c) os) := HR.out.below bb; replace KA := KA.below bb; replace KB := KB.below bb; replace hb := next hb bb; obtain ⟨d0, d1, d2, d3, d4, d5⟩ := KA.six'; clear bb)
    | (go_at_call 15; refine (num_any _ _).mono ?_; rintro e w' ⟨rfl, hw⟩; obtain rfl := hw.symm)
    | (go_at_call 9; have _t := t1; go_must (refine (P1 _ HR.out).mono ?_); rintro e w1 ⟨rfl, bb⟩; replace bb := next bb (lay (Below.refl _ _) (.cells #[.string ⟨#[0]⟩, .int .i64 41, .int .i64 s, .int .i64 T, .string D] 26)); have KC := Blk.new w1 #[.string ⟨#[0]⟩, .int .i64 41, .int .i64 s, .int .i64 T, .string D] 26; replace HR : Hid (ORow _ (.slice x n c) os) := HR.out.below bb; replace KA := KA.below bb; replace KB := KB.below bb; replace hb := next hb bb; clear d0 d1 d2 d3 d4 d5; obtain ⟨r0, r1, r2, r3, r4⟩ := KB.five'; clear bb t1 _t)
    | (go_at_call 11; have _t := t2; go_must (refine (G1 _).mono ?_); rintro e w2 ⟨y2, n2, c2, rfl, own2, bb⟩; replace bb := next bb (lay (Below.refl _ _) (.cells #[.int .i64 s, .int .i64 e, .int .i64 vv, .bool b, .int .i64 z, .slice y2 n2 c2] 24)); have HO2 : Hid (Row (w2.alloc (.cells #[.int .i64 s, .int .i64 e, .int .i64 vv, .bool b, .int .i64 z, .slice y2 n2 c2] 24)) (.slice y2 n2 c2) os.length (oC os)) := Row.of_own (own2.alloc _); have KD := Blk.new w2 #[.int .i64 s, .int .i64 e, .int .i64 vv, .bool b, .int .i64 z, .slice y2 n2 c2] 24; replace HR : Hid (ORow _ (.slice x n c) os) := HR.out.below bb; replace KA := KA.below bb; replace KB := KB.below bb; replace KC := KC.below bb; replace hb := next hb bb; clear r0 r1 r2 r3 r4; obtain ⟨d0, d1, d2, d3, d4, d5⟩ := KA.six'; clear bb own2 t2 _t)
    | (go_at_call 16; go_must (refine (S1 _ _ _ HO2.out HR.out.1).mono ?_); rintro e w3 ⟨rfl, bb⟩; replace KB := KB.below bb; replace KC := KC.below bb; replace hb := next hb bb; clear d0 d1 d2 d3 d4 d5; obtain ⟨r0, r1, r2, r3, r4⟩ := KB.five'; obtain ⟨q0, q1, q2, q3, q4⟩ := KC.five'; clear bb)
    | (go_at_call 11; go_must (refine (G2 _).mono ?_); rintro e w4 ⟨y4, n4, c4, rfl, own4, bb⟩; have hn4 := own_len own4; subst hn4; replace bb := next bb (lay (Below.refl _ _) (.cells #[.int .i64 0, .int .i64 0, .int .i64 0, .bool false, .int .i64 0, .slice y4 0 c4] 24)); replace hb := next hb bb; clear bb own4))
  go_ret
  exact ⟨ret_bool (by simp), hb⟩

set_option maxRecDepth 20000 in
set_option maxHeartbeats 4000000 in
theorem case01 (s e vv : Int) (b : Bool) (z : Int) (os : List On) (x : Option Addr) (n c : Nat) (rn : ByteArray) (rt rc rl : Int) (rd : ByteArray) (hd : rd.size ≤ maxLen) (w : World) (hr : ORow w (.slice x n c) os)
    (hp : putOV ⟨s, e, vv, b, z, os⟩ = .tuple #[.agg #[.string ⟨#[]⟩, .int .i64 0, .int .i64 0, .int .i64 0, .string ⟨#[]⟩], .int .i64 800])
    (hg : getE ⟨rn, rt, rc, rl, rd⟩ = 0 ∧ putOV (getO ⟨rn, rt, rc, rl, rd⟩) = .tuple #[.agg (rrC ⟨rn, rt, rc, rl, rd⟩), .int .i64 0]) :
    Calls Try.prog 4 #[.agg (optC ⟨s, e, vv, b, z, os⟩ (.slice x n c)), .agg (rrC ⟨rn, rt, rc, rl, rd⟩)] w fun e w' => e = .returned (.bool true) ∧ Below w.heap.size w w' := by
  have hb : Below w.heap.size w ((w.alloc (.cells #[.int .i64 s, .int .i64 e, .int .i64 vv, .bool b, .int .i64 z, .slice x n c] 24)).alloc (.cells #[.string rn, .int .i64 rt, .int .i64 rc, .int .i64 rl, .string rd] 26)) := lay (lay (Below.refl _ _) _) _
  have HR : Hid (ORow ((w.alloc (.cells #[.int .i64 s, .int .i64 e, .int .i64 vv, .bool b, .int .i64 z, .slice x n c] 24)).alloc (.cells #[.string rn, .int .i64 rt, .int .i64 rc, .int .i64 rl, .string rd] 26)) (.slice x n c) os) := hr.below hb
  have KA : Blk ((w.alloc (.cells #[.int .i64 s, .int .i64 e, .int .i64 vv, .bool b, .int .i64 z, .slice x n c] 24)).alloc (.cells #[.string rn, .int .i64 rt, .int .i64 rc, .int .i64 rl, .string rd] 26)) w.heap.size #[.int .i64 s, .int .i64 e, .int .i64 vv, .bool b, .int .i64 z, .slice x n c] 24 := (Blk.new w _ _).alloc _
  have KB : Blk ((w.alloc (.cells #[.int .i64 s, .int .i64 e, .int .i64 vv, .bool b, .int .i64 z, .slice x n c] 24)).alloc (.cells #[.string rn, .int .i64 rt, .int .i64 rc, .int .i64 rl, .string rd] 26)) (w.heap.size + 1) #[.string rn, .int .i64 rt, .int .i64 rc, .int .i64 rl, .string rd] 26 := by
    have h := Blk.new (w.alloc (.cells #[.int .i64 s, .int .i64 e, .int .i64 vv, .bool b, .int .i64 z, .slice x n c] 24)) #[.string rn, .int .i64 rt, .int .i64 rc, .int .i64 rl, .string rd] 26
    rw [show (w.alloc (.cells #[.int .i64 s, .int .i64 e, .int .i64 vv, .bool b, .int .i64 z, .slice x n c] 24)).heap.size = w.heap.size + 1 from by simp] at h
    exact h
  have P1 := fun u h => optPut_any ⟨s, e, vv, b, z, os⟩ (.slice x n c) u h
  rw [hp] at P1
  unfold optC at P1
  simp only at P1
  have G2 := fun u => optGet_any ⟨rn, rt, rc, rl, rd⟩ u hd
  have P2 : ∀ (v : Value) (u : World), ORow u v (getO ⟨rn, rt, rc, rl, rd⟩).os → _ := fun v u h => optPut_any (getO ⟨rn, rt, rc, rl, rd⟩) v u h
  rw [hg.2] at P2
  rw [hg.1] at G2
  have HO : Hid (∀ (v : Value) (u : World) (B : Nat), u.ownsRow B 52 2 v (getO ⟨rn, rt, rc, rl, rd⟩).os.length (oC (getO ⟨rn, rt, rc, rl, rd⟩).os) → ORow u v (getO ⟨rn, rt, rc, rl, rd⟩).os) := fun v u B h => own_orow h
  obtain ⟨O, hO⟩ : ∃ O, O = getO ⟨rn, rt, rc, rl, rd⟩ := ⟨_, rfl⟩
  rw [← hO] at G2 P2 HO
  obtain ⟨O1, O2, O3, O4, O5, O6⟩ := O
  unfold optC rrC at P2
  simp only at P2 HO
  clear hO
  unfold GetOP optC rrC at G2
  simp only at G2
  unfold optC rrC
  simp only
  clear hg hr
  have t1 : True := trivial
  have t2 : True := trivial
  go_enter Try.func4, Try.ntmps4
  go_wp2_with (first
    | (go_at_call 19; go_must (refine (awake_any _).mono ?_); rintro e w0 ⟨rfl, bb⟩; replace HR : Hid (ORow w0 (.slice x n c) os) := HR.out.below bb; replace KA := KA.below bb; replace KB := KB.below bb; replace hb := next hb bb; obtain ⟨d0, d1, d2, d3, d4, d5⟩ := KA.six'; clear bb)
    | (go_at_call 15; refine (num_any _ _).mono ?_; rintro e w' ⟨rfl, hw⟩; obtain rfl := hw.symm)
    | (go_at_call 9; have _t := t1; go_must (refine (P1 _ HR.out).mono ?_); rintro e w1 ⟨rfl, bb⟩; replace bb := next bb (lay (Below.refl _ _) (.cells #[.string ⟨#[]⟩, .int .i64 0, .int .i64 0, .int .i64 0, .string ⟨#[]⟩] 26)); have KC := Blk.new w1 #[.string ⟨#[]⟩, .int .i64 0, .int .i64 0, .int .i64 0, .string ⟨#[]⟩] 26; replace HR : Hid (ORow _ (.slice x n c) os) := HR.out.below bb; replace KA := KA.below bb; replace KB := KB.below bb; replace hb := next hb bb; clear d0 d1 d2 d3 d4 d5; obtain ⟨r0, r1, r2, r3, r4⟩ := KB.five'; clear bb t1 _t)
    | (go_at_call 11; go_must (refine (G2 _).mono ?_); rintro e w4 ⟨y4, n4, c4, rfl, own4, bb⟩; replace bb := next bb (lay (Below.refl _ _) (.cells #[.int .i64 O1, .int .i64 O2, .int .i64 O3, .bool O4, .int .i64 O5, .slice y4 n4 c4] 24)); have HO4 : Hid (ORow (w4.alloc (.cells #[.int .i64 O1, .int .i64 O2, .int .i64 O3, .bool O4, .int .i64 O5, .slice y4 n4 c4] 24)) (.slice y4 n4 c4) O6) := HO.out _ _ _ (own4.alloc _); replace KB := KB.below bb; replace hb := next hb bb; clear bb own4)
    | (go_at_call 9; go_must (refine (P2 _ _ HO4.out).mono ?_); rintro e w5 ⟨rfl, bb⟩; replace bb := next bb (lay (Below.refl _ _) (.cells #[.string rn, .int .i64 rt, .int .i64 rc, .int .i64 rl, .string rd] 26)); replace KB := KB.below bb; replace hb := next hb bb; clear r0 r1 r2 r3 r4; obtain ⟨r0, r1, r2, r3, r4⟩ := KB.five'; clear bb))
  go_ret
  exact ⟨ret_bool (by simp), hb⟩

set_option maxRecDepth 20000 in
set_option maxHeartbeats 4000000 in
theorem case00 (s e vv : Int) (b : Bool) (z : Int) (os : List On) (x : Option Addr) (n c : Nat) (rn : ByteArray) (rt rc rl : Int) (rd : ByteArray) (hd : rd.size ≤ maxLen) (w : World) (hr : ORow w (.slice x n c) os)
    (hp : putOV ⟨s, e, vv, b, z, os⟩ = .tuple #[.agg #[.string ⟨#[]⟩, .int .i64 0, .int .i64 0, .int .i64 0, .string ⟨#[]⟩], .int .i64 800])
    (hg : getE ⟨rn, rt, rc, rl, rd⟩ = 800 ∧ getO ⟨rn, rt, rc, rl, rd⟩ = otZ) :
    Calls Try.prog 4 #[.agg (optC ⟨s, e, vv, b, z, os⟩ (.slice x n c)), .agg (rrC ⟨rn, rt, rc, rl, rd⟩)] w fun e w' => e = .returned (.bool true) ∧ Below w.heap.size w w' := by
  have hb : Below w.heap.size w ((w.alloc (.cells #[.int .i64 s, .int .i64 e, .int .i64 vv, .bool b, .int .i64 z, .slice x n c] 24)).alloc (.cells #[.string rn, .int .i64 rt, .int .i64 rc, .int .i64 rl, .string rd] 26)) := lay (lay (Below.refl _ _) _) _
  have HR : Hid (ORow ((w.alloc (.cells #[.int .i64 s, .int .i64 e, .int .i64 vv, .bool b, .int .i64 z, .slice x n c] 24)).alloc (.cells #[.string rn, .int .i64 rt, .int .i64 rc, .int .i64 rl, .string rd] 26)) (.slice x n c) os) := hr.below hb
  have KA : Blk ((w.alloc (.cells #[.int .i64 s, .int .i64 e, .int .i64 vv, .bool b, .int .i64 z, .slice x n c] 24)).alloc (.cells #[.string rn, .int .i64 rt, .int .i64 rc, .int .i64 rl, .string rd] 26)) w.heap.size #[.int .i64 s, .int .i64 e, .int .i64 vv, .bool b, .int .i64 z, .slice x n c] 24 := (Blk.new w _ _).alloc _
  have KB : Blk ((w.alloc (.cells #[.int .i64 s, .int .i64 e, .int .i64 vv, .bool b, .int .i64 z, .slice x n c] 24)).alloc (.cells #[.string rn, .int .i64 rt, .int .i64 rc, .int .i64 rl, .string rd] 26)) (w.heap.size + 1) #[.string rn, .int .i64 rt, .int .i64 rc, .int .i64 rl, .string rd] 26 := by
    have h := Blk.new (w.alloc (.cells #[.int .i64 s, .int .i64 e, .int .i64 vv, .bool b, .int .i64 z, .slice x n c] 24)) #[.string rn, .int .i64 rt, .int .i64 rc, .int .i64 rl, .string rd] 26
    rw [show (w.alloc (.cells #[.int .i64 s, .int .i64 e, .int .i64 vv, .bool b, .int .i64 z, .slice x n c] 24)).heap.size = w.heap.size + 1 from by simp] at h
    exact h
  have P1 := fun u h => optPut_any ⟨s, e, vv, b, z, os⟩ (.slice x n c) u h
  rw [hp] at P1
  unfold optC at P1
  simp only at P1
  have G2 := fun u => optGet_any ⟨rn, rt, rc, rl, rd⟩ u hd
  rw [hg.1, hg.2] at G2
  unfold GetOP optC rrC at G2
  unfold otZ at G2
  simp only at G2
  unfold optC rrC
  simp only
  clear hg hr
  have t1 : True := trivial
  have t2 : True := trivial
  go_enter Try.func4, Try.ntmps4
  go_wp2_with (first
    | (go_at_call 19; go_must (refine (awake_any _).mono ?_); rintro e w0 ⟨rfl, bb⟩; replace HR : Hid (ORow w0 (.slice x n c) os) := HR.out.below bb; replace KA := KA.below bb; replace KB := KB.below bb; replace hb := next hb bb; obtain ⟨d0, d1, d2, d3, d4, d5⟩ := KA.six'; clear bb)
    | (go_at_call 15; refine (num_any _ _).mono ?_; rintro e w' ⟨rfl, hw⟩; obtain rfl := hw.symm)
    | (go_at_call 9; have _t := t1; go_must (refine (P1 _ HR.out).mono ?_); rintro e w1 ⟨rfl, bb⟩; replace bb := next bb (lay (Below.refl _ _) (.cells #[.string ⟨#[]⟩, .int .i64 0, .int .i64 0, .int .i64 0, .string ⟨#[]⟩] 26)); have KC := Blk.new w1 #[.string ⟨#[]⟩, .int .i64 0, .int .i64 0, .int .i64 0, .string ⟨#[]⟩] 26; replace HR : Hid (ORow _ (.slice x n c) os) := HR.out.below bb; replace KA := KA.below bb; replace KB := KB.below bb; replace hb := next hb bb; clear d0 d1 d2 d3 d4 d5; obtain ⟨r0, r1, r2, r3, r4⟩ := KB.five'; clear bb t1 _t)
    | (go_at_call 11; go_must (refine (G2 _).mono ?_); rintro e w4 ⟨y4, n4, c4, rfl, own4, bb⟩; have hn4 := own_len own4; subst hn4; replace bb := next bb (lay (Below.refl _ _) (.cells #[.int .i64 0, .int .i64 0, .int .i64 0, .bool false, .int .i64 0, .slice y4 0 c4] 24)); replace hb := next hb bb; clear bb own4))
  go_ret
  exact ⟨ret_bool (by simp), hb⟩

theorem walk (o : Ot) (v : Value) (r : Rc) (_ : r.n.size ≤ maxLen) (hd : r.d.size ≤ maxLen) (_ : o.os.length * 24 ≤ far) (w : World) (hr : ORow w v o.os) :
    Calls Try.prog 4 #[.agg (optC o v), .agg (rrC r)] w fun e w' => e = .returned (.bool true) ∧ Below w.heap.size w w' := by
  obtain ⟨x, c, rfl⟩ := row_slice hr.1
  have hp := put_form o
  have hg := get_form r
  obtain ⟨s, e, vv, b, z, os⟩ := o
  obtain ⟨rn, rt, rc, rl, rd⟩ := r
  rcases hp with hp | hp
  · rcases hg with hg | hg
    · exact case11 s e vv b z os x _ c rn rt rc rl rd hd w hr hp hg
    · exact case10 s e vv b z os x _ c rn rt rc rl rd hd w hr hp hg
  · rcases hg with hg | hg
    · exact case01 s e vv b z os x _ c rn rt rc rl rd hd w hr hp hg
    · exact case00 s e vv b z os x _ c rn rt rc rl rd hd w hr hp hg

theorem own : ownKnob Try.prog.godebug = none := by kernel_rfl
theorem laidOut : laidOutB Try.prog = true := by kernel_rfl

set_option maxRecDepth 100000 in
theorem lifted (os : Os) (started : os.Started) (H : Type) (enc : TypeId × Value → H) :
    ReturnsInHanded {} Try.checked os 4 .any (Rows.optBackSpec.pre6 enc Try.prog Try.f4 Rows.optBackRow.domain false) (Rows.optBackSpec.post enc Try.prog Try.f4 false true false false) := by
  refine returnsInHanded_of_change_sized (C := Try.checked) own started (by kernel_rfl) Try.func4
    (ChangeSpec.witness6 (enc := enc) (C := Try.checked) false ⟨#[], #[.agg (optC otZ (.slice none 0 0)), .agg (rrC rcZ)], []⟩ 8 (by kernel_rfl) (by kernel_rfl) (by kernel_rfl) (by kernel_rfl)) ?_
  intro W base args ds gs before hval0 hW _ hsz0 _
  have hval : ∀ (j : Nat) t v, Try.f4.params[j]? = some t → args[j]? = some v → Value.okWide Try.prog W .any base t v := hval0
  have hsz : (DataW.weightsEach Try.prog (Try.f4.params.toList ++ Rows.optBackSpec.plain.varTypes Try.prog) (ds ++ gs)).all (· ≤ reachBytes) = true := hsz0
  have hW' := hW
  obtain ⟨p, q, hA0, hV, rfl, hfz, hnd⟩ := hW
  have hA : DataW.TrodAll enc Try.prog W 0 (fun _ => true) true Try.f4.params.toList args.toList ds p := hA0
  rw [Try.params4] at hA hval hsz
  obtain ⟨v0, vs0, d0, ds0, p0, q0, hargs, rfl, rfl, h0, r0⟩ := trodAll_cons hA
  obtain ⟨v1, vs1, d1, ds1, p1, q1, rfl, rfl, rfl, h1, r1⟩ := trodAll_cons r0
  obtain ⟨rfl, rfl, rfl⟩ := trodAll_nil r1
  obtain rfl : args = #[v0, v1] := by cases args; simp_all
  obtain ⟨rfl, rfl⟩ := trodVars_none hV
  obtain ⟨a0, b0, rfl, w0, z0⟩ := open_opt (hval 0 24 v0 rfl rfl) h0 (weights_all hsz (j := 0) rfl rfl)
  obtain ⟨a1, rfl, rfl, w1n, w1d⟩ := open_rr (hval 1 26 v1 rfl rfl) h1
  have hlt0 : ∀ x ∈ p0, x.block < W.heap.size := fun x hx => by
    have := hW'.lt x (by simp [hx])
    simpa using this
  clear hA0 hval0 hsz0 hsz
  simp only [List.append_nil] at hW'
  refine (walk a0 b0 a1 w1n w1d z0 W w0).mono fun e W' ⟨he, bel⟩ => ?_
  subst he
  exact ⟨_, rfl, _, _, _, [], _, [], hW', trodAll_mk1 (shut_bool Try.underlying4 _), (trodAll_cons_mk (Below.trod laidOut (by kernel_rfl) (of_decide_eq_true (by kernel_rfl)) h0 bel hlt0) (trodAll_cons_mk (Below.trod laidOut (by kernel_rfl) (of_decide_eq_true (by kernel_rfl)) h1 bel (by simp)) trodAll_mk0)), rfl, bel.frame _, fun h => by cases h⟩

/-- The statement. -/
theorem proved : Rows.OptBackSaid :=
  OpenClaim.holds_of_wide 4 Try.f4 rfl rfl rfl rfl rfl rfl rfl ⟨rfl, rfl, rfl, rfl, rfl⟩ rfl rfl rfl rfl rfl (by kernel_rfl) Try.func4 (by kernel_rfl)
    (of_decide_eq_true (by kernel_rfl)) (by unfold Func.isWrapper; first | (rw [if_pos (by decide +kernel)]; kernel_rfl) | (rw [if_neg (by decide +kernel)]; exact ⟨rfl, rfl⟩))
    (fun os started H enc _ => lifted os started H enc)
#print axioms proved

end Go.Proofs.Ytehldafdjldpbaa.optBack
