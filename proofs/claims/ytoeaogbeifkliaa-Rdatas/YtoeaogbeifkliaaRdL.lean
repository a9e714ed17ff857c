/- What the document's Soa gives. -/
import Derived.Test.YtoeaogbeifkliaaRdK
import Derived.Test.YtoeaogbeifkliaaWalkV
namespace Go.Proofs.Ytoeaogbeifkliaa
open Go.RowKit
open Pl

/-- What Soa gives. -/
def soaD (h m : ByteArray) (a b c d e : Int) : Option ByteArray := if (isName h.data.toList && isName m.data.toList && (inB 4294967295 a && inB 4294967295 b && inB 4294967295 c && inB 4294967295 d && inB 4294967295 e)) = true then some (soaS h m a b c d e 5) else none
theorem soaD_yes {h m : ByteArray} {a b c d e : Int} (hv : (isName h.data.toList && isName m.data.toList && (inB 4294967295 a && inB 4294967295 b && inB 4294967295 c && inB 4294967295 d && inB 4294967295 e)) = true) : soaD h m a b c d e = some (soaS h m a b c d e 5) := if_pos hv
theorem soaD_no {h m : ByteArray} {a b c d e : Int} (hv : (isName h.data.toList && isName m.data.toList && (inB 4294967295 a && inB 4294967295 b && inB 4294967295 c && inB 4294967295 d && inB 4294967295 e)) = false) : soaD h m a b c d e = none := if_neg (by rw [hv]; simp)
theorem in_five (a b c d e : Int) : allIn 4294967295 [a, b, c, d, e] = (inB 4294967295 a && inB 4294967295 b && inB 4294967295 c && inB 4294967295 d && inB 4294967295 e) := by
  simp [allIn, inB, Bool.and_assoc]
theorem soa_any (h m : ByteArray) (a b c d e : Int) (w : World) (s1 : h.size ≤ maxLen) (s2 : m.size ≤ maxLen) :
    Calls Try.prog 19 #[.agg (soaV h m a b c d e)] w fun r w' => r = .returned (optT (soaD h m a b c d e)) ∧ Below w.heap.size w w' := by
  cases hv : (isName h.data.toList && isName m.data.toList && (inB 4294967295 a && inB 4294967295 b && inB 4294967295 c && inB 4294967295 d && inB 4294967295 e)) with
  | true =>
    rw [soaD_yes hv]
    rw [← in_five, Bool.and_eq_true, Bool.and_eq_true] at hv
    exact soa_yes h m a b c d e w hv.1.1 hv.1.2 hv.2
  | false =>
    rw [soaD_no hv]
    rw [← in_five] at hv
    exact soa_no h m a b c d e w s1 s2 hv

set_option maxRecDepth 20000 in
set_option maxHeartbeats 4000000 in
theorem refSoa_any (h m : ByteArray) (a b c d e : Int) (w : World) (s1 : h.size ≤ maxLen) (s2 : m.size ≤ maxLen) :
    Calls Try.prog 20 #[.agg (soaV h m a b c d e)] w fun r w' => r = .returned (optT (soaD h m a b c d e)) ∧ Below w.heap.size w w' := by
  have kb : Blk (w.alloc (.cells #[.string h, .string m, .int .i64 a, .int .i64 b, .int .i64 c, .int .i64 d, .int .i64 e] 23)) w.heap.size #[.string h, .string m, .int .i64 a, .int .i64 b, .int .i64 c, .int .i64 d, .int .i64 e] 23 := Blk.new w _ _
  have hb : Below w.heap.size w (w.alloc (.cells #[.string h, .string m, .int .i64 a, .int .i64 b, .int .i64 c, .int .i64 d, .int .i64 e] 23)) := lay (Below.refl _ _) _
  have t0 : True := trivial
  have t2 : True := trivial
  have t3 : True := trivial
  have t4 : True := trivial
  have t5 : True := trivial
  have t6 : True := trivial
  unfold soaV
  cases bh : isName h.data.toList with
  | false =>
    have HR : Hid (soaD h m a b c d e = none) := soaD_no (by rw [bh]; simp)
    rw [HR.out]
    go_enter Try.func20, Try.ntmps20
    go_wp2_with (first
      | (go_at_call_of 28 (#[Value.string h]); have _t := t0; go_must (refine (refMay_as h false _ s1 bh).mono ?_); rintro r w1 ⟨rfl, b1⟩; clear t0 _t; replace kb := (by exact kb.below b1 : Blk w1 w.heap.size #[.string h, .string m, .int .i64 a, .int .i64 b, .int .i64 c, .int .i64 d, .int .i64 e] 23); replace hb := next hb b1; (try clear g0 g1 g2 g3 g4 g5 g6); obtain ⟨g0, g1, g2, g3, g4, g5, g6⟩ := Blk.seven (h := h) (m := m) (a := a) (b := b) (c := c) (d := d) (e := e) kb; clear b1))
    go_ret2
    exact ⟨rfl, hb⟩
  | true =>
    cases bm : isName m.data.toList with
    | false =>
      have HR : Hid (soaD h m a b c d e = none) := soaD_no (by rw [bm]; simp)
      rw [HR.out]
      go_enter Try.func20, Try.ntmps20
      go_wp2_with (first
        | (go_at_call_of 28 (#[Value.string h]); have _t := t0; go_must (refine (refMay_as h true _ s1 bh).mono ?_); rintro r w1 ⟨rfl, b1⟩; clear t0 _t; replace kb := (by exact kb.below b1 : Blk w1 w.heap.size #[.string h, .string m, .int .i64 a, .int .i64 b, .int .i64 c, .int .i64 d, .int .i64 e] 23); replace hb := next hb b1; (try clear g0 g1 g2 g3 g4 g5 g6); obtain ⟨g0, g1, g2, g3, g4, g5, g6⟩ := Blk.seven (h := h) (m := m) (a := a) (b := b) (c := c) (d := d) (e := e) kb; clear b1)
        | (go_at_call 28; go_must (refine (refMay_as m false _ s2 bm).mono ?_); rintro r w1 ⟨rfl, b1⟩; replace kb := (by exact kb.below b1 : Blk w1 w.heap.size #[.string h, .string m, .int .i64 a, .int .i64 b, .int .i64 c, .int .i64 d, .int .i64 e] 23); replace hb := next hb b1; (try clear g0 g1 g2 g3 g4 g5 g6); obtain ⟨g0, g1, g2, g3, g4, g5, g6⟩ := Blk.seven (h := h) (m := m) (a := a) (b := b) (c := c) (d := d) (e := e) kb; clear b1))
      go_ret2
      exact ⟨rfl, hb⟩
    | true =>
      cases ba : inB 4294967295 a with
      | false =>
        have HR : Hid (soaD h m a b c d e = none) := soaD_no (by rw [ba]; simp)
        rw [HR.out]
        go_enter Try.func20, Try.ntmps20
        go_wp2_with (first
          | (go_at_call_of 28 (#[Value.string h]); have _t := t0; go_must (refine (refMay_as h true _ s1 bh).mono ?_); rintro r w1 ⟨rfl, b1⟩; clear t0 _t; replace kb := (by exact kb.below b1 : Blk w1 w.heap.size #[.string h, .string m, .int .i64 a, .int .i64 b, .int .i64 c, .int .i64 d, .int .i64 e] 23); replace hb := next hb b1; (try clear g0 g1 g2 g3 g4 g5 g6); obtain ⟨g0, g1, g2, g3, g4, g5, g6⟩ := Blk.seven (h := h) (m := m) (a := a) (b := b) (c := c) (d := d) (e := e) kb; clear b1)
          | (go_at_call 28; go_must (refine (refMay_as m true _ s2 bm).mono ?_); rintro r w1 ⟨rfl, b1⟩; replace kb := (by exact kb.below b1 : Blk w1 w.heap.size #[.string h, .string m, .int .i64 a, .int .i64 b, .int .i64 c, .int .i64 d, .int .i64 e] 23); replace hb := next hb b1; (try clear g0 g1 g2 g3 g4 g5 g6); obtain ⟨g0, g1, g2, g3, g4, g5, g6⟩ := Blk.seven (h := h) (m := m) (a := a) (b := b) (c := c) (d := d) (e := e) kb; clear b1)
          | (go_at_call_of 31 (#[Value.int IntKind.i64 a]); have _t := t2; go_must (refine (wide_as a false _ ba).mono ?_); rintro r w' ⟨rfl, hw⟩; obtain rfl := hw.symm; clear t2 _t))
        go_ret2
        exact ⟨rfl, hb⟩
      | true =>
        cases bb : inB 4294967295 b with
        | false =>
          have HR : Hid (soaD h m a b c d e = none) := soaD_no (by rw [bb]; simp)
          rw [HR.out]
          go_enter Try.func20, Try.ntmps20
          go_wp2_with (first
            | (go_at_call_of 28 (#[Value.string h]); have _t := t0; go_must (refine (refMay_as h true _ s1 bh).mono ?_); rintro r w1 ⟨rfl, b1⟩; clear t0 _t; replace kb := (by exact kb.below b1 : Blk w1 w.heap.size #[.string h, .string m, .int .i64 a, .int .i64 b, .int .i64 c, .int .i64 d, .int .i64 e] 23); replace hb := next hb b1; (try clear g0 g1 g2 g3 g4 g5 g6); obtain ⟨g0, g1, g2, g3, g4, g5, g6⟩ := Blk.seven (h := h) (m := m) (a := a) (b := b) (c := c) (d := d) (e := e) kb; clear b1)
            | (go_at_call 28; go_must (refine (refMay_as m true _ s2 bm).mono ?_); rintro r w1 ⟨rfl, b1⟩; replace kb := (by exact kb.below b1 : Blk w1 w.heap.size #[.string h, .string m, .int .i64 a, .int .i64 b, .int .i64 c, .int .i64 d, .int .i64 e] 23); replace hb := next hb b1; (try clear g0 g1 g2 g3 g4 g5 g6); obtain ⟨g0, g1, g2, g3, g4, g5, g6⟩ := Blk.seven (h := h) (m := m) (a := a) (b := b) (c := c) (d := d) (e := e) kb; clear b1)
            | (go_at_call_of 31 (#[Value.int IntKind.i64 a]); have _t := t2; go_must (refine (wide_as a true _ ba).mono ?_); rintro r w' ⟨rfl, hw⟩; obtain rfl := hw.symm; clear t2 _t)
            | (go_at_call_of 31 (#[Value.int IntKind.i64 b]); have _t := t3; go_must (refine (wide_as b false _ bb).mono ?_); rintro r w' ⟨rfl, hw⟩; obtain rfl := hw.symm; clear t3 _t))
          go_ret2
          exact ⟨rfl, hb⟩
        | true =>
          cases bc : inB 4294967295 c with
          | false =>
            have HR : Hid (soaD h m a b c d e = none) := soaD_no (by rw [bc]; simp)
            rw [HR.out]
            go_enter Try.func20, Try.ntmps20
            go_wp2_with (first
              | (go_at_call_of 28 (#[Value.string h]); have _t := t0; go_must (refine (refMay_as h true _ s1 bh).mono ?_); rintro r w1 ⟨rfl, b1⟩; clear t0 _t; replace kb := (by exact kb.below b1 : Blk w1 w.heap.size #[.string h, .string m, .int .i64 a, .int .i64 b, .int .i64 c, .int .i64 d, .int .i64 e] 23); replace hb := next hb b1; (try clear g0 g1 g2 g3 g4 g5 g6); obtain ⟨g0, g1, g2, g3, g4, g5, g6⟩ := Blk.seven (h := h) (m := m) (a := a) (b := b) (c := c) (d := d) (e := e) kb; clear b1)
              | (go_at_call 28; go_must (refine (refMay_as m true _ s2 bm).mono ?_); rintro r w1 ⟨rfl, b1⟩; replace kb := (by exact kb.below b1 : Blk w1 w.heap.size #[.string h, .string m, .int .i64 a, .int .i64 b, .int .i64 c, .int .i64 d, .int .i64 e] 23); replace hb := next hb b1; (try clear g0 g1 g2 g3 g4 g5 g6); obtain ⟨g0, g1, g2, g3, g4, g5, g6⟩ := Blk.seven (h := h) (m := m) (a := a) (b := b) (c := c) (d := d) (e := e) kb; clear b1)
              | (go_at_call_of 31 (#[Value.int IntKind.i64 a]); have _t := t2; go_must (refine (wide_as a true _ ba).mono ?_); rintro r w' ⟨rfl, hw⟩; obtain rfl := hw.symm; clear t2 _t)
              | (go_at_call_of 31 (#[Value.int IntKind.i64 b]); have _t := t3; go_must (refine (wide_as b true _ bb).mono ?_); rintro r w' ⟨rfl, hw⟩; obtain rfl := hw.symm; clear t3 _t)
              | (go_at_call_of 31 (#[Value.int IntKind.i64 c]); have _t := t4; go_must (refine (wide_as c false _ bc).mono ?_); rintro r w' ⟨rfl, hw⟩; obtain rfl := hw.symm; clear t4 _t))
            go_ret2
            exact ⟨rfl, hb⟩
          | true =>
            cases bd : inB 4294967295 d with
            | false =>
              have HR : Hid (soaD h m a b c d e = none) := soaD_no (by rw [bd]; simp)
              rw [HR.out]
              go_enter Try.func20, Try.ntmps20
              go_wp2_with (first
                | (go_at_call_of 28 (#[Value.string h]); have _t := t0; go_must (refine (refMay_as h true _ s1 bh).mono ?_); rintro r w1 ⟨rfl, b1⟩; clear t0 _t; replace kb := (by exact kb.below b1 : Blk w1 w.heap.size #[.string h, .string m, .int .i64 a, .int .i64 b, .int .i64 c, .int .i64 d, .int .i64 e] 23); replace hb := next hb b1; (try clear g0 g1 g2 g3 g4 g5 g6); obtain ⟨g0, g1, g2, g3, g4, g5, g6⟩ := Blk.seven (h := h) (m := m) (a := a) (b := b) (c := c) (d := d) (e := e) kb; clear b1)
                | (go_at_call 28; go_must (refine (refMay_as m true _ s2 bm).mono ?_); rintro r w1 ⟨rfl, b1⟩; replace kb := (by exact kb.below b1 : Blk w1 w.heap.size #[.string h, .string m, .int .i64 a, .int .i64 b, .int .i64 c, .int .i64 d, .int .i64 e] 23); replace hb := next hb b1; (try clear g0 g1 g2 g3 g4 g5 g6); obtain ⟨g0, g1, g2, g3, g4, g5, g6⟩ := Blk.seven (h := h) (m := m) (a := a) (b := b) (c := c) (d := d) (e := e) kb; clear b1)
                | (go_at_call_of 31 (#[Value.int IntKind.i64 a]); have _t := t2; go_must (refine (wide_as a true _ ba).mono ?_); rintro r w' ⟨rfl, hw⟩; obtain rfl := hw.symm; clear t2 _t)
                | (go_at_call_of 31 (#[Value.int IntKind.i64 b]); have _t := t3; go_must (refine (wide_as b true _ bb).mono ?_); rintro r w' ⟨rfl, hw⟩; obtain rfl := hw.symm; clear t3 _t)
                | (go_at_call_of 31 (#[Value.int IntKind.i64 c]); have _t := t4; go_must (refine (wide_as c true _ bc).mono ?_); rintro r w' ⟨rfl, hw⟩; obtain rfl := hw.symm; clear t4 _t)
                | (go_at_call_of 31 (#[Value.int IntKind.i64 d]); have _t := t5; go_must (refine (wide_as d false _ bd).mono ?_); rintro r w' ⟨rfl, hw⟩; obtain rfl := hw.symm; clear t5 _t))
              go_ret2
              exact ⟨rfl, hb⟩
            | true =>
              cases be : inB 4294967295 e with
              | false =>
                have HR : Hid (soaD h m a b c d e = none) := soaD_no (by rw [be]; simp)
                rw [HR.out]
                go_enter Try.func20, Try.ntmps20
                go_wp2_with (first
                  | (go_at_call_of 28 (#[Value.string h]); have _t := t0; go_must (refine (refMay_as h true _ s1 bh).mono ?_); rintro r w1 ⟨rfl, b1⟩; clear t0 _t; replace kb := (by exact kb.below b1 : Blk w1 w.heap.size #[.string h, .string m, .int .i64 a, .int .i64 b, .int .i64 c, .int .i64 d, .int .i64 e] 23); replace hb := next hb b1; (try clear g0 g1 g2 g3 g4 g5 g6); obtain ⟨g0, g1, g2, g3, g4, g5, g6⟩ := Blk.seven (h := h) (m := m) (a := a) (b := b) (c := c) (d := d) (e := e) kb; clear b1)
                  | (go_at_call 28; go_must (refine (refMay_as m true _ s2 bm).mono ?_); rintro r w1 ⟨rfl, b1⟩; replace kb := (by exact kb.below b1 : Blk w1 w.heap.size #[.string h, .string m, .int .i64 a, .int .i64 b, .int .i64 c, .int .i64 d, .int .i64 e] 23); replace hb := next hb b1; (try clear g0 g1 g2 g3 g4 g5 g6); obtain ⟨g0, g1, g2, g3, g4, g5, g6⟩ := Blk.seven (h := h) (m := m) (a := a) (b := b) (c := c) (d := d) (e := e) kb; clear b1)
                  | (go_at_call_of 31 (#[Value.int IntKind.i64 a]); have _t := t2; go_must (refine (wide_as a true _ ba).mono ?_); rintro r w' ⟨rfl, hw⟩; obtain rfl := hw.symm; clear t2 _t)
                  | (go_at_call_of 31 (#[Value.int IntKind.i64 b]); have _t := t3; go_must (refine (wide_as b true _ bb).mono ?_); rintro r w' ⟨rfl, hw⟩; obtain rfl := hw.symm; clear t3 _t)
                  | (go_at_call_of 31 (#[Value.int IntKind.i64 c]); have _t := t4; go_must (refine (wide_as c true _ bc).mono ?_); rintro r w' ⟨rfl, hw⟩; obtain rfl := hw.symm; clear t4 _t)
                  | (go_at_call_of 31 (#[Value.int IntKind.i64 d]); have _t := t5; go_must (refine (wide_as d true _ bd).mono ?_); rintro r w' ⟨rfl, hw⟩; obtain rfl := hw.symm; clear t5 _t)
                  | (go_at_call_of 31 (#[Value.int IntKind.i64 e]); have _t := t6; go_must (refine (wide_as e false _ be).mono ?_); rintro r w' ⟨rfl, hw⟩; obtain rfl := hw.symm; clear t6 _t))
                go_ret2
                exact ⟨rfl, hb⟩
              | true =>
                have HR : Hid (soaD h m a b c d e = some (soaS h m a b c d e 5)) := soaD_yes (by rw [bh, bm, ba, bb, bc, bd, be]; rfl)
                rw [HR.out]
                have z1 := name_size bh
                have z2 := name_size bm
                go_enter Try.func20, Try.ntmps20
                go_wp2_with (first
                  | (go_at_call_of 28 (#[Value.string h]); have _t := t0; go_must (refine (refMay_as h true _ s1 bh).mono ?_); rintro r w1 ⟨rfl, b1⟩; clear t0 _t; replace kb := (by exact kb.below b1 : Blk w1 w.heap.size #[.string h, .string m, .int .i64 a, .int .i64 b, .int .i64 c, .int .i64 d, .int .i64 e] 23); replace hb := next hb b1; (try clear g0 g1 g2 g3 g4 g5 g6); obtain ⟨g0, g1, g2, g3, g4, g5, g6⟩ := Blk.seven (h := h) (m := m) (a := a) (b := b) (c := c) (d := d) (e := e) kb; clear b1)
                  | (go_at_call 28; go_must (refine (refMay_as m true _ s2 bm).mono ?_); rintro r w1 ⟨rfl, b1⟩; replace kb := (by exact kb.below b1 : Blk w1 w.heap.size #[.string h, .string m, .int .i64 a, .int .i64 b, .int .i64 c, .int .i64 d, .int .i64 e] 23); replace hb := next hb b1; (try clear g0 g1 g2 g3 g4 g5 g6); obtain ⟨g0, g1, g2, g3, g4, g5, g6⟩ := Blk.seven (h := h) (m := m) (a := a) (b := b) (c := c) (d := d) (e := e) kb; clear b1)
                  | (go_at_call_of 31 (#[Value.int IntKind.i64 a]); have _t := t2; go_must (refine (wide_as a true _ ba).mono ?_); rintro r w' ⟨rfl, hw⟩; obtain rfl := hw.symm; clear t2 _t)
                  | (go_at_call_of 31 (#[Value.int IntKind.i64 b]); have _t := t3; go_must (refine (wide_as b true _ bb).mono ?_); rintro r w' ⟨rfl, hw⟩; obtain rfl := hw.symm; clear t3 _t)
                  | (go_at_call_of 31 (#[Value.int IntKind.i64 c]); have _t := t4; go_must (refine (wide_as c true _ bc).mono ?_); rintro r w' ⟨rfl, hw⟩; obtain rfl := hw.symm; clear t4 _t)
                  | (go_at_call_of 31 (#[Value.int IntKind.i64 d]); have _t := t5; go_must (refine (wide_as d true _ bd).mono ?_); rintro r w' ⟨rfl, hw⟩; obtain rfl := hw.symm; clear t5 _t)
                  | (go_at_call_of 31 (#[Value.int IntKind.i64 e]); have _t := t6; go_must (refine (wide_as e true _ be).mono ?_); rintro r w' ⟨rfl, hw⟩; obtain rfl := hw.symm; clear t6 _t))
                have c0 : ∀ n : Bel w1, n.to.cell? ⟨w.heap.size, 0, none⟩ = some (.string h) := fun n => (kb.below n.h).cell 0
                have c1 : ∀ n : Bel w1, n.to.cell? ⟨w.heap.size, 1, none⟩ = some (.string m) := fun n => (kb.below n.h).cell 1
                have c2 : ∀ n : Bel w1, n.to.cell? ⟨w.heap.size, 2, none⟩ = some (.int .i64 a) := fun n => (kb.below n.h).cell 2
                have c3 : ∀ n : Bel w1, n.to.cell? ⟨w.heap.size, 3, none⟩ = some (.int .i64 b) := fun n => (kb.below n.h).cell 3
                have c4 : ∀ n : Bel w1, n.to.cell? ⟨w.heap.size, 4, none⟩ = some (.int .i64 c) := fun n => (kb.below n.h).cell 4
                have c5 : ∀ n : Bel w1, n.to.cell? ⟨w.heap.size, 5, none⟩ = some (.int .i64 d) := fun n => (kb.below n.h).cell 5
                have c6 : ∀ n : Bel w1, n.to.cell? ⟨w.heap.size, 6, none⟩ = some (.int .i64 e) := fun n => (kb.below n.h).cell 6
                have y0 : h.size + m.size ≤ 1000 := by omega
                have y1 : (h ++ m).size + (be4 a).size ≤ 1000 := by rw [ByteArray.size_append, size4]; omega
                have y2 : (h ++ m ++ be4 a).size + (be4 b).size ≤ 1000 := by simp only [ByteArray.size_append, size4]; omega
                have y3 : (h ++ m ++ be4 a ++ be4 b).size + (be4 c).size ≤ 1000 := by simp only [ByteArray.size_append, size4]; omega
                have y4 : (h ++ m ++ be4 a ++ be4 b ++ be4 c).size + (be4 d).size ≤ 1000 := by simp only [ByteArray.size_append, size4]; omega
                have y5 : (h ++ m ++ be4 a ++ be4 b ++ be4 c ++ be4 d).size + (be4 e).size ≤ 1000 := by simp only [ByteArray.size_append, size4]; omega
                refine wp_region_bel (by kernel_rfl) (by kernel_rfl) (fun _ => ?_)
                repeat (go_big_quiet_step (first
                  | (go_at_call_of 32 (#[Value.int IntKind.i64 a, Value.int IntKind.i64 4]); exact bel_lays (be_four a _))
                  | (go_at_call_of 32 (#[Value.int IntKind.i64 b, Value.int IntKind.i64 4]); exact bel_lays (be_four b _))
                  | (go_at_call_of 32 (#[Value.int IntKind.i64 c, Value.int IntKind.i64 4]); exact bel_lays (be_four c _))
                  | (go_at_call_of 32 (#[Value.int IntKind.i64 d, Value.int IntKind.i64 4]); exact bel_lays (be_four d _))
                  | (go_at_call 32; exact bel_lays (be_four e _))))
                refine wpQuiet_nil ?_
                intro wn hwn
                have hbn := bel_out hwn
                go_wp2
                go_ret2
                exact ⟨rfl, next hb hbn⟩

end Go.Proofs.Ytoeaogbeifkliaa
