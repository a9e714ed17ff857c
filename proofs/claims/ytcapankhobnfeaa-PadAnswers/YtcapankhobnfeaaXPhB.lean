/- SameMsg of what is left of a message, and the message. -/
import Derived.Test.YtcapankhobnfeaaXPhA
namespace Go.Proofs.Ytcapankhobnfeaa
open Go.RowKit
open Pl


set_option maxRecDepth 20000 in
set_option maxHeartbeats 2000000 in
theorem same_cut (id : Int) (qr : Bool) (op : Int) (aa tc rd ra : Bool) (z rc : Int) (qs : List Qn) (an ns ar : List Rc) (x0 x1 x2 x3 y0 y1 y2 y3 : Option Addr) (c0 c1 c2 c3 d0 d1 d2 d3 : Nat) (w : World) (hq : Row w (.slice y0 qs.length d0) qs.length (qC qs)) (h0 : Row w (.slice x0 qs.length c0) qs.length (qC qs)) (h1 : Row w (.slice x1 an.length c1) an.length (rC an)) (h2 : Row w (.slice x2 ns.length c2) ns.length (rC ns)) (h3 : Row w (.slice x3 ar.length c3) ar.length (rC ar)) (e1 : Row w (.slice y1 0 d1) 0 []) (e2 : Row w (.slice y2 0 d2) 0 []) (e3 : Row w (.slice y3 0 d3) 0 []) (f0 : qs.length ≤ 64) (f1 : an.length ≤ 64) (f2 : ns.length ≤ 64) (f3 : ar.length ≤ 64) :
    Calls Try.prog 15 #[.agg #[.int .i64 id, .bool qr, .int .i64 op, .bool aa, .bool true, .bool rd, .bool ra, .int .i64 z, .int .i64 rc, .slice y0 qs.length d0, .slice y1 0 d1, .slice y2 0 d2, .slice y3 0 d3], .agg #[.int .i64 id, .bool qr, .int .i64 op, .bool aa, .bool tc, .bool rd, .bool ra, .int .i64 z, .int .i64 rc, .slice x0 qs.length c0, .slice x1 an.length c1, .slice x2 ns.length c2, .slice x3 ar.length c3]] w fun e w' => e = .returned (.bool (tc && decide (an.length = 0) && decide (ns.length = 0) && decide (ar.length = 0))) ∧ Below w.heap.size w w' := by
  have M : ∀ {k : Nat}, k ≤ 64 → k ≤ maxLen := fun h => small100 (by omega)
  have KQ : ∀ u, Hid (Below w.heap.size w u) → _ := fun u hu => sameQ_yes _ _ qs u (hq.below hu.out) (h0.below hu.out) (M f0)
  have K1 : ∀ u, Hid (Below w.heap.size w u) → Calls Try.prog 38 #[.slice y1 0 d1, .slice x1 an.length c1] u fun e w' => e = .returned (.bool (decide (an.length = 0))) ∧ Below u.heap.size u w' := fun u hu => by
    by_cases e : an.length = 0
    · have : an = [] := List.eq_nil_of_length_eq_zero e
      subst this
      exact sameR_yes _ _ [] u (e1.below hu.out) (h1.below hu.out) (M f1)
    · rw [decide_eq_false e]
      exact sameR_no y1 x1 0 an.length d1 c1 u (Ne.symm e) (M (by omega)) (M f1)
  have K2 : ∀ u, Hid (Below w.heap.size w u) → Calls Try.prog 38 #[.slice y2 0 d2, .slice x2 ns.length c2] u fun e w' => e = .returned (.bool (decide (ns.length = 0))) ∧ Below u.heap.size u w' := fun u hu => by
    by_cases e : ns.length = 0
    · have : ns = [] := List.eq_nil_of_length_eq_zero e
      subst this
      exact sameR_yes _ _ [] u (e2.below hu.out) (h2.below hu.out) (M f2)
    · rw [decide_eq_false e]
      exact sameR_no y2 x2 0 ns.length d2 c2 u (Ne.symm e) (M (by omega)) (M f2)
  have K3 : ∀ u, Hid (Below w.heap.size w u) → Calls Try.prog 38 #[.slice y3 0 d3, .slice x3 ar.length c3] u fun e w' => e = .returned (.bool (decide (ar.length = 0))) ∧ Below u.heap.size u w' := fun u hu => by
    by_cases e : ar.length = 0
    · have : ar = [] := List.eq_nil_of_length_eq_zero e
      subst this
      exact sameR_yes _ _ [] u (e3.below hu.out) (h3.below hu.out) (M f3)
    · rw [decide_eq_false e]
      exact sameR_no y3 x3 0 ar.length d3 c3 u (Ne.symm e) (M (by omega)) (M f3)
  obtain ⟨n0, g0⟩ : ∃ n, n = qs.length := ⟨_, rfl⟩
  obtain ⟨n1, g1⟩ : ∃ n, n = an.length := ⟨_, rfl⟩
  obtain ⟨n2, g2⟩ : ∃ n, n = ns.length := ⟨_, rfl⟩
  obtain ⟨n3, g3⟩ : ∃ n, n = ar.length := ⟨_, rfl⟩
  simp only [← g0, ← g1, ← g2, ← g3] at KQ K1 K2 K3 ⊢
  obtain ⟨b1, hb1⟩ : ∃ b, decide (n1 = 0) = b := ⟨_, rfl⟩
  obtain ⟨b2, hb2⟩ : ∃ b, decide (n2 = 0) = b := ⟨_, rfl⟩
  obtain ⟨b3, hb3⟩ : ∃ b, decide (n3 = 0) = b := ⟨_, rfl⟩
  rw [hb1] at K1
  rw [hb2] at K2
  rw [hb3] at K3
  rw [hb1, hb2, hb3]
  clear hq h0 h1 h2 h3 e1 e2 e3 f0 f1 f2 f3 g0 g1 g2 g3 hb1 hb2 hb3 M
  have hb := lay (lay (Below.refl w.heap.size w) (.cells #[.int .i64 id, .bool qr, .int .i64 op, .bool aa, .bool true, .bool rd, .bool ra, .int .i64 z, .int .i64 rc, .slice y0 n0 d0, .slice y1 0 d1, .slice y2 0 d2, .slice y3 0 d3] 29)) (.cells #[.int .i64 id, .bool qr, .int .i64 op, .bool aa, .bool tc, .bool rd, .bool ra, .int .i64 z, .int .i64 rc, .slice x0 n0 c0, .slice x1 n1 c1, .slice x2 n2 c2, .slice x3 n3 c3] 29)
  have KX := (Blk.new w #[.int .i64 id, .bool qr, .int .i64 op, .bool aa, .bool true, .bool rd, .bool ra, .int .i64 z, .int .i64 rc, .slice y0 n0 d0, .slice y1 0 d1, .slice y2 0 d2, .slice y3 0 d3] 29).alloc (.cells #[.int .i64 id, .bool qr, .int .i64 op, .bool aa, .bool tc, .bool rd, .bool ra, .int .i64 z, .int .i64 rc, .slice x0 n0 c0, .slice x1 n1 c1, .slice x2 n2 c2, .slice x3 n3 c3] 29)
  have KY := Blk.new (w.alloc (.cells #[.int .i64 id, .bool qr, .int .i64 op, .bool aa, .bool true, .bool rd, .bool ra, .int .i64 z, .int .i64 rc, .slice y0 n0 d0, .slice y1 0 d1, .slice y2 0 d2, .slice y3 0 d3] 29)) #[.int .i64 id, .bool qr, .int .i64 op, .bool aa, .bool tc, .bool rd, .bool ra, .int .i64 z, .int .i64 rc, .slice x0 n0 c0, .slice x1 n1 c1, .slice x2 n2 c2, .slice x3 n3 c3] 29
  rw [World.size_alloc] at KY
  have t1 : True := trivial
  have t2 : True := trivial
  cases tc with
  | false =>
    go_enter Try.func15, Try.ntmps15
    go_wp2
    go_ret
    exact ⟨rfl, hb⟩
  | true =>
    cases b1 with
    | false =>
      go_enter Try.func15, Try.ntmps15
      go_wp2_with (first
        | (go_at_call 23; go_must (refine (KQ _ hb).mono ?_); rintro e w1 ⟨rfl, bb⟩; replace KX := KX.below bb; replace KY := KY.below bb; replace hb := next hb bb; have p10 : w1.cell? ⟨w.heap.size, 10, none⟩ = some (.slice y1 0 d1) := KX.cell 10; have r10 : w1.cell? ⟨w.heap.size + 1, 10, none⟩ = some (.slice x1 n1 c1) := KY.cell 10; clear bb)
        | (go_at_call 38; have _t := t1; go_must (refine (K1 _ hb).mono ?_); rintro e w2 ⟨rfl, bb⟩; replace KX := KX.below bb; replace KY := KY.below bb; replace hb := next hb bb; clear p10 r10; have p11 : w2.cell? ⟨w.heap.size, 11, none⟩ = some (.slice y2 0 d2) := KX.cell 11; have r11 : w2.cell? ⟨w.heap.size + 1, 11, none⟩ = some (.slice x2 n2 c2) := KY.cell 11; clear bb t1 _t))
      go_ret
      exact ⟨rfl, hb⟩
    | true =>
      cases b2 with
      | false =>
        go_enter Try.func15, Try.ntmps15
        go_wp2_with (first
          | (go_at_call 23; go_must (refine (KQ _ hb).mono ?_); rintro e w1 ⟨rfl, bb⟩; replace KX := KX.below bb; replace KY := KY.below bb; replace hb := next hb bb; have p10 : w1.cell? ⟨w.heap.size, 10, none⟩ = some (.slice y1 0 d1) := KX.cell 10; have r10 : w1.cell? ⟨w.heap.size + 1, 10, none⟩ = some (.slice x1 n1 c1) := KY.cell 10; clear bb)
          | (go_at_call 38; have _t := t1; go_must (refine (K1 _ hb).mono ?_); rintro e w2 ⟨rfl, bb⟩; replace KX := KX.below bb; replace KY := KY.below bb; replace hb := next hb bb; clear p10 r10; have p11 : w2.cell? ⟨w.heap.size, 11, none⟩ = some (.slice y2 0 d2) := KX.cell 11; have r11 : w2.cell? ⟨w.heap.size + 1, 11, none⟩ = some (.slice x2 n2 c2) := KY.cell 11; clear bb t1 _t)
          | (go_at_call 38; have _t := t2; go_must (refine (K2 _ hb).mono ?_); rintro e w3 ⟨rfl, bb⟩; replace KX := KX.below bb; replace KY := KY.below bb; replace hb := next hb bb; clear p11 r11; have p12 : w3.cell? ⟨w.heap.size, 12, none⟩ = some (.slice y3 0 d3) := KX.cell 12; have r12 : w3.cell? ⟨w.heap.size + 1, 12, none⟩ = some (.slice x3 n3 c3) := KY.cell 12; clear bb t2 _t))
        go_ret
        exact ⟨rfl, hb⟩
      | true =>
        cases b3 with
        | false =>
          go_enter Try.func15, Try.ntmps15
          go_wp2_with (first
            | (go_at_call 23; go_must (refine (KQ _ hb).mono ?_); rintro e w1 ⟨rfl, bb⟩; replace KX := KX.below bb; replace KY := KY.below bb; replace hb := next hb bb; have p10 : w1.cell? ⟨w.heap.size, 10, none⟩ = some (.slice y1 0 d1) := KX.cell 10; have r10 : w1.cell? ⟨w.heap.size + 1, 10, none⟩ = some (.slice x1 n1 c1) := KY.cell 10; clear bb)
            | (go_at_call 38; have _t := t1; go_must (refine (K1 _ hb).mono ?_); rintro e w2 ⟨rfl, bb⟩; replace KX := KX.below bb; replace KY := KY.below bb; replace hb := next hb bb; clear p10 r10; have p11 : w2.cell? ⟨w.heap.size, 11, none⟩ = some (.slice y2 0 d2) := KX.cell 11; have r11 : w2.cell? ⟨w.heap.size + 1, 11, none⟩ = some (.slice x2 n2 c2) := KY.cell 11; clear bb t1 _t)
            | (go_at_call 38; have _t := t2; go_must (refine (K2 _ hb).mono ?_); rintro e w3 ⟨rfl, bb⟩; replace KX := KX.below bb; replace KY := KY.below bb; replace hb := next hb bb; clear p11 r11; have p12 : w3.cell? ⟨w.heap.size, 12, none⟩ = some (.slice y3 0 d3) := KX.cell 12; have r12 : w3.cell? ⟨w.heap.size + 1, 12, none⟩ = some (.slice x3 n3 c3) := KY.cell 12; clear bb t2 _t)
            | (go_at_call 38; go_must (refine (K3 _ hb).mono ?_); rintro e w4 ⟨rfl, bb⟩; replace hb := next hb bb; clear bb))
          go_ret
          exact ⟨rfl, hb⟩
        | true =>
          go_enter Try.func15, Try.ntmps15
          go_wp2_with (first
            | (go_at_call 23; go_must (refine (KQ _ hb).mono ?_); rintro e w1 ⟨rfl, bb⟩; replace KX := KX.below bb; replace KY := KY.below bb; replace hb := next hb bb; have p10 : w1.cell? ⟨w.heap.size, 10, none⟩ = some (.slice y1 0 d1) := KX.cell 10; have r10 : w1.cell? ⟨w.heap.size + 1, 10, none⟩ = some (.slice x1 n1 c1) := KY.cell 10; clear bb)
            | (go_at_call 38; have _t := t1; go_must (refine (K1 _ hb).mono ?_); rintro e w2 ⟨rfl, bb⟩; replace KX := KX.below bb; replace KY := KY.below bb; replace hb := next hb bb; clear p10 r10; have p11 : w2.cell? ⟨w.heap.size, 11, none⟩ = some (.slice y2 0 d2) := KX.cell 11; have r11 : w2.cell? ⟨w.heap.size + 1, 11, none⟩ = some (.slice x2 n2 c2) := KY.cell 11; clear bb t1 _t)
            | (go_at_call 38; have _t := t2; go_must (refine (K2 _ hb).mono ?_); rintro e w3 ⟨rfl, bb⟩; replace KX := KX.below bb; replace KY := KY.below bb; replace hb := next hb bb; clear p11 r11; have p12 : w3.cell? ⟨w.heap.size, 12, none⟩ = some (.slice y3 0 d3) := KX.cell 12; have r12 : w3.cell? ⟨w.heap.size + 1, 12, none⟩ = some (.slice x3 n3 c3) := KY.cell 12; clear bb t2 _t)
            | (go_at_call 38; go_must (refine (K3 _ hb).mono ?_); rintro e w4 ⟨rfl, bb⟩; replace hb := next hb bb; clear bb))
          go_ret
          exact ⟨rfl, hb⟩

end Go.Proofs.Ytcapankhobnfeaa
