/- What Put of package opt gives. -/
import Derived.Test.YtehldafdjldpbaaOpD
namespace Go.Proofs.Ytehldafdjldpbaa
open Go.RowKit

theorem Blk.past {w W w' : World} {g : Nat} {C : Array Value} {t : TypeId} (h : Blk w g C t) (hb : Below W.heap.size W w') (e : W.heap = w.heap) : Blk w' g C t := by
  have h' : Blk W g C t := by unfold Blk at h ⊢; rw [e]; exact h
  exact h'.below hb
theorem next_drew {w b W c : World} (h : Below w.heap.size w b) (k : Below W.heap.size W c) (e : W = b.drewN 1) : Below w.heap.size w c := by
  subst e; exact next (next h (below_drew ⟨1, rfl⟩)) k
theorem cell_far {w : World} {g b : Nat} (h : g ≠ b) (i j : Nat) (v : Value) : (w.setCell ⟨b, i, none⟩ v).cell? ⟨g, j, none⟩ = w.cell? ⟨g, j, none⟩ :=
  World.cell?_setCell_other _ _ _ _ (fun e => h (congrArg Addr.block e).symm)

/-- What Put gives, as a value. -/
def putOV (o : Ot) : Value := .tuple #[.agg (rrC (putO o)), .int .i64 (putE o)]
theorem putOV_no {o : Ot} (h : mayOt o = false) : putOV o = .tuple #[.agg (rrC rcZ), .int .i64 800] := by unfold putOV putO putE; rw [h]; rfl
theorem putOV_yes {o : Ot} (h : mayOt o = true) : putOV o = .tuple #[.agg (rrC ⟨rootB, 41, o.s, ttlO o, ⟨(osB o.os).toArray⟩⟩), .int .i64 0] := by unfold putOV putO putE; rw [h]; rfl
/-- The blocks of Put: the argument, the answer. -/
theorem put_blks (w : World) (o : Ot) (v : Value) : Blk ((w.alloc (.cells (optC o v) 24)).alloc (.cells (rrC rcZ) 26)) w.heap.size (optC o v) 24 ∧ Blk ((w.alloc (.cells (optC o v) 24)).alloc (.cells (rrC rcZ) 26)) (w.heap.size + 1) (rrC rcZ) 26 ∧ Below w.heap.size w ((w.alloc (.cells (optC o v) 24)).alloc (.cells (rrC rcZ) 26)) := by
  have h2 := Blk.new (w.alloc (.cells (optC o v) 24)) (rrC rcZ) 26
  rw [show (w.alloc (.cells (optC o v) 24)).heap.size = w.heap.size + 1 from by simp] at h2
  exact ⟨(Blk.new w (optC o v) 24).alloc _, h2, lay (lay (Below.refl _ _) _) _⟩

set_option maxRecDepth 20000 in
set_option maxHeartbeats 1000000 in
theorem optPut_any (o : Ot) (v : Value) (w : World) (hr : ORow w v o.os) :
    Calls Try.prog 9 #[.agg (optC o v)] w fun e w' => e = .returned (putOV o) ∧ Below w.heap.size w w' := by
  obtain ⟨KA, KB, hb⟩ := put_blks w o v
  obtain ⟨x, c, hv⟩ := row_slice hr.1
  obtain ⟨n, hn⟩ : ∃ n, n = o.os.length := ⟨_, rfl⟩
  rw [← hn] at hv
  subst hv
  have K1 := fun u => mayFields_any o (.slice x n c) u
  have K2 : ∀ u, Hid (Below w.heap.size w u) → Calls Try.prog 22 #[.slice x n c] u fun e w' => e = .returned (.bool (mayOs o.os)) ∧ Below u.heap.size u w' := fun u hu => mayOptions_any _ o.os u (hr.below hu.out)
  have K3 : ∀ u, Hid (Below w.heap.size w u) → Hid (mayOs o.os = true) → Calls Try.prog 24 #[.slice x n c] u fun e w' => e = .returned (.string ⟨(osB o.os).toArray⟩) ∧ Below u.heap.size u w' := fun u hu hm => putOptions_any _ o.os u (hr.below hu.out) (mayOs_iff.1 hm.out).2
  have K4 : Hid (mayFl o = true) → ∀ u, Calls Try.prog 23 #[.agg (optC o (.slice x n c))] u fun e w' => e = .returned (.int .u32 (ttlO o)) ∧ Below u.heap.size u w' := fun h u => join_any o _ u h.out
  clear hr hn
  cases h1 : mayFl o with
  | false =>
    have HR : Hid (putOV o = .tuple #[.agg (rrC rcZ), .int .i64 800]) := putOV_no (by unfold mayOt; rw [h1]; rfl)
    obtain ⟨s, e, vv, bb, z, os⟩ := o
    rw [h1] at K1
    clear K2 K3 K4 h1
    unfold optC at *
    simp only at *
    go_enter Try.func9, Try.ntmps9
    go_wp2_with (go_at_call 21; go_must (refine (K1 _).mono ?_); rintro e w1 ⟨rfl, b1⟩; replace KB := KB.below b1; replace hb := next hb b1; obtain ⟨f0, f1, f2, f3, f4⟩ := KB.five; obtain ⟨e0, e1, e2, e3, e4⟩ := KB.open5; clear b1)
    have q := set5_blk (r := rcZ) KB
    have qb := set5_below hb (Nat.le_succ _) hb.size rcZ
    change bodyPost Try.prog Try.f9 _ _ _ (set5 w1 (w.heap.size + 1) rcZ)
    revert q qb
    generalize set5 w1 (w.heap.size + 1) rcZ = W
    intro q qb
    obtain ⟨q0, q1, q2, q3, q4⟩ := q.five
    refine bodyPost_ret (v := .tuple #[.agg (rrC rcZ), .int .i64 800]) (by simp [results, Try.results9, go_sem, q0, q1, q2, q3, q4, rrC]) rfl ⟨by rw [HR.out], qb⟩
  | true =>
    have H1 : Hid (mayFl o = true) := h1
    replace K4 := K4 H1
    rw [h1] at K1
    clear h1
    cases h2 : mayOs o.os with
    | false =>
      have HR : Hid (putOV o = .tuple #[.agg (rrC rcZ), .int .i64 800]) := putOV_no (by unfold mayOt; rw [h2, Bool.and_false])
      obtain ⟨s, e, vv, bb, z, os⟩ := o
      simp only at h2
      rw [h2] at K2
      clear K3 K4 h2 H1
      unfold optC at *
      simp only at *
      go_enter Try.func9, Try.ntmps9
      go_wp2_with (first
        | (go_at_call 21; go_must (refine (K1 _).mono ?_); rintro e w1 ⟨rfl, b1⟩; replace KA := KA.below b1; replace KB := KB.below b1; replace hb := next hb b1; have d5 : w1.cell? ⟨w.heap.size, 5, none⟩ = some (.slice x n c) := KA.cell 5; clear b1)
        | (go_at_call 22; go_must (refine (K2 _ hb).mono ?_); rintro e w2 ⟨rfl, b1⟩; replace KB := KB.below b1; replace hb := next hb b1; obtain ⟨f0, f1, f2, f3, f4⟩ := KB.five; obtain ⟨e0, e1, e2, e3, e4⟩ := KB.open5; clear b1))
      have q := set5_blk (r := rcZ) KB
      have qb := set5_below hb (Nat.le_succ _) hb.size rcZ
      change bodyPost Try.prog Try.f9 _ _ _ (set5 w2 (w.heap.size + 1) rcZ)
      revert q qb
      generalize set5 w2 (w.heap.size + 1) rcZ = W
      intro q qb
      obtain ⟨q0, q1, q2, q3, q4⟩ := q.five
      refine bodyPost_ret (v := .tuple #[.agg (rrC rcZ), .int .i64 800]) (by simp [results, Try.results9, go_sem, q0, q1, q2, q3, q4, rrC]) rfl ⟨by rw [HR.out], qb⟩
    | true =>
      have HR : Hid (putOV o = .tuple #[.agg (rrC ⟨rootB, 41, o.s, ttlO o, ⟨(osB o.os).toArray⟩⟩), .int .i64 0]) := putOV_yes (by unfold mayOt; rw [H1.out, h2]; rfl)
      have H2 : Hid (mayOs o.os = true) := h2
      have ht := ttl_lt H1.out
      obtain ⟨s, e, vv, bb, z, os⟩ := o
      simp only at h2
      rw [h2] at K2
      obtain ⟨T, hT⟩ : ∃ T, T = ttlO ⟨s, e, vv, bb, z, os⟩ := ⟨_, rfl⟩
      rw [← hT] at K4 HR ht
      obtain ⟨D, hD⟩ : ∃ D : ByteArray, D = ⟨(osB os).toArray⟩ := ⟨_, rfl⟩
      simp only [← hD] at K3 HR
      replace K3 := fun u hu => K3 u hu H2
      clear h2 H1 hT hD H2
      unfold optC at *
      simp only at *
      go_enter Try.func9, Try.ntmps9
      go_wp2_with (first
        | (go_at_call 21; go_must (refine (K1 _).mono ?_); rintro e w1 ⟨rfl, b1⟩; replace KA := KA.below b1; replace KB := KB.below b1; replace hb := next hb b1; have d5 : w1.cell? ⟨w.heap.size, 5, none⟩ = some (.slice x n c) := KA.cell 5; clear b1)
        | (go_at_call 22; go_must (refine (K2 _ hb).mono ?_); rintro e w2 ⟨rfl, b1⟩; replace KA := KA.below b1; replace KB := KB.below b1; replace hb := next hb b1; clear b1 d5))
      obtain ⟨c0, c1, c2, c3, c4, c5⟩ := Blk.six (o := ⟨s, e, vv, bb, z, os⟩) KA
      simp only at c0 c1 c2 c3 c4 c5
      go_region_held3 (fun w' => w'.cell? ⟨w.heap.size, 0, none⟩ = some (.int .i64 s) ∧ w'.cell? ⟨w.heap.size, 1, none⟩ = some (.int .i64 e) ∧ w'.cell? ⟨w.heap.size, 2, none⟩ = some (.int .i64 vv) ∧ w'.cell? ⟨w.heap.size, 3, none⟩ = some (.bool bb) ∧ w'.cell? ⟨w.heap.size, 4, none⟩ = some (.int .i64 z) ∧ w'.cell? ⟨w.heap.size, 5, none⟩ = some (.slice x n c))
        (first | (simp only [World.cell?_drew, c0, c1, c2, c3, c4, c5, and_self]; done) | (simp only [a0, a1, a2, a3, a4, a5, and_self]; done) | (simp only [cell_far hne, b0, b1, b2, b3, b4, b5, and_self]; done) | (simp only [b0, b1, b2, b3, b4, b5, and_self]; done))
        (first
          | (go_at_call 23; refine (K4 _).mono ?_; rintro e w3 ⟨rfl, bb3⟩; have KA3 := KA.past bb3 rfl; have KB3 := KB.past bb3 rfl; have hb3 := next_drew hb bb3 rfl; obtain ⟨a0, a1, a2, a3, a4, a5⟩ := Blk.six (o := ⟨s, e, vv, bb, z, os⟩) KA3; clear bb3)
          | (go_at_call 24; refine (K3 _ hb3).mono ?_; rintro e w4 ⟨rfl, bb4⟩; have KA4 := KA3.below bb4; have KB4 := KB3.below bb4; have hb4 := next hb3 bb4; obtain ⟨b0, b1, b2, b3, b4, b5⟩ := Blk.six (o := ⟨s, e, vv, bb, z, os⟩) KA4; obtain ⟨f0, f1, f2, f3, f4⟩ := KB4.five; obtain ⟨e0, e1, e2, e3, e4⟩ := KB4.open5; have hne : w.heap.size ≠ w.heap.size + 1 := Nat.ne_of_lt (Nat.lt_succ_self _); clear bb4))
      have wT : IntKind.i64.wrap T = T := by rw [IntKind.wrap_i64]; omega
      simp only [wT]
      have q := set5_blk (r := ⟨rootB, 41, s, T, D⟩) KB4
      have qb := set5_below hb4 (Nat.le_succ _) hb4.size ⟨rootB, 41, s, T, D⟩
      change Exit.then _ _ _ _ (set5 w4 (w.heap.size + 1) ⟨rootB, 41, s, T, D⟩)
      revert q qb
      generalize set5 w4 (w.heap.size + 1) ⟨rootB, 41, s, T, D⟩ = W
      intro q qb
      obtain ⟨q0, q1, q2, q3, q4⟩ := q.five
      go_wp2
      refine bodyPost_ret (v := .tuple #[.agg (rrC ⟨rootB, 41, s, T, D⟩), .int .i64 0]) (by simp [results, Try.results9, go_sem, q0, q1, q2, q3, q4, rrC]) rfl ⟨by rw [HR.out], qb⟩

end Go.Proofs.Ytehldafdjldpbaa
