/- What the document's Answer gives: the plain part, what is refused, and answers without an OPT. -/
import Derived.Test.YtcapankhobnfeaaXPeC
import Derived.Test.YtcapankhobnfeaaXP11
namespace Go.Proofs.Ytcapankhobnfeaa
open Go.RowKit
open Pl

/-- A message with its padding, as the program and as the document have it. -/
theorem pad_fit {m : Ms} {k : Nat} (h : pE m = 0) (ha : m.ar.length < 64) (hk : k = (roomI ((pT m).size + 11 : Int) 468).toNat) (most : Int) :
    fitB (qT 468 m) (qE 468 m) most = fitB (pT (withO m (pdO k))) (pE (withO m (pdO k))) most ∧ (fitB (qT 468 m) (qE 468 m) most = true → qT 468 m = pT (withO m (pdO k))) := by
  obtain ⟨g1, g2⟩ := pad_sum (b := 468) h ha (by decide) hk
  by_cases hl : (pT m).size + 15 + k ≤ 4096
  · obtain ⟨a1, a2, _, a4⟩ := g1 hl
    rw [a1, a2, a4]
    exact ⟨rfl, fun _ => rfl⟩
  · obtain ⟨a1, _, a3⟩ := g2 hl
    rw [a1, a3]
    unfold fitB
    simp
theorem cut_zero {m : Ms} (h : pE m = 0) : pE (cutM m) = 0 := by
  obtain ⟨hm, ⟨st, hp, _, _⟩, _⟩ := p_yes h
  obtain ⟨st', hp', _⟩ := cut_put hm hp
  exact (p_of (cut_may hm) hp').1
theorem ref_cases (m : Ms) (edns : Bool) : (pE m = 700 ∧ refE m edns = 1000) ∨ (pE m = 701 ∧ refE m edns = 1001) ∨ (pE m = 0 ∧ edns = true ∧ m.ar.length = 64 ∧ refE m edns = 1000) ∨ (pE m = 0 ∧ edns = true ∧ m.ar.length < 64 ∧ refE m edns = 0) ∨ (pE m = 0 ∧ edns = false ∧ m.ar.length ≤ 64 ∧ refE m edns = 0) := by
  by_cases h0 : pE m = 0
  · have hn := (may_few (p_yes h0).1).2.2.2
    unfold refE
    rw [h0]
    cases edns with
    | false => exact .inr (.inr (.inr (.inr ⟨rfl, rfl, hn, by simp⟩)))
    | true =>
      by_cases h64 : m.ar.length = 64
      · exact .inr (.inr (.inl ⟨rfl, rfl, h64, by simp [h64]⟩))
      · exact .inr (.inr (.inr (.inl ⟨rfl, rfl, by omega, by simp; omega⟩)))
  · rcases (p_no h0).2 with ⟨a, _⟩ | ⟨a, _⟩
    · exact .inl ⟨a, by unfold refE; rw [a]; simp⟩
    · exact .inr (.inl ⟨a, by unfold refE; rw [a]; simp⟩)

set_option maxRecDepth 20000 in
set_option maxHeartbeats 4000000 in
theorem refAns_form (m : Ms) (edns : Bool) (most : Int) (v0 v1 v2 v3 : Value) (w : World) (h0 : QRow w v0 m.qs) (h1 : RRow w v1 m.an) (h2 : RRow w v2 m.ns) (h3 : RRow w v3 m.ar) (hE : pE m = 700) :
    Calls Try.prog 13 #[.agg (msgC m.h v0 v1 v2 v3), .bool edns, .int .i64 most] w fun e w' => e = .returned (.tuple #[.string ⟨#[]⟩, .int .i64 1000]) ∧ Below w.heap.size w w' := by
  have hp := putV_as m
  rw [hE] at hp
  obtain ⟨T, hT⟩ : ∃ T, T = pT m := ⟨_, rfl⟩
  rw [← hT] at hp
  obtain ⟨x0, c0, rfl⟩ := row_slice h0.1
  obtain ⟨x1, c1, rfl⟩ := row_slice h1.1
  obtain ⟨x2, c2, rfl⟩ := row_slice h2.1
  obtain ⟨x3, c3, rfl⟩ := row_slice h3.1
  obtain ⟨hd, qs, an, ns, ar⟩ := m
  obtain ⟨id, qr, op, aa, tc, rd, ra, z, rc⟩ := hd
  have K : ∀ u, Hid (Below w.heap.size w u) → _ := fun u hu => rput_h id qr op aa tc rd ra z rc qs an ns ar T 700 _ _ _ _ u hp (h0.below hu.out) (h1.below hu.out) (h2.below hu.out) (h3.below hu.out)
  obtain ⟨n0, hn0⟩ : ∃ n, n = qs.length := ⟨_, rfl⟩
  obtain ⟨n1, hn1⟩ : ∃ n, n = an.length := ⟨_, rfl⟩
  obtain ⟨n2, hn2⟩ : ∃ n, n = ns.length := ⟨_, rfl⟩
  obtain ⟨n3, hn3⟩ : ∃ n, n = ar.length := ⟨_, rfl⟩
  simp only [← hn0, ← hn1, ← hn2, ← hn3] at K ⊢
  have KB : Blk (w.alloc (.cells #[.int .i64 id, .bool qr, .int .i64 op, .bool aa, .bool tc, .bool rd, .bool ra, .int .i64 z, .int .i64 rc, .slice x0 n0 c0, .slice x1 n1 c1, .slice x2 n2 c2, .slice x3 n3 c3] 29)) w.heap.size #[.int .i64 id, .bool qr, .int .i64 op, .bool aa, .bool tc, .bool rd, .bool ra, .int .i64 z, .int .i64 rc, .slice x0 n0 c0, .slice x1 n1 c1, .slice x2 n2 c2, .slice x3 n3 c3] 29 := Blk.new w _ _
  have hb := lay (Below.refl w.heap.size w) (.cells #[.int .i64 id, .bool qr, .int .i64 op, .bool aa, .bool tc, .bool rd, .bool ra, .int .i64 z, .int .i64 rc, .slice x0 n0 c0, .slice x1 n1 c1, .slice x2 n2 c2, .slice x3 n3 c3] 29)
  clear h0 h1 h2 h3 hp hT hE hn0 hn1 hn2 hn3 
  unfold msgC
  simp only
  go_enter Try.func13, Try.ntmps13
  go_wp2_with (go_at_call 29; go_must (refine (K _ hb).mono ?_); rintro e w1 ⟨rfl, b1⟩; replace KB := KB.below b1; replace hb := next hb b1; have f12 : w1.cell? ⟨w.heap.size, 12, none⟩ = some (.slice x3 n3 c3) := KB.cell 12; clear b1)
  go_ret2
  exact ⟨rfl, hb⟩

set_option maxRecDepth 20000 in
set_option maxHeartbeats 4000000 in
theorem refAns_long (m : Ms) (edns : Bool) (most : Int) (v0 v1 v2 v3 : Value) (w : World) (h0 : QRow w v0 m.qs) (h1 : RRow w v1 m.an) (h2 : RRow w v2 m.ns) (h3 : RRow w v3 m.ar) (hE : pE m = 701) :
    Calls Try.prog 13 #[.agg (msgC m.h v0 v1 v2 v3), .bool edns, .int .i64 most] w fun e w' => e = .returned (.tuple #[.string ⟨#[]⟩, .int .i64 1001]) ∧ Below w.heap.size w w' := by
  have hp := putV_as m
  rw [hE] at hp
  obtain ⟨T, hT⟩ : ∃ T, T = pT m := ⟨_, rfl⟩
  rw [← hT] at hp
  obtain ⟨x0, c0, rfl⟩ := row_slice h0.1
  obtain ⟨x1, c1, rfl⟩ := row_slice h1.1
  obtain ⟨x2, c2, rfl⟩ := row_slice h2.1
  obtain ⟨x3, c3, rfl⟩ := row_slice h3.1
  obtain ⟨hd, qs, an, ns, ar⟩ := m
  obtain ⟨id, qr, op, aa, tc, rd, ra, z, rc⟩ := hd
  have K : ∀ u, Hid (Below w.heap.size w u) → _ := fun u hu => rput_h id qr op aa tc rd ra z rc qs an ns ar T 701 _ _ _ _ u hp (h0.below hu.out) (h1.below hu.out) (h2.below hu.out) (h3.below hu.out)
  obtain ⟨n0, hn0⟩ : ∃ n, n = qs.length := ⟨_, rfl⟩
  obtain ⟨n1, hn1⟩ : ∃ n, n = an.length := ⟨_, rfl⟩
  obtain ⟨n2, hn2⟩ : ∃ n, n = ns.length := ⟨_, rfl⟩
  obtain ⟨n3, hn3⟩ : ∃ n, n = ar.length := ⟨_, rfl⟩
  simp only [← hn0, ← hn1, ← hn2, ← hn3] at K ⊢
  have KB : Blk (w.alloc (.cells #[.int .i64 id, .bool qr, .int .i64 op, .bool aa, .bool tc, .bool rd, .bool ra, .int .i64 z, .int .i64 rc, .slice x0 n0 c0, .slice x1 n1 c1, .slice x2 n2 c2, .slice x3 n3 c3] 29)) w.heap.size #[.int .i64 id, .bool qr, .int .i64 op, .bool aa, .bool tc, .bool rd, .bool ra, .int .i64 z, .int .i64 rc, .slice x0 n0 c0, .slice x1 n1 c1, .slice x2 n2 c2, .slice x3 n3 c3] 29 := Blk.new w _ _
  have hb := lay (Below.refl w.heap.size w) (.cells #[.int .i64 id, .bool qr, .int .i64 op, .bool aa, .bool tc, .bool rd, .bool ra, .int .i64 z, .int .i64 rc, .slice x0 n0 c0, .slice x1 n1 c1, .slice x2 n2 c2, .slice x3 n3 c3] 29)
  clear h0 h1 h2 h3 hp hT hE hn0 hn1 hn2 hn3 
  unfold msgC
  simp only
  go_enter Try.func13, Try.ntmps13
  go_wp2_with (go_at_call 29; go_must (refine (K _ hb).mono ?_); rintro e w1 ⟨rfl, b1⟩; replace KB := KB.below b1; replace hb := next hb b1; have f12 : w1.cell? ⟨w.heap.size, 12, none⟩ = some (.slice x3 n3 c3) := KB.cell 12; clear b1)
  go_ret2
  exact ⟨rfl, hb⟩

set_option maxRecDepth 20000 in
set_option maxHeartbeats 4000000 in
theorem refAns_many (m : Ms) (edns : Bool) (most : Int) (v0 v1 v2 v3 : Value) (w : World) (h0 : QRow w v0 m.qs) (h1 : RRow w v1 m.an) (h2 : RRow w v2 m.ns) (h3 : RRow w v3 m.ar) (hE : pE m = 0) (he : edns = true) (h64 : m.ar.length = 64) :
    Calls Try.prog 13 #[.agg (msgC m.h v0 v1 v2 v3), .bool edns, .int .i64 most] w fun e w' => e = .returned (.tuple #[.string ⟨#[]⟩, .int .i64 1000]) ∧ Below w.heap.size w w' := by
  have hp := putV_as m
  rw [hE] at hp
  obtain ⟨T, hT⟩ : ∃ T, T = pT m := ⟨_, rfl⟩
  rw [← hT] at hp
  obtain ⟨x0, c0, rfl⟩ := row_slice h0.1
  obtain ⟨x1, c1, rfl⟩ := row_slice h1.1
  obtain ⟨x2, c2, rfl⟩ := row_slice h2.1
  obtain ⟨x3, c3, rfl⟩ := row_slice h3.1
  obtain ⟨hd, qs, an, ns, ar⟩ := m
  obtain ⟨id, qr, op, aa, tc, rd, ra, z, rc⟩ := hd
  have K : ∀ u, Hid (Below w.heap.size w u) → _ := fun u hu => rput_h id qr op aa tc rd ra z rc qs an ns ar T 0 _ _ _ _ u hp (h0.below hu.out) (h1.below hu.out) (h2.below hu.out) (h3.below hu.out)
  obtain ⟨n0, hn0⟩ : ∃ n, n = qs.length := ⟨_, rfl⟩
  obtain ⟨n1, hn1⟩ : ∃ n, n = an.length := ⟨_, rfl⟩
  obtain ⟨n2, hn2⟩ : ∃ n, n = ns.length := ⟨_, rfl⟩
  obtain ⟨n3, hn3⟩ : ∃ n, n = ar.length := ⟨_, rfl⟩
  subst he
  simp only at h64
  have h64' : n3 = 64 := by omega
  simp only [← hn0, ← hn1, ← hn2, ← hn3, h64'] at K ⊢
  have KB : Blk (w.alloc (.cells #[.int .i64 id, .bool qr, .int .i64 op, .bool aa, .bool tc, .bool rd, .bool ra, .int .i64 z, .int .i64 rc, .slice x0 n0 c0, .slice x1 n1 c1, .slice x2 n2 c2, .slice x3 64 c3] 29)) w.heap.size #[.int .i64 id, .bool qr, .int .i64 op, .bool aa, .bool tc, .bool rd, .bool ra, .int .i64 z, .int .i64 rc, .slice x0 n0 c0, .slice x1 n1 c1, .slice x2 n2 c2, .slice x3 64 c3] 29 := Blk.new w _ _
  have hb := lay (Below.refl w.heap.size w) (.cells #[.int .i64 id, .bool qr, .int .i64 op, .bool aa, .bool tc, .bool rd, .bool ra, .int .i64 z, .int .i64 rc, .slice x0 n0 c0, .slice x1 n1 c1, .slice x2 n2 c2, .slice x3 64 c3] 29)
  clear h0 h1 h2 h3 hp hT hE hn0 hn1 hn2 hn3 h64 h64'
  unfold msgC
  simp only
  go_enter Try.func13, Try.ntmps13
  go_wp2_with (go_at_call 29; go_must (refine (K _ hb).mono ?_); rintro e w1 ⟨rfl, b1⟩; replace KB := KB.below b1; replace hb := next hb b1; have f12 : w1.cell? ⟨w.heap.size, 12, none⟩ = some (.slice x3 64 c3) := KB.cell 12; clear b1)
  go_ret2
  exact ⟨rfl, hb⟩

set_option maxRecDepth 20000 in
set_option maxHeartbeats 4000000 in
theorem refAns_plain (m : Ms) (edns : Bool) (most : Int) (v0 v1 v2 v3 : Value) (w : World) (h0 : QRow w v0 m.qs) (h1 : RRow w v1 m.an) (h2 : RRow w v2 m.ns) (h3 : RRow w v3 m.ar) (T : ByteArray) (E : Int) (hE : pE m = 0) (he : edns = false) (hr : refE m edns = 0) (hTT : ansT m edns most = T) (hEE : ansE m edns most = E) :
    Calls Try.prog 13 #[.agg (msgC m.h v0 v1 v2 v3), .bool edns, .int .i64 most] w fun e w' => e = .returned (.tuple #[.string T, .int .i64 E]) ∧ Below w.heap.size w w' := by
  have hp := putV_as m
  have hc0 := cut_zero hE
  have hsz := p_size m
  have hsz2 := p_size (cutM m)
  rw [hE] at hp
  unfold ansT at hTT
  unfold ansE at hEE
  rw [if_pos hr] at hTT hEE
  subst he
  unfold f1T f1E f2T f2E f3T f3E at hTT hEE
  simp only [Bool.false_eq_true, if_false] at hTT hEE
  obtain ⟨T1, hT1⟩ : ∃ T1, pT m = T1 := ⟨_, rfl⟩
  obtain ⟨T2, hT2⟩ : ∃ T2, pT (cutM m) = T2 := ⟨_, rfl⟩
  rw [hT1, hT2, hE, hc0] at hTT
  rw [hT1, hT2, hE, hc0] at hEE
  rw [hT1] at hp hsz
  rw [hT2] at hsz2
  obtain ⟨b1, hb1⟩ : ∃ b1, fitB T1 0 most = b1 := ⟨_, rfl⟩
  obtain ⟨b2, hb2⟩ : ∃ b2, fitB T2 0 most = b2 := ⟨_, rfl⟩
  rw [hb1, hb2] at hTT
  rw [hb1, hb2] at hEE
  have K1 : ∀ u, Hid (Below w.heap.size w u) → _ := fun u hu => refFits_any m most v0 v1 v2 v3 T1 0 b1 u (h0.below hu.out) (h1.below hu.out) (h2.below hu.out) (h3.below hu.out) hT1 hE hb1
  have K2 : ∀ u, Hid (Below w.heap.size w u) → _ := fun u hu => refFits_any (cutM m) most v0 (.slice none 0 0) (.slice none 0 0) (.slice none 0 0) T2 0 b2 u (h0.below hu.out) (RRow.nil _) (RRow.nil _) (RRow.nil _) hT2 hc0 hb2
  obtain ⟨x0, c0, rfl⟩ := row_slice h0.1
  obtain ⟨x1, c1, rfl⟩ := row_slice h1.1
  obtain ⟨x2, c2, rfl⟩ := row_slice h2.1
  obtain ⟨x3, c3, rfl⟩ := row_slice h3.1
  obtain ⟨hd, qs, an, ns, ar⟩ := m
  obtain ⟨id, qr, op, aa, tc, rd, ra, z, rc⟩ := hd
  have K : ∀ u, Hid (Below w.heap.size w u) → _ := fun u hu => rput_h id qr op aa tc rd ra z rc qs an ns ar T1 0 _ _ _ _ u hp (h0.below hu.out) (h1.below hu.out) (h2.below hu.out) (h3.below hu.out)
  obtain ⟨n0, hn0⟩ : ∃ n, n = qs.length := ⟨_, rfl⟩
  obtain ⟨n1, hn1⟩ : ∃ n, n = an.length := ⟨_, rfl⟩
  obtain ⟨n2, hn2⟩ : ∃ n, n = ns.length := ⟨_, rfl⟩
  obtain ⟨n3, hn3⟩ : ∃ n, n = ar.length := ⟨_, rfl⟩
  simp only [← hn0, ← hn1, ← hn2, ← hn3] at K K1 K2 ⊢
  have KB : Blk (w.alloc (.cells #[.int .i64 id, .bool qr, .int .i64 op, .bool aa, .bool tc, .bool rd, .bool ra, .int .i64 z, .int .i64 rc, .slice x0 n0 c0, .slice x1 n1 c1, .slice x2 n2 c2, .slice x3 n3 c3] 29)) w.heap.size #[.int .i64 id, .bool qr, .int .i64 op, .bool aa, .bool tc, .bool rd, .bool ra, .int .i64 z, .int .i64 rc, .slice x0 n0 c0, .slice x1 n1 c1, .slice x2 n2 c2, .slice x3 n3 c3] 29 := Blk.new w _ _
  have hb := lay (Below.refl w.heap.size w) (.cells #[.int .i64 id, .bool qr, .int .i64 op, .bool aa, .bool tc, .bool rd, .bool ra, .int .i64 z, .int .i64 rc, .slice x0 n0 c0, .slice x1 n1 c1, .slice x2 n2 c2, .slice x3 n3 c3] 29)
  clear h0 h1 h2 h3 hp hT1 hT2 hE hc0 hr hb1 hb2 hn0 hn1 hn2 hn3
  unfold cutM at K2
  unfold msgC at K1 K2 ⊢
  simp only at K1 K2 ⊢
  have t1 : True := trivial
  cases b1 with
  | true =>
    simp only [if_true] at hTT hEE
    subst hTT hEE
    go_enter Try.func13, Try.ntmps13
    go_wp2_with (first
      | (go_at_call 29; go_must (refine (K _ hb).mono ?_); rintro e w1 ⟨rfl, b1⟩; replace KB := KB.below b1; replace hb := next hb b1; obtain ⟨d0, d1, d2, d3, d4, d5, d6, d7, d8, d9, d10, d11, d12⟩ := blk13 (h := ⟨id, qr, op, aa, tc, rd, ra, z, rc⟩) (KB); simp only at d0 d1 d2 d3 d4 d5 d6 d7 d8; have KB1 := KB.alloc (.cells #[.int .i64 id, .bool qr, .int .i64 op, .bool aa, .bool tc, .bool rd, .bool ra, .int .i64 z, .int .i64 rc, .slice x0 n0 c0, .slice x1 n1 c1, .slice x2 n2 c2, .slice x3 n3 c3] 29); have HB1 : Hid (Below w.heap.size w (w1.alloc (.cells #[.int .i64 id, .bool qr, .int .i64 op, .bool aa, .bool tc, .bool rd, .bool ra, .int .i64 z, .int .i64 rc, .slice x0 n0 c0, .slice x1 n1 c1, .slice x2 n2 c2, .slice x3 n3 c3] 29))) := lay hb _; clear b1)
      | (go_at_call 36; have _t := t1; go_must (refine (K1 _ HB1).mono ?_); rintro e w2 ⟨rfl, b2⟩; have KB2 := KB1.below b2; have HB2 := next HB1.out b2; clear b2 t1 _t))
    go_ret2
    exact ⟨rfl, HB2⟩
  | false =>
    cases b2 with
    | true =>
      simp only [if_true, Bool.false_eq_true, if_false] at hTT hEE
      subst hTT hEE
      go_enter Try.func13, Try.ntmps13
      go_wp2_with (first
        | (go_at_call 29; go_must (refine (K _ hb).mono ?_); rintro e w1 ⟨rfl, b1⟩; replace KB := KB.below b1; replace hb := next hb b1; obtain ⟨d0, d1, d2, d3, d4, d5, d6, d7, d8, d9, d10, d11, d12⟩ := blk13 (h := ⟨id, qr, op, aa, tc, rd, ra, z, rc⟩) (KB); simp only at d0 d1 d2 d3 d4 d5 d6 d7 d8; have KB1 := KB.alloc (.cells #[.int .i64 id, .bool qr, .int .i64 op, .bool aa, .bool tc, .bool rd, .bool ra, .int .i64 z, .int .i64 rc, .slice x0 n0 c0, .slice x1 n1 c1, .slice x2 n2 c2, .slice x3 n3 c3] 29); have HB1 : Hid (Below w.heap.size w (w1.alloc (.cells #[.int .i64 id, .bool qr, .int .i64 op, .bool aa, .bool tc, .bool rd, .bool ra, .int .i64 z, .int .i64 rc, .slice x0 n0 c0, .slice x1 n1 c1, .slice x2 n2 c2, .slice x3 n3 c3] 29))) := lay hb _; clear b1)
        | (go_at_call 36; have _t := t1; go_must (refine (K1 _ HB1).mono ?_); rintro e w2 ⟨rfl, b2⟩; have KB2 := KB1.below b2; have HB2 : Hid (Below w.heap.size w (w2.alloc (.cells #[.int .i64 id, .bool qr, .int .i64 op, .bool aa, .bool true, .bool rd, .bool ra, .int .i64 z, .int .i64 rc, .slice x0 n0 c0, .slice none 0 0, .slice none 0 0, .slice none 0 0] 29))) := lay (next HB1.out b2) _; clear d0 d1 d2 d3 d4 d5 d6 d7 d8 d9 d10 d11 d12; obtain ⟨d0, d1, d2, d3, d4, d5, d6, d7, d8, d9, d10, d11, d12⟩ := blk13 (h := ⟨id, qr, op, aa, tc, rd, ra, z, rc⟩) (KB2); simp only at d0 d1 d2 d3 d4 d5 d6 d7 d8; clear b2 t1 _t)
        | (go_at_call 36; go_must (refine (K2 _ HB2).mono ?_); rintro e w3 ⟨rfl, b3⟩; have HB3 := next HB2.out b3; clear b3))
      go_ret2
      exact ⟨rfl, HB3⟩
    | false =>
      simp only [Bool.false_eq_true, if_false] at hTT hEE
      subst hTT hEE
      go_enter Try.func13, Try.ntmps13
      go_wp2_with (first
        | (go_at_call 29; go_must (refine (K _ hb).mono ?_); rintro e w1 ⟨rfl, b1⟩; replace KB := KB.below b1; replace hb := next hb b1; obtain ⟨d0, d1, d2, d3, d4, d5, d6, d7, d8, d9, d10, d11, d12⟩ := blk13 (h := ⟨id, qr, op, aa, tc, rd, ra, z, rc⟩) (KB); simp only at d0 d1 d2 d3 d4 d5 d6 d7 d8; have KB1 := KB.alloc (.cells #[.int .i64 id, .bool qr, .int .i64 op, .bool aa, .bool tc, .bool rd, .bool ra, .int .i64 z, .int .i64 rc, .slice x0 n0 c0, .slice x1 n1 c1, .slice x2 n2 c2, .slice x3 n3 c3] 29); have HB1 : Hid (Below w.heap.size w (w1.alloc (.cells #[.int .i64 id, .bool qr, .int .i64 op, .bool aa, .bool tc, .bool rd, .bool ra, .int .i64 z, .int .i64 rc, .slice x0 n0 c0, .slice x1 n1 c1, .slice x2 n2 c2, .slice x3 n3 c3] 29))) := lay hb _; clear b1)
        | (go_at_call 36; have _t := t1; go_must (refine (K1 _ HB1).mono ?_); rintro e w2 ⟨rfl, b2⟩; have KB2 := KB1.below b2; have HB2 : Hid (Below w.heap.size w (w2.alloc (.cells #[.int .i64 id, .bool qr, .int .i64 op, .bool aa, .bool true, .bool rd, .bool ra, .int .i64 z, .int .i64 rc, .slice x0 n0 c0, .slice none 0 0, .slice none 0 0, .slice none 0 0] 29))) := lay (next HB1.out b2) _; clear d0 d1 d2 d3 d4 d5 d6 d7 d8 d9 d10 d11 d12; obtain ⟨d0, d1, d2, d3, d4, d5, d6, d7, d8, d9, d10, d11, d12⟩ := blk13 (h := ⟨id, qr, op, aa, tc, rd, ra, z, rc⟩) (KB2); simp only at d0 d1 d2 d3 d4 d5 d6 d7 d8; clear b2 t1 _t)
        | (go_at_call 36; go_must (refine (K2 _ HB2).mono ?_); rintro e w3 ⟨rfl, b3⟩; have HB3 := next HB2.out b3; clear b3))
      go_ret2
      exact ⟨rfl, HB3⟩

end Go.Proofs.Ytcapankhobnfeaa
