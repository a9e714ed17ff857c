/- What the document's Answer gives: answers with an OPT; and all of it. -/
import Derived.Test.YtcapankhobnfeaaXPeD
namespace Go.Proofs.Ytcapankhobnfeaa
open Go.RowKit
open Pl

set_option maxRecDepth 20000 in
set_option maxHeartbeats 4000000 in
theorem refAns_opt (m : Ms) (edns : Bool) (most : Int) (v0 v1 v2 v3 : Value) (w : World) (h0 : QRow w v0 m.qs) (h1 : RRow w v1 m.an) (h2 : RRow w v2 m.ns) (h3 : RRow w v3 m.ar) (T : ByteArray) (E : Int) (hE : pE m = 0) (he : edns = true) (h64 : m.ar.length < 64) (hr : refE m edns = 0) (hTT : ansT m edns most = T) (hEE : ansE m edns most = E) :
    Calls Try.prog 13 #[.agg (msgC m.h v0 v1 v2 v3), .bool edns, .int .i64 most] w fun e w' => e = .returned (.tuple #[.string T, .int .i64 E]) ∧ Below w.heap.size w w' := by
  have hp := putV_as m
  have hc0 := cut_zero hE
  have hpc := putV_as (cutM m)
  have hsz := p_size m
  have hsz2 := p_size (cutM m)
  rw [hE] at hp
  rw [hc0] at hpc
  unfold ansT at hTT
  unfold ansE at hEE
  rw [if_pos hr] at hTT hEE
  subst he
  unfold f1T f1E f2T f2E f3T f3E at hTT hEE
  simp only [if_true] at hTT hEE
  obtain ⟨T0, hT0⟩ : ∃ T0, pT m = T0 := ⟨_, rfl⟩
  obtain ⟨Tc, hTc⟩ : ∃ Tc, pT (cutM m) = Tc := ⟨_, rfl⟩
  obtain ⟨k1, hk1⟩ : ∃ k, k = (roomI ((pT m).size + 11 : Int) 468).toNat := ⟨_, rfl⟩
  obtain ⟨k2, hk2⟩ : ∃ k, k = (roomI ((pT (cutM m)).size + 11 : Int) 468).toNat := ⟨_, rfl⟩
  obtain ⟨e1, q1⟩ := pad_fit hE h64 hk1 most
  obtain ⟨e2, q2⟩ := pad_fit hc0 (by simp [cutM]) hk2 most
  have r1 := room_lt (s := ((pT m).size + 11 : Int)) (b := 468) (by decide)
  have r2 := room_lt (s := ((pT (cutM m)).size + 11 : Int)) (b := 468) (by decide)
  have hk1l : k1 ≤ 468 := by omega
  have hk2l : k2 ≤ 468 := by omega
  obtain ⟨T1, hT1⟩ : ∃ T1, pT (withO m (pdO k1)) = T1 := ⟨_, rfl⟩
  obtain ⟨E1, hE1⟩ : ∃ E1, pE (withO m (pdO k1)) = E1 := ⟨_, rfl⟩
  obtain ⟨T2, hT2⟩ : ∃ T2, pT (withO (cutM m) (pdO k2)) = T2 := ⟨_, rfl⟩
  obtain ⟨E2, hE2⟩ : ∃ E2, pE (withO (cutM m) (pdO k2)) = E2 := ⟨_, rfl⟩
  obtain ⟨T3, hT3⟩ : ∃ T3, pT (withO (cutM m) []) = T3 := ⟨_, rfl⟩
  obtain ⟨E3, hE3⟩ : ∃ E3, pE (withO (cutM m) []) = E3 := ⟨_, rfl⟩
  rw [hT1, hE1] at e1
  rw [hT1] at q1
  rw [hT2, hE2] at e2
  rw [hT2] at q2
  rw [hT3, hE3, e1, e2] at hTT
  rw [hT3, hE3, e1, e2] at hEE
  rw [e1] at q1
  rw [e2] at q2
  obtain ⟨b1, hb1⟩ : ∃ b1, fitB T1 E1 most = b1 := ⟨_, rfl⟩
  obtain ⟨b2, hb2⟩ : ∃ b2, fitB T2 E2 most = b2 := ⟨_, rfl⟩
  obtain ⟨b3, hb3⟩ : ∃ b3, fitB T3 E3 most = b3 := ⟨_, rfl⟩
  rw [hb1, hb2, hb3] at hTT
  rw [hb1, hb2, hb3] at hEE
  rw [hb1] at q1
  rw [hb2] at q2
  rw [hT0] at hp hsz hk1
  rw [hTc] at hpc hsz2 hk2
  have KP1 := fun u => refPadded_any T0.size k1 468 u (by omega) (by omega) (by omega) hk1
  have KP2 := fun u => refPadded_any Tc.size k2 468 u (by omega) (by omega) (by omega) hk2
  have KO := fun u => refPutO_any (ot []) (.slice none 0 0) u (ORow.nil u)
  rw [putOV_yes may_ot0] at KO
  have sz1 : (⟨(osB (pdO k1)).toArray⟩ : ByteArray).size ≤ maxLen := small100 (by rw [bytes_size, osB_pd]; omega)
  have sz2 : (⟨(osB (pdO k2)).toArray⟩ : ByteArray).size ≤ maxLen := small100 (by rw [bytes_size, osB_pd]; omega)
  have KF1 : ∀ (u : World) (v : Value), Hid (Below w.heap.size w u) → Hid (RRow u v (m.ar ++ [⟨rootB, 41, 1232, 0, ⟨(osB (pdO k1)).toArray⟩⟩])) → _ := fun u v hu hv => refFits_any (withO m (pdO k1)) most v0 v1 v2 v T1 E1 b1 u (h0.below hu.out) (h1.below hu.out) (h2.below hu.out) (by have := hv.out; unfold withO; rw [ot_pd (by omega)]; exact this) hT1 hE1 hb1
  have KF2 : ∀ (u : World) (v : Value), Hid (Below w.heap.size w u) → Hid (RRow u v ([] ++ [⟨rootB, 41, 1232, 0, ⟨(osB (pdO k2)).toArray⟩⟩])) → _ := fun u v hu hv => refFits_any (withO (cutM m) (pdO k2)) most v0 (.slice none 0 0) (.slice none 0 0) v T2 E2 b2 u (h0.below hu.out) (RRow.nil _) (RRow.nil _) (by have := hv.out; unfold withO; rw [ot_pd (by omega)]; exact this) hT2 hE2 hb2
  have KF3 : ∀ (u : World) (v : Value), Hid (Below w.heap.size w u) → Hid (RRow u v ([] ++ [⟨rootB, 41, 1232, 0, ⟨#[]⟩⟩])) → _ := fun u v hu hv => refFits_any (withO (cutM m) []) most v0 (.slice none 0 0) (.slice none 0 0) v T3 E3 b3 u (h0.below hu.out) (RRow.nil _) (RRow.nil _) hv.out hT3 hE3 hb3
  obtain ⟨x0, c0, rfl⟩ := row_slice h0.1
  obtain ⟨x1, c1, rfl⟩ := row_slice h1.1
  obtain ⟨x2, c2, rfl⟩ := row_slice h2.1
  obtain ⟨x3, c3, rfl⟩ := row_slice h3.1
  obtain ⟨hd, qs, an, ns, ar⟩ := m
  obtain ⟨id, qr, op, aa, tc, rd, ra, z, rc⟩ := hd
  have K : ∀ u, Hid (Below w.heap.size w u) → _ := fun u hu => rput_h id qr op aa tc rd ra z rc qs an ns ar T0 0 _ _ _ _ u hp (h0.below hu.out) (h1.below hu.out) (h2.below hu.out) (h3.below hu.out)
  have KC : ∀ u, Hid (Below w.heap.size w u) → _ := fun u hu => rput_h id qr op aa true rd ra z rc qs [] [] [] Tc 0 _ _ _ _ u hpc (h0.below hu.out) (RRow.nil _) (RRow.nil _) (RRow.nil _)
  have KW1 : ∀ u, Hid (Below w.heap.size w u) → _ := fun u hu => refWith_any id qr op aa tc rd ra z rc ar rootB 41 1232 0 ⟨(osB (pdO k1)).toArray⟩ x0 x1 x2 qs.length an.length ns.length c0 c1 c2 _ u (h3.below hu.out) (Nat.le_of_lt h64) ⟨small100 (by decide), sz1⟩
  have KW2 := fun u => refWith_any id qr op aa true rd ra z rc [] rootB 41 1232 0 ⟨(osB (pdO k2)).toArray⟩ x0 none none qs.length 0 0 c0 0 0 _ u (RRow.nil u) (by simp) ⟨small100 (by decide), sz2⟩
  have KW3 := fun u => refWith_any id qr op aa true rd ra z rc [] rootB 41 1232 0 ⟨#[]⟩ x0 none none qs.length 0 0 c0 0 0 _ u (RRow.nil u) (by simp) ⟨small100 (by decide), small100 (by decide)⟩
  obtain ⟨n0, hn0⟩ : ∃ n, n = qs.length := ⟨_, rfl⟩
  obtain ⟨n1, hn1⟩ : ∃ n, n = an.length := ⟨_, rfl⟩
  obtain ⟨n2, hn2⟩ : ∃ n, n = ns.length := ⟨_, rfl⟩
  obtain ⟨n3, hn3⟩ : ∃ n, n = ar.length := ⟨_, rfl⟩
  simp only [← hn0, ← hn1, ← hn2, ← hn3] at K KC KW1 KW2 KW3 KF1 KF2 KF3 ⊢
  obtain ⟨D1, hD1⟩ : ∃ D : ByteArray, D = ⟨(osB (pdO k1)).toArray⟩ := ⟨_, rfl⟩
  obtain ⟨D2, hD2⟩ : ∃ D : ByteArray, D = ⟨(osB (pdO k2)).toArray⟩ := ⟨_, rfl⟩
  obtain ⟨RB, hRB⟩ : ∃ RB, RB = rootB := ⟨_, rfl⟩
  simp only [← hD1, ← hRB] at KP1 KW1 KF1
  simp only [← hD2, ← hRB] at KP2 KW2 KF2
  unfold optC ot rrC osB ttlO at KO
  simp only [List.flatMap_nil, ← hRB] at KO
  simp only [← hRB] at KW3 KF3
  have HTE : Hid ((if b1 = true then qT 468 ⟨⟨id, qr, op, aa, tc, rd, ra, z, rc⟩, qs, an, ns, ar⟩ else if b2 = true then qT 468 (cutM ⟨⟨id, qr, op, aa, tc, rd, ra, z, rc⟩, qs, an, ns, ar⟩) else if b3 = true then T3 else ⟨#[]⟩) = T ∧ (if b1 = true then (0 : Int) else if b2 = true then 0 else if b3 = true then 0 else 1001) = E) := ⟨hTT, hEE⟩
  have HQ1 : Hid (b1 = true → qT 468 ⟨⟨id, qr, op, aa, tc, rd, ra, z, rc⟩, qs, an, ns, ar⟩ = T1) := q1
  have HQ2 : Hid (b2 = true → qT 468 (cutM ⟨⟨id, qr, op, aa, tc, rd, ra, z, rc⟩, qs, an, ns, ar⟩) = T2) := q2
  have h64' : ¬ (n3 : Int) = 64 := by simp only at h64; omega
  have HN3 : Hid (n3 = ar.length) := hn3
  have KB : Blk (w.alloc (.cells #[.int .i64 id, .bool qr, .int .i64 op, .bool aa, .bool tc, .bool rd, .bool ra, .int .i64 z, .int .i64 rc, .slice x0 n0 c0, .slice x1 n1 c1, .slice x2 n2 c2, .slice x3 n3 c3] 29)) w.heap.size #[.int .i64 id, .bool qr, .int .i64 op, .bool aa, .bool tc, .bool rd, .bool ra, .int .i64 z, .int .i64 rc, .slice x0 n0 c0, .slice x1 n1 c1, .slice x2 n2 c2, .slice x3 n3 c3] 29 := Blk.new w _ _
  have hb := lay (Below.refl w.heap.size w) (.cells #[.int .i64 id, .bool qr, .int .i64 op, .bool aa, .bool tc, .bool rd, .bool ra, .int .i64 z, .int .i64 rc, .slice x0 n0 c0, .slice x1 n1 c1, .slice x2 n2 c2, .slice x3 n3 c3] 29)
  clear h0 h1 h2 h3 hp hpc hT0 hTc hT1 hT2 hT3 hE hE1 hE2 hE3 hc0 hr hb1 hb2 hb3 hn0 hn1 hn2 hn3 hTT hEE q1 q2 e1 e2 r1 r2 hk1 hk2 hk1l hk2l sz1 sz2 hD1 hD2 hRB h64
  unfold withO msgC at KF1
  unfold withO cutM msgC at KF2 KF3
  unfold msgC
  simp only at KF1 KF2 KF3 KO ⊢
  have t1 : True := trivial
  have t2 : True := trivial
  go_enter Try.func13, Try.ntmps13
  go_wp2_with (go_at_call 29; go_must (refine (K _ hb).mono ?_); rintro e w1 ⟨rfl, b⟩; replace KB := KB.below b; replace hb := next hb b; obtain ⟨d0, d1, d2, d3, d4, d5, d6, d7, d8, d9, d10, d11, d12⟩ := blk13 (h := ⟨id, qr, op, aa, tc, rd, ra, z, rc⟩) (KB); simp only at d0 d1 d2 d3 d4 d5 d6 d7 d8; clear b)

  have KB8 := KB.alloc (.cells #[.int .i64 id, .bool qr, .int .i64 op, .bool aa, .bool tc, .bool rd, .bool ra, .int .i64 z, .int .i64 rc, .slice x0 n0 c0, .slice x1 n1 c1, .slice x2 n2 c2, .slice x3 n3 c3] 29)
  have KG8 := Blk.new w1 #[.int .i64 id, .bool qr, .int .i64 op, .bool aa, .bool tc, .bool rd, .bool ra, .int .i64 z, .int .i64 rc, .slice x0 n0 c0, .slice x1 n1 c1, .slice x2 n2 c2, .slice x3 n3 c3] 29
  have hb8 := lay hb (.cells #[.int .i64 id, .bool qr, .int .i64 op, .bool aa, .bool tc, .bool rd, .bool ra, .int .i64 z, .int .i64 rc, .slice x0 n0 c0, .slice x1 n1 c1, .slice x2 n2 c2, .slice x3 n3 c3] 29)
  have hlt : w.heap.size < w1.heap.size := KB.lt
  clear KB hb d0 d1 d2 d3 d4 d5 d6 d7 d8 d9 d10 d11 d12
  revert KB8 KG8 hb8
  generalize w1.alloc (.cells #[.int .i64 id, .bool qr, .int .i64 op, .bool aa, .bool tc, .bool rd, .bool ra, .int .i64 z, .int .i64 rc, .slice x0 n0 c0, .slice x1 n1 c1, .slice x2 n2 c2, .slice x3 n3 c3] 29) = wa
  generalize w1.heap.size = g1 at hlt ⊢
  intro KB8 KG8 hb8
  refine wp_region_held_drew (S := (fun u => Blk u w.heap.size #[.int .i64 id, .bool qr, .int .i64 op, .bool aa, .bool tc, .bool rd, .bool ra, .int .i64 z, .int .i64 rc, .slice x0 n0 c0, .slice x1 n1 c1, .slice x2 n2 c2, .slice x3 n3 c3] 29)) (by kernel_rfl) (KB8.drew ⟨1, rfl⟩) (fun hHeld => ?_)
  refine wpAnyH_take (i := 0) (v := .agg #[.int .i64 id, .bool qr, .int .i64 op, .bool aa, .bool tc, .bool rd, .bool ra, .int .i64 z, .int .i64 rc, .slice x0 n0 c0, .slice x1 n1 c1, .slice x2 n2 c2, .slice x3 n3 c3]) rfl (by kernel_rfl) (by kernel_rfl) (by kernel_rfl) (fun _ _ _ h => h) (Or.inl ⟨by rfl, ?_⟩) hHeld ?_
  · intro u hu
    obtain ⟨u0, u1, u2, u3, u4, u5, u6, u7, u8, u9, u10, u11, u12⟩ := blk13 (h := ⟨id, qr, op, aa, tc, rd, ra, z, rc⟩) hu; simp only at u0 u1 u2 u3 u4 u5 u6 u7 u8
    go_simp
  simp only [Act.put, List.getElem_toArray, List.getElem_cons_zero, List.setIfInBounds_toArray, List.set_cons_zero, List.set_cons_succ]
  refine wpAnyH_take (i := 1) (v := .string T0) rfl (by kernel_rfl) (by kernel_rfl) (by kernel_rfl) (fun _ _ _ h => h) (Or.inl ⟨by rfl, ?_⟩) hHeld ?_
  · intro u hu
    go_simp
  simp only [Act.put, List.getElem_toArray, List.getElem_cons_succ, List.getElem_cons_zero, List.setIfInBounds_toArray, List.set_cons_zero, List.set_cons_succ]
  refine wpAnyH_take (i := 2) (v := .int .i64 (T0.size : Int)) rfl (by kernel_rfl) (by kernel_rfl) (by kernel_rfl) (fun _ _ _ h => h) (Or.inl ⟨by rfl, ?_⟩) hHeld ?_
  · intro u hu
    go_simp
  simp only [Act.put, List.getElem_toArray, List.getElem_cons_succ, List.getElem_cons_zero, List.setIfInBounds_toArray, List.set_cons_zero, List.set_cons_succ]
  refine wpAnyH_ready (rs := [3]) (by kernel_rfl) (by simp) ?_
  refine AllReadyH.cons rfl (fun K hK => ?_) AllReadyH.nil
  go_simp
  refine (KP1 _).mono ?_
  rintro e w2 ⟨rfl, bb⟩
  have KB9 := (KB8.drew ⟨1, rfl⟩).below bb
  have KG9 := (KG8.drew ⟨1, rfl⟩).below bb
  have hb9 := next (next hb8 (below_drew ⟨1, rfl⟩)) bb
  refine hK.out _ _ KB9 (fun hHeld => ?_)
  clear hK K bb KB8 KG8 hb8
  refine wpAnyH_ready (rs := [4]) (by kernel_rfl) (by simp) ?_
  refine AllReadyH.cons rfl (fun K hK => ?_) AllReadyH.nil
  go_simp
  refine (KW1 _ hb9).mono ?_
  rintro e w3 ⟨y, c, rfl, rr, bb, oo⟩
  have hlt2 : g1 < w2.heap.size := KG9.lt
  have KB10 := KB9.below bb
  have KG10 := KG9.below bb
  have hb10 := next hb9 bb
  refine hK.out _ _ KB10 (fun hHeld => ?_)
  clear hK K bb KB9 KG9 hb9
  refine wpAnyH_ready (rs := [5]) (by kernel_rfl) (by simp) ?_
  refine AllReadyH.cons rfl (fun K hK => ?_) AllReadyH.nil
  have tt := set13_turn w3 g1 ⟨id, qr, op, aa, tc, rd, ra, z, rc⟩ (.slice x0 n0 c0) (.slice x1 n1 c1) (.slice x2 n2 c2) (.slice y (n3 + 1) c)
  have kk : Blk (set13 w3 g1 ⟨id, qr, op, aa, tc, rd, ra, z, rc⟩ (.slice x0 n0 c0) (.slice x1 n1 c1) (.slice x2 n2 c2) (.slice y (n3 + 1) c)) g1 #[.int .i64 id, .bool qr, .int .i64 op, .bool aa, .bool tc, .bool rd, .bool ra, .int .i64 z, .int .i64 rc, .slice x0 n0 c0, .slice x1 n1 c1, .slice x2 n2 c2, .slice y (n3 + 1) c] 29 := set13_blk (h' := ⟨id, qr, op, aa, tc, rd, ra, z, rc⟩) KG10
  have KB11 := tt.blk KB10 (by omega)
  have hb11 := Turn.below hb10 tt hb10.size (fun i e => by omega)
  have RR : Hid (RRow (set13 w3 g1 ⟨id, qr, op, aa, tc, rd, ra, z, rc⟩ (.slice x0 n0 c0) (.slice x1 n1 c1) (.slice x2 n2 c2) (.slice y (n3 + 1) c)) (.slice y (n3 + 1) c) (ar ++ [⟨RB, 41, 1232, 0, D1⟩])) := ⟨by have := Row.of_own (tt.row oo (fun k hk e => by have := (oo.lt k hk).1; omega)); rw [show (ar ++ [(⟨RB, 41, 1232, 0, D1⟩ : Rc)]).length = n3 + 1 from by rw [HN3.out]; simp]; exact this, rr.2⟩
  obtain ⟨p0, p1, p2, p3, p4, p5, p6, p7, p8, p9, p10, p11, p12⟩ := blk13 (h := ⟨id, qr, op, aa, tc, rd, ra, z, rc⟩) KG10
  simp only at p0 p1 p2 p3 p4 p5 p6 p7 p8
  obtain ⟨f0, f1, f2, f3, f4, f5, f6, f7, f8, f9, f10, f11, f12⟩ := open13 KG10
  go_simp
  refine hK.out _ (set13 w3 g1 ⟨id, qr, op, aa, tc, rd, ra, z, rc⟩ (.slice x0 n0 c0) (.slice x1 n1 c1) (.slice x2 n2 c2) (.slice y (n3 + 1) c)) KB11 (fun hHeld => ?_)
  clear hK K hHeld rr oo hlt2 tt KB10 KG10 hb10 p0 p1 p2 p3 p4 p5 p6 p7 p8 p9 p10 p11 p12 f0 f1 f2 f3 f4 f5 f6 f7 f8 f9 f10 f11 f12
  refine wpAnyH_done (by kernel_rfl) ?_ _
  revert kk KB11 hb11 RR
  generalize set13 w3 g1 ⟨id, qr, op, aa, tc, rd, ra, z, rc⟩ (.slice x0 n0 c0) (.slice x1 n1 c1) (.slice x2 n2 c2) (.slice y (n3 + 1) c) = W
  intro kk KB11 hb11 RR
  obtain ⟨d0, d1, d2, d3, d4, d5, d6, d7, d8, d9, d10, d11, d12⟩ := blk13 (h := ⟨id, qr, op, aa, tc, rd, ra, z, rc⟩) kk
  simp only at d0 d1 d2 d3 d4 d5 d6 d7 d8
  cases b1 with
  | true =>
    obtain ⟨hT, hE⟩ := HTE.out
    simp only [if_true] at hT hE
    rw [HQ1.out rfl] at hT
    subst hT hE
    go_wp2_with ((go_at_call 36; go_must (refine (KF1 _ _ hb11 RR).mono ?_); rintro e w5 ⟨rfl, bb⟩; have hb12 := next hb11 bb; clear bb d0 d1 d2 d3 d4 d5 d6 d7 d8 d9 d10 d11 d12))
    go_ret2
    exact ⟨rfl, hb12⟩
  | false =>
    go_wp2_with (first
      | (go_at_call 36; have _t := t1; go_must (refine (KF1 _ _ hb11 RR).mono ?_); rintro e w5 ⟨rfl, bb⟩; have KB12 := KB11.below bb; have hb12 := lay (next hb11 bb) (.cells #[.int .i64 id, .bool qr, .int .i64 op, .bool aa, .bool true, .bool rd, .bool ra, .int .i64 z, .int .i64 rc, .slice x0 n0 c0, .slice none 0 0, .slice none 0 0, .slice none 0 0] 29); have KC12 : Blk (w5.alloc (.cells #[.int .i64 id, .bool qr, .int .i64 op, .bool aa, .bool true, .bool rd, .bool ra, .int .i64 z, .int .i64 rc, .slice x0 n0 c0, .slice none 0 0, .slice none 0 0, .slice none 0 0] 29)) w5.heap.size #[.int .i64 id, .bool qr, .int .i64 op, .bool aa, .bool true, .bool rd, .bool ra, .int .i64 z, .int .i64 rc, .slice x0 n0 c0, .slice none 0 0, .slice none 0 0, .slice none 0 0] 29 := Blk.new w5 _ _; obtain ⟨e0, e1, e2, e3, e4, e5, e6, e7, e8, e9, e10, e11, e12⟩ := blk13 (h := ⟨id, qr, op, aa, tc, rd, ra, z, rc⟩) (KB12); simp only at e0 e1 e2 e3 e4 e5 e6 e7 e8; clear bb t1 _t d0 d1 d2 d3 d4 d5 d6 d7 d8 d9 d10 d11 d12)
      | (go_at_call 29; go_must (refine (KC _ hb12).mono ?_); rintro e w6 ⟨rfl, bb⟩; have KC13 := KC12.below bb; have hb13 := next hb12 bb; clear bb KC12 hb12 e0 e1 e2 e3 e4 e5 e6 e7 e8 e9 e10 e11 e12))
    generalize w5.heap.size = g2 at KC13 ⊢
    refine wp_region_held_drew (S := (fun u => Blk u g2 #[.int .i64 id, .bool qr, .int .i64 op, .bool aa, .bool true, .bool rd, .bool ra, .int .i64 z, .int .i64 rc, .slice x0 n0 c0, .slice none 0 0, .slice none 0 0, .slice none 0 0] 29)) (by kernel_rfl) (KC13.drew ⟨1, rfl⟩) (fun hHeld => ?_)
    refine wpAnyH_take (i := 0) (v := .agg #[.int .i64 id, .bool qr, .int .i64 op, .bool aa, .bool true, .bool rd, .bool ra, .int .i64 z, .int .i64 rc, .slice x0 n0 c0, .slice none 0 0, .slice none 0 0, .slice none 0 0]) rfl (by kernel_rfl) (by kernel_rfl) (by kernel_rfl) (fun _ _ _ h => h) (Or.inl ⟨by rfl, ?_⟩) hHeld ?_
    · intro u hu
      obtain ⟨u0, u1, u2, u3, u4, u5, u6, u7, u8, u9, u10, u11, u12⟩ := blk13 (h := ⟨id, qr, op, aa, true, rd, ra, z, rc⟩) hu; simp only at u0 u1 u2 u3 u4 u5 u6 u7 u8
      go_simp
    simp only [Act.put, List.getElem_toArray, List.getElem_cons_zero, List.setIfInBounds_toArray, List.set_cons_zero, List.set_cons_succ]
    refine wpAnyH_take (i := 1) (v := .string Tc) rfl (by kernel_rfl) (by kernel_rfl) (by kernel_rfl) (fun _ _ _ h => h) (Or.inl ⟨by rfl, ?_⟩) hHeld ?_
    · intro u hu
      go_simp
    simp only [Act.put, List.getElem_toArray, List.getElem_cons_succ, List.getElem_cons_zero, List.setIfInBounds_toArray, List.set_cons_zero, List.set_cons_succ]
    refine wpAnyH_take (i := 2) (v := .int .i64 (Tc.size : Int)) rfl (by kernel_rfl) (by kernel_rfl) (by kernel_rfl) (fun _ _ _ h => h) (Or.inl ⟨by rfl, ?_⟩) hHeld ?_
    · intro u hu
      go_simp
    simp only [Act.put, List.getElem_toArray, List.getElem_cons_succ, List.getElem_cons_zero, List.setIfInBounds_toArray, List.set_cons_zero, List.set_cons_succ]
    refine wpAnyH_take (i := 5) (v := .int .i64 most) rfl (by kernel_rfl) (by kernel_rfl) (by kernel_rfl) (fun _ _ _ h => h) (Or.inl ⟨by rfl, ?_⟩) hHeld ?_
    · intro u hu
      go_simp
    simp only [Act.put, List.getElem_toArray, List.getElem_cons_succ, List.getElem_cons_zero, List.setIfInBounds_toArray, List.set_cons_zero, List.set_cons_succ]
    refine wpAnyH_ready (rs := [3]) (by kernel_rfl) (by simp) ?_
    refine AllReadyH.cons rfl (fun K hK => ?_) AllReadyH.nil
    go_simp
    refine (KP2 _).mono ?_
    rintro e w7 ⟨rfl, bb⟩
    have KC14 := (KC13.drew ⟨1, rfl⟩).below bb
    have hb14 := next (next hb13 (below_drew ⟨1, rfl⟩)) bb
    refine hK.out _ _ KC14 (fun hHeld => ?_)
    clear hK K bb KC13 hb13
    refine wpAnyH_ready (rs := [4]) (by kernel_rfl) (by simp) ?_
    refine AllReadyH.cons rfl (fun K hK => ?_) AllReadyH.nil
    go_simp
    refine (KW2 _).mono ?_
    rintro e w8 ⟨y2, c2', rfl, rr2, bb, -⟩
    have KC15 := KC14.below bb
    have hb15 := next hb14 bb
    refine hK.out _ _ KC15 (fun hHeld => ?_)
    clear hK K bb KC14 hb14
    refine wpAnyH_ready (rs := [6]) (by kernel_rfl) (by simp) ?_
    refine AllReadyH.cons rfl (fun K hK => ?_) AllReadyH.nil
    go_simp
    refine (KF2 _ _ hb15 rr2).mono ?_
    rintro e w9 ⟨rfl, bb⟩
    have KC16 := KC15.below bb
    have hb16 := next hb15 bb
    refine hK.out _ _ KC16 (fun hHeld => ?_)
    clear hK K bb KC15 hb15 rr2
    refine wpAnyH_take (i := 7) (v := .tuple #[.string T2, .bool b2]) rfl (by kernel_rfl) (by kernel_rfl) (by kernel_rfl) (fun _ _ _ h => h) (Or.inl ⟨by rfl, ?_⟩) hHeld ?_
    · intro u hu
      go_simp
    simp only [Act.put, List.getElem_toArray, List.getElem_cons_succ, List.getElem_cons_zero, List.setIfInBounds_toArray, List.set_cons_zero, List.set_cons_succ]
    refine wpAnyH_take (i := 8) (v := .string T2) rfl (by kernel_rfl) (by kernel_rfl) (by kernel_rfl) (fun _ _ _ h => h) (Or.inl ⟨by rfl, ?_⟩) hHeld ?_
    · intro u hu
      go_simp
    simp only [Act.put, List.getElem_toArray, List.getElem_cons_succ, List.getElem_cons_zero, List.setIfInBounds_toArray, List.set_cons_zero, List.set_cons_succ]
    refine wpAnyH_take (i := 9) (v := .bool b2) rfl (by kernel_rfl) (by kernel_rfl) (by kernel_rfl) (fun _ _ _ h => h) (Or.inl ⟨by rfl, ?_⟩) hHeld ?_
    · intro u hu
      go_simp
    simp only [Act.put, List.getElem_toArray, List.getElem_cons_succ, List.getElem_cons_zero, List.setIfInBounds_toArray, List.set_cons_zero, List.set_cons_succ]
    refine wpAnyH_take (i := 10) (v := .string T2) rfl (by kernel_rfl) (by kernel_rfl) (by kernel_rfl) (fun _ _ _ h => h) (Or.inl ⟨by rfl, ?_⟩) hHeld ?_
    · intro u hu
      go_simp
    simp only [Act.put, List.getElem_toArray, List.getElem_cons_succ, List.getElem_cons_zero, List.setIfInBounds_toArray, List.set_cons_zero, List.set_cons_succ]
    refine wpAnyH_take (i := 11) (v := .bool b2) rfl (by kernel_rfl) (by kernel_rfl) (by kernel_rfl) (fun _ _ _ h => h) (Or.inl ⟨by rfl, ?_⟩) hHeld ?_
    · intro u hu
      go_simp
    simp only [Act.put, List.getElem_toArray, List.getElem_cons_succ, List.getElem_cons_zero, List.setIfInBounds_toArray, List.set_cons_zero, List.set_cons_succ]
    refine wpAnyH_done (by kernel_rfl) ?_ _
    clear hHeld
    cases b2 with
    | true =>
      obtain ⟨hT, hE⟩ := HTE.out
      simp only [if_true, Bool.false_eq_true, if_false] at hT hE
      rw [HQ2.out rfl] at hT
      subst hT hE
      go_wp2
      go_ret2
      exact ⟨rfl, hb16⟩
    | false =>
      cases b3 with
      | true =>
        obtain ⟨hT, hE⟩ := HTE.out
        simp only [if_true, Bool.false_eq_true, if_false] at hT hE
        subst hT hE
        go_wp2_with (first
          | (go_at_call 37; go_must (refine (KO _).mono ?_); rintro e w10 ⟨rfl, bb⟩; have KC17 := (KC16.below bb).alloc (.cells #[.string RB, .int .i64 41, .int .i64 1232, .int .i64 0, .string ⟨#[]⟩] 54); have hb17 := lay (next hb16 bb) (.cells #[.string RB, .int .i64 41, .int .i64 1232, .int .i64 0, .string ⟨#[]⟩] 54); obtain ⟨d0, d1, d2, d3, d4, d5, d6, d7, d8, d9, d10, d11, d12⟩ := blk13 (h := ⟨id, qr, op, aa, true, rd, ra, z, rc⟩) (KC17); simp only at d0 d1 d2 d3 d4 d5 d6 d7 d8; clear bb)
          | (go_at_call 35; go_must (refine (KW3 _).mono ?_); rintro e w11 ⟨y3, c3', rfl, rr3, bb, -⟩; have hb18 := next hb17 bb; have RR3 : Hid (RRow w11 (.slice y3 (0 + 1) c3') ([] ++ [⟨RB, 41, 1232, 0, ⟨#[]⟩⟩])) := rr3; clear bb rr3)
          | (go_at_call 36; go_must (refine (KF3 _ _ hb18 RR3).mono ?_); rintro e w12 ⟨rfl, bb⟩; have hb19 := next hb18 bb))
        go_ret2
        exact ⟨rfl, hb19⟩
      | false =>
        obtain ⟨hT, hE⟩ := HTE.out
        simp only [Bool.false_eq_true, if_false] at hT hE
        subst hT hE
        go_wp2_with (first
          | (go_at_call 37; go_must (refine (KO _).mono ?_); rintro e w10 ⟨rfl, bb⟩; have KC17 := (KC16.below bb).alloc (.cells #[.string RB, .int .i64 41, .int .i64 1232, .int .i64 0, .string ⟨#[]⟩] 54); have hb17 := lay (next hb16 bb) (.cells #[.string RB, .int .i64 41, .int .i64 1232, .int .i64 0, .string ⟨#[]⟩] 54); obtain ⟨d0, d1, d2, d3, d4, d5, d6, d7, d8, d9, d10, d11, d12⟩ := blk13 (h := ⟨id, qr, op, aa, true, rd, ra, z, rc⟩) (KC17); simp only at d0 d1 d2 d3 d4 d5 d6 d7 d8; clear bb)
          | (go_at_call 35; go_must (refine (KW3 _).mono ?_); rintro e w11 ⟨y3, c3', rfl, rr3, bb, -⟩; have hb18 := next hb17 bb; have RR3 : Hid (RRow w11 (.slice y3 (0 + 1) c3') ([] ++ [⟨RB, 41, 1232, 0, ⟨#[]⟩⟩])) := rr3; clear bb rr3)
          | (go_at_call 36; go_must (refine (KF3 _ _ hb18 RR3).mono ?_); rintro e w12 ⟨rfl, bb⟩; have hb19 := next hb18 bb))
        go_ret2
        exact ⟨rfl, hb19⟩

theorem refAnswer_any (m : Ms) (edns : Bool) (most : Int) (v0 v1 v2 v3 : Value) (w : World) (h0 : QRow w v0 m.qs) (h1 : RRow w v1 m.an) (h2 : RRow w v2 m.ns) (h3 : RRow w v3 m.ar) :
    Calls Try.prog 13 #[.agg (msgC m.h v0 v1 v2 v3), .bool edns, .int .i64 most] w fun e w' => e = .returned (.tuple #[.string (ansT m edns most), .int .i64 (ansE m edns most)]) ∧ Below w.heap.size w w' := by
  have N : ∀ {c : Int}, refE m edns = c → c ≠ 0 → ansT m edns most = ⟨#[]⟩ ∧ ansE m edns most = c := fun {c} h hc => by
    unfold ansT ansE
    rw [if_neg (by rw [h]; exact hc), if_neg (by rw [h]; exact hc)]
    exact ⟨rfl, h⟩
  rcases ref_cases m edns with ⟨a, b⟩ | ⟨a, b⟩ | ⟨a, b, c, d⟩ | ⟨a, b, c, d⟩ | ⟨a, b, _, d⟩
  · rw [(N b (by decide)).1, (N b (by decide)).2]
    exact refAns_form m edns most v0 v1 v2 v3 w h0 h1 h2 h3 a
  · rw [(N b (by decide)).1, (N b (by decide)).2]
    exact refAns_long m edns most v0 v1 v2 v3 w h0 h1 h2 h3 a
  · rw [(N d (by decide)).1, (N d (by decide)).2]
    exact refAns_many m edns most v0 v1 v2 v3 w h0 h1 h2 h3 a b c
  · exact refAns_opt m edns most v0 v1 v2 v3 w h0 h1 h2 h3 _ _ a b c d rfl rfl
  · exact refAns_plain m edns most v0 v1 v2 v3 w h0 h1 h2 h3 _ _ a b d rfl rfl

end Go.Proofs.Ytcapankhobnfeaa
