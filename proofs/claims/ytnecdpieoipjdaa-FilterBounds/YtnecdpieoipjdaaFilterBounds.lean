/- FilterBounds holds: for every message and every two cuts, what Filter leaves of the answers is what is beneath the cut, and under a deeper cut the same is left of it as of the whole. -/
import Derived.Test.YtnecdpieoipjdaaBaH
import Derived.ProofKit
import Derived.Deep.QuietTactic
import Derived.BigQuiet
import Derived.OpenShut
import Derived.ShutString
import Derived.SizedLaws
namespace Go.Proofs.Ytnecdpieoipjdaa.filterBounds
open Go.ChangeShapes Go.WideShapes Go.ChangeAt Go.RowKit
open Go.ChangeMaps (open_string shut_string)
open Pl

theorem r_at {w : World} {g o cap : Nat} {xs : List Rc} (h : Row w (.slice (some ⟨g, o, none⟩) xs.length cap) xs.length (rC xs)) {k : Nat} (hk : k < xs.length) :
    w.cell? ⟨g, o + k * 5, none⟩ = some (.string xs[k].n) ∧ w.cell? ⟨g, o + k * 5 + 1, none⟩ = some (.int .i64 xs[k].t) ∧ w.cell? ⟨g, o + k * 5 + 2, none⟩ = some (.int .i64 xs[k].c) ∧ w.cell? ⟨g, o + k * 5 + 3, none⟩ = some (.int .i64 xs[k].l) ∧ w.cell? ⟨g, o + k * 5 + 4, none⟩ = some (.string xs[k].d) := by
  obtain ⟨g', o', cap', hx, hc⟩ := row_at h (by omega)
  simp only [Value.slice.injEq, Option.some.injEq, Addr.mk.injEq] at hx
  obtain ⟨⟨rfl, rfl, -⟩, -, -⟩ := hx
  exact r_cells hc hk
theorem row_some {w : World} {x : Option Addr} {n c : Nat} {xs : List Value} (h : Row w (.slice x n c) n xs) (hn : 0 < n) : ∃ g o, x = some ⟨g, o, none⟩ := by
  obtain ⟨g, o, cap, hx, -⟩ := row_at h hn
  simp only [Value.slice.injEq] at hx
  exact ⟨g, o, hx.1⟩
theorem refAbove_as' (a b : ByteArray) (v : Bool) (w : World) (ha : a.size ≤ maxLen) (hb : b.size ≤ maxLen) (h : aboveB a.data.toList b.data.toList = v) :
    Calls Try.prog 15 #[.string a, .string b] w fun e w' => e = .returned (.bool v) ∧ Below w.heap.size w w' := by rw [← h]; exact refAbove_any a b w ha hb
theorem kp_two {c : List UInt8} {rs : List Rc} {i k : Nat} (hi : i < rs.length) (h : kpB c rs[i] = true) (hk : k = (kpL c (rs.take i)).length) {L : List Rc} (hL : L = kpL c rs) : ∃ hl : k < L.length, L[k] = rs[i] := by
  subst hL
  have := kpL_at hi h
  rw [← hk] at this
  obtain ⟨hl, he⟩ := List.getElem?_eq_some_iff.1 this
  exact ⟨hl, he⟩

set_option maxRecDepth 20000 in
set_option maxHeartbeats 8000000 in
theorem w_true (id : Int) (qr : Bool) (op : Int) (aa tc rd ra : Bool) (z rc : Int) (qs : List Qn) (an ns ar : List Rc) (x0 x1 x2 x3 : Option Addr) (c0 c1 c2 c3 : Nat) (c d : ByteArray) (w : World) (h0 : Row w (.slice x0 qs.length c0) qs.length (qC qs)) (h1 : Row w (.slice x1 an.length c1) an.length (rC an)) (h2 : Row w (.slice x2 ns.length c2) ns.length (rC ns)) (h3 : Row w (.slice x3 ar.length c3) ar.length (rC ar)) (hF : Fits ⟨⟨id, qr, op, aa, tc, rd, ra, z, rc⟩, qs, an, ns, ar⟩) (hc : c.size ≤ maxLen) (hd : d.size ≤ maxLen) (hn : isName c.data.toList = true) (hV : aboveB c.data.toList d.data.toList = true) :
    Calls Try.prog 4 #[.agg #[.int .i64 id, .bool qr, .int .i64 op, .bool aa, .bool tc, .bool rd, .bool ra, .int .i64 z, .int .i64 rc, .slice x0 qs.length c0, .slice x1 an.length c1, .slice x2 ns.length c2, .slice x3 ar.length c3], .string c, .string d] w fun e w' => e = .returned (.bool true) ∧ Below w.heap.size w w' := by
  have H0 : Hid (Row w (.slice x0 qs.length c0) qs.length (qC qs)) := h0
  have H1 : Hid (Row w (.slice x1 an.length c1) an.length (rC an)) := h1
  have H2 : Hid (Row w (.slice x2 ns.length c2) ns.length (rC ns)) := h2
  have H3 : Hid (Row w (.slice x3 ar.length c3) ar.length (rC ar)) := h3
  obtain ⟨an2, hA2⟩ : ∃ x, x = kpL c.data.toList an := ⟨_, rfl⟩
  obtain ⟨ns2, hN2⟩ : ∃ x, x = kpL c.data.toList ns := ⟨_, rfl⟩
  obtain ⟨ar2, hR2⟩ : ∃ x, x = kpL c.data.toList ar := ⟨_, rfl⟩
  have HM1 : Hid (⟨⟨id, qr, op, aa, tc, rd, ra, z, rc⟩, qs, an2, ns2, ar2⟩ = fM c.data.toList ⟨⟨id, qr, op, aa, tc, rd, ra, z, rc⟩, qs, an, ns, ar⟩) := by unfold Hid; rw [fM_yes hn, hA2, hN2, hR2]; rfl
  have HA2 : Hid (an2 = kpL c.data.toList an) := hA2
  obtain ⟨M, hM⟩ : ∃ M, M = fM d.data.toList ⟨⟨id, qr, op, aa, tc, rd, ra, z, rc⟩, qs, an2, ns2, ar2⟩ := ⟨_, rfl⟩
  obtain ⟨⟨jd, jq, jo, ja, jt, jr, jv, jz, jc⟩, qs3, an3, ns3, ar3⟩ := M
  have HM2 : Hid (⟨⟨jd, jq, jo, ja, jt, jr, jv, jz, jc⟩, qs3, an3, ns3, ar3⟩ = fM d.data.toList ⟨⟨id, qr, op, aa, tc, rd, ra, z, rc⟩, qs, an2, ns2, ar2⟩) := hM
  have HM3 : Hid (⟨⟨jd, jq, jo, ja, jt, jr, jv, jz, jc⟩, qs3, an3, ns3, ar3⟩ = fM d.data.toList ⟨⟨id, qr, op, aa, tc, rd, ra, z, rc⟩, qs, an, ns, ar⟩) := by
    unfold Hid
    rw [hM, hA2, hN2, hR2]
    have hnd : isName d.data.toList = true := (above_iff.1 hV).2.1
    rw [fM_yes hnd, fM_yes hnd]
    exact kpM_deep hV ⟨⟨id, qr, op, aa, tc, rd, ra, z, rc⟩, qs, an, ns, ar⟩
  obtain ⟨E, hE⟩ : ∃ E, E = fE d.data.toList := ⟨_, rfl⟩
  have HE : Hid (E = fE d.data.toList) := hE
  have HE1 : Hid ((0 : Int) = fE c.data.toList) := (fE_yes hn).symm
  have HFT : Hid (Fits ⟨⟨id, qr, op, aa, tc, rd, ra, z, rc⟩, qs, an, ns, ar⟩) := hF
  have HFA : Hid (Fits ⟨⟨id, qr, op, aa, tc, rd, ra, z, rc⟩, qs, an2, ns2, ar2⟩) := by unfold Hid; rw [HM1.out]; exact hF.fm _
  have HFB : Hid (Fits ⟨⟨jd, jq, jo, ja, jt, jr, jv, jz, jc⟩, qs3, an3, ns3, ar3⟩) := by unfold Hid; rw [hM]; exact HFA.out.fm _
  have HNM : Hid (∀ r ∈ an, r.n.size ≤ maxLen) := fun r hr => Nat.le_trans (hF.san r hr).1 (by unfold maxLen; omega)
  have hlA : an.length ≤ 9223372036854775806 := by have := hF.an; simp only at this; omega
  have hlQ : Hid (qs.length ≤ maxLen) := by unfold Hid; have := hF.q; simp only at this; unfold maxLen; omega
  have HV : Hid (aboveB c.data.toList d.data.toList = true) := hV
  have hb : Below w.heap.size w w := Below.refl _ _
  have KM0 : Hid (∀ u, Below (w.alloc (.cells #[.int .i64 id, .bool qr, .int .i64 op, .bool aa, .bool tc, .bool rd, .bool ra, .int .i64 z, .int .i64 rc, .slice x0 qs.length c0, .slice x1 an.length c1, .slice x2 ns.length c2, .slice x3 ar.length c3] 27)).heap.size (w.alloc (.cells #[.int .i64 id, .bool qr, .int .i64 op, .bool aa, .bool tc, .bool rd, .bool ra, .int .i64 z, .int .i64 rc, .slice x0 qs.length c0, .slice x1 an.length c1, .slice x2 ns.length c2, .slice x3 ar.length c3] 27)) u → Blk u w.heap.size (msgC ⟨id, qr, op, aa, tc, rd, ra, z, rc⟩ (.slice x0 qs.length c0) (.slice x1 an.length c1) (.slice x2 ns.length c2) (.slice x3 ar.length c3)) 27) := fun u hu => (Blk.new w _ _).below hu
  clear hM hE h0 h1 h2 h3 hF hn hV hA2 hN2 hR2
  have t1 : True := trivial
  have t2 : True := trivial
  go_enter Try.func4, Try.ntmps4
  go_wp2_with (first
    | (go_at_call 13; go_must (refine (awake_any _).mono ?_); rintro e w1 ⟨rfl, bb⟩; have HK : Hid (Blk w1 w.heap.size (msgC ⟨id, qr, op, aa, tc, rd, ra, z, rc⟩ (.slice x0 qs.length c0) (.slice x1 an.length c1) (.slice x2 ns.length c2) (.slice x3 ar.length c3)) 27) := KM0.out _ bb; have HB : Hid (Below w.heap.size w w1) := next (lay hb _) bb; obtain ⟨e0, e1, e2, e3, e4, e5, e6, e7, e8, e9, e10, e11, e12⟩ := blk13 (h := ⟨id, qr, op, aa, tc, rd, ra, z, rc⟩) (HK.out); simp only at e0 e1 e2 e3 e4 e5 e6 e7 e8; clear bb hb KM0)
    | (go_at_call 8; go_must (refine (filter_any c id qr op aa tc rd ra z rc qs an ns ar _ _ _ _ _ id qr op aa tc rd ra z rc qs an2 ns2 ar2 0 (H0.out.below HB.out) (H1.out.below HB.out) (H2.out.below HB.out) (H3.out.below HB.out) HFT.out hc HM1.out HE1.out).mono ?_); rintro e w2 ⟨y10, y11, y12, y13, k10, k11, k12, k13, rfl, ow, bb⟩; have HR1 : Hid (MR (w2.alloc (.cells #[.int .i64 id, .bool qr, .int .i64 op, .bool aa, .bool tc, .bool rd, .bool ra, .int .i64 z, .int .i64 rc, .slice y10 qs.length k10, .slice y11 an2.length k11, .slice y12 ns2.length k12, .slice y13 ar2.length k13] 27)) (.slice y10 qs.length k10) (.slice y11 an2.length k11) (.slice y12 ns2.length k12) (.slice y13 ar2.length k13) ⟨⟨id, qr, op, aa, tc, rd, ra, z, rc⟩, qs, an2, ns2, ar2⟩) := (ow.mr HFA.out).below (lay (Below.refl _ _) _); replace HK : Hid (Blk (w2.alloc (.cells #[.int .i64 id, .bool qr, .int .i64 op, .bool aa, .bool tc, .bool rd, .bool ra, .int .i64 z, .int .i64 rc, .slice y10 qs.length k10, .slice y11 an2.length k11, .slice y12 ns2.length k12, .slice y13 ar2.length k13] 27)) w.heap.size (msgC ⟨id, qr, op, aa, tc, rd, ra, z, rc⟩ (.slice x0 qs.length c0) (.slice x1 an.length c1) (.slice x2 ns.length c2) (.slice x3 ar.length c3)) 27) := (HK.out.below bb).alloc _; replace HB : Hid (Below w.heap.size w (w2.alloc (.cells #[.int .i64 id, .bool qr, .int .i64 op, .bool aa, .bool tc, .bool rd, .bool ra, .int .i64 z, .int .i64 rc, .slice y10 qs.length k10, .slice y11 an2.length k11, .slice y12 ns2.length k12, .slice y13 ar2.length k13] 27))) := lay (next HB.out bb) _; have HA : Hid (Blk (w2.alloc (.cells #[.int .i64 id, .bool qr, .int .i64 op, .bool aa, .bool tc, .bool rd, .bool ra, .int .i64 z, .int .i64 rc, .slice y10 qs.length k10, .slice y11 an2.length k11, .slice y12 ns2.length k12, .slice y13 ar2.length k13] 27)) w2.heap.size (msgC ⟨id, qr, op, aa, tc, rd, ra, z, rc⟩ (.slice y10 qs.length k10) (.slice y11 an2.length k11) (.slice y12 ns2.length k12) (.slice y13 ar2.length k13)) 27) := Blk.new w2 _ _; clear e0 e1 e2 e3 e4 e5 e6 e7 e8 e9 e10 e11 e12 ow bb)
    | (go_at_call 11; refine (num_any _ _).mono ?_; rintro e w' ⟨rfl, hw⟩; obtain rfl := hw.symm))
  revert HR1 HK HB HA
  generalize hWe : (w2.alloc (.cells #[.int .i64 id, .bool qr, .int .i64 op, .bool aa, .bool tc, .bool rd, .bool ra, .int .i64 z, .int .i64 rc, .slice y10 qs.length k10, .slice y11 an2.length k11, .slice y12 ns2.length k12, .slice y13 ar2.length k13] 27)) = W
  obtain ⟨ga, hga⟩ : ∃ g, g = w2.heap.size := ⟨_, rfl⟩
  rw [← hga]
  intro HR1 HK HB HA
  clear hWe hga
  go_loopw [9, 10] (fun t9 t10 wr => ∃ (k i : Nat), i ≤ an.length ∧ t10 = .int .i64 (i : Int) ∧ t9 = .int .i64 (k : Int) ∧ k = (kpL c.data.toList (an.take i)).length ∧ Below W.heap.size W wr) (fun _ t10 _ => an.length - (intOf t10).toNat)
  case atStart => exact ⟨0, 0, Nat.zero_le _, rfl, rfl, by simp [kpL], Below.refl _ _⟩
  case round =>
    obtain ⟨k, i, hi, rfl, rfl, hk, hb⟩ := hrel
    have HKK : Hid (k = (kpL c.data.toList (an.take i)).length) := hk
    clear hk
    by_cases hin : i < an.length
    · have hin' : (i : Int) < (an.length : Int) := by omega
      have hkl : k ≤ i := by rw [HKK.out]; exact kpL_to _ _ _
      have HBW : Hid (Below W.heap.size W wr) := hb
      clear hb
      have HK2 : Hid (Blk wr w.heap.size (msgC ⟨id, qr, op, aa, tc, rd, ra, z, rc⟩ (.slice x0 qs.length c0) (.slice x1 an.length c1) (.slice x2 ns.length c2) (.slice x3 ar.length c3)) 27) := HK.out.below HBW.out
      have HA3 : Hid (Blk wr ga (msgC ⟨id, qr, op, aa, tc, rd, ra, z, rc⟩ (.slice y10 qs.length k10) (.slice y11 an2.length k11) (.slice y12 ns2.length k12) (.slice y13 ar2.length k13)) 27) := HA.out.below HBW.out
      obtain ⟨e0, e1, e2, e3, e4, e5, e6, e7, e8, e9, e10, e11, e12⟩ := blk13 (h := ⟨id, qr, op, aa, tc, rd, ra, z, rc⟩) (HK2.out); simp only at e0 e1 e2 e3 e4 e5 e6 e7 e8
      obtain ⟨g, o, rfl⟩ := row_some H1.out (by omega)
      have HC : Hid (∀ u, Below W.heap.size W u → _) := fun u hu => r_at (H1.out.below (next HB.out hu)) hin
      have HZ : Hid (an[i].n.size ≤ maxLen) := HNM.out _ (List.getElem_mem hin)
      have HTw : Hid (∀ _ : kpB c.data.toList an[i] = true, ∃ hl : k < an2.length, an2[k] = an[i]) := fun h => kp_two hin h HKK.out HA2.out
      have HY : Hid (kpB c.data.toList an[i] = true → (kpL c.data.toList (an.take (i + 1))).length = k + 1) := fun h => by rw [kpL_yes hin h, List.length_append, ← HKK.out]; rfl
      have HNo : Hid (kpB c.data.toList an[i] = false → (kpL c.data.toList (an.take (i + 1))).length = k) := fun h => by rw [kpL_no hin h, ← HKK.out]
      obtain ⟨r, hr⟩ : ∃ r, r = an[i] := ⟨_, rfl⟩
      unfold Hid at HC HZ HTw HY HNo
      simp only [← hr] at HC HZ HTw HY HNo
      clear hr
      obtain ⟨fn, ft, fc, fl, fd⟩ := r
      simp only at HC HZ
      obtain ⟨d0, d1, d2, d3, d4⟩ := HC _ HBW.out
      have HCh : Hid _ := HC
      clear HC
      cases hab : aboveB c.data.toList fn.data.toList with
      | false =>
        have HQ : Hid (kpB c.data.toList ⟨fn, ft, fc, fl, fd⟩ = false) := by unfold Hid kpB; rw [hab]; simp
        have HL : Hid ((kpL c.data.toList (an.take (i + 1))).length = k) := HNo HQ.out
        clear HTw HY HNo
        go_wp2_with (go_at_call 15; go_must (refine (refAbove_as' c fn false _ hc HZ hab).mono ?_); rintro e w3 ⟨rfl, b3⟩; replace HBW : Hid (Below W.heap.size W w3) := next HBW.out b3; clear b3)
        go_roundw
        case rel => exact ⟨k, i + 1, by omega, by go_num, rfl, HL.out.symm, HBW.out⟩
        case measure => simp [intOf]; omega
      | true =>
        by_cases hcl : fc = 1
        · subst hcl
          have HQ : Hid (kpB c.data.toList ⟨fn, ft, 1, fl, fd⟩ = true) := by unfold Hid kpB; rw [hab]; simp
          have HL : Hid ((kpL c.data.toList (an.take (i + 1))).length = k + 1) := HY HQ.out
          obtain ⟨hk2, he2⟩ := HTw HQ.out
          have hk2' : decide (an2.length ≤ k) = false := by simp; omega
          obtain ⟨g2, o2, rfl⟩ := row_some HR1.out.2.1 (Nat.lt_of_le_of_lt (Nat.zero_le _) hk2)
          have HC2 : Hid (∀ u, Below W.heap.size W u → _) := fun u hu => r_at (HR1.out.2.1.below hu) hk2
          unfold Hid at HC2
          simp only [he2] at HC2
          have HC2h : Hid _ := HC2
          have hk3 : (k : Int) < (an2.length : Int) := by omega
          clear HTw HY HNo he2 HC2
          go_wp2_with (go_at_call 15; go_must (refine (refAbove_as' c fn true _ hc HZ hab).mono ?_); rintro e w3 ⟨rfl, b3⟩; replace HBW : Hid (Below W.heap.size W w3) := next HBW.out b3; clear e0 e1 e2 e3 e4 e5 e6 e7 e8 e9 e10 e11 e12 d0 d1 d2 d3 d4; have HK4 : Hid (Blk w3 w.heap.size (msgC ⟨id, qr, op, aa, tc, rd, ra, z, rc⟩ (.slice x0 qs.length c0) (.slice (some ⟨g, o, none⟩) an.length c1) (.slice x2 ns.length c2) (.slice x3 ar.length c3)) 27) := HK2.out.below b3; have HA4 : Hid (Blk w3 ga (msgC ⟨id, qr, op, aa, tc, rd, ra, z, rc⟩ (.slice y10 qs.length k10) (.slice (some ⟨g2, o2, none⟩) an2.length k11) (.slice y12 ns2.length k12) (.slice y13 ar2.length k13)) 27) := HA3.out.below b3; obtain ⟨e0, e1, e2, e3, e4, e5, e6, e7, e8, e9, e10, e11, e12⟩ := blk13 (h := ⟨id, qr, op, aa, tc, rd, ra, z, rc⟩) (HK4.out); simp only at e0 e1 e2 e3 e4 e5 e6 e7 e8; obtain ⟨a0, a1, a2, a3, a4, a5, a6, a7, a8, a9, a10, a11, a12⟩ := blk13 (h := ⟨id, qr, op, aa, tc, rd, ra, z, rc⟩) (HA4.out); simp only at a0 a1 a2 a3 a4 a5 a6 a7 a8; obtain ⟨d0, d1, d2, d3, d4⟩ := HCh.out _ HBW.out; obtain ⟨f0, f1, f2, f3, f4⟩ := HC2h.out _ HBW.out; clear b3)
          go_quiet (fail)
          go_wp2
          go_roundw
          case rel => exact ⟨k + 1, i + 1, by omega, by go_num, by go_num, HL.out.symm, next HBW.out (below_drew ⟨_, rfl⟩)⟩
          case measure => simp [intOf]; omega
        · have HQ : Hid (kpB c.data.toList ⟨fn, ft, fc, fl, fd⟩ = false) := kp_class hcl
          have HL : Hid ((kpL c.data.toList (an.take (i + 1))).length = k) := HNo HQ.out
          clear HTw HY HNo
          go_wp2_with (go_at_call 15; go_must (refine (refAbove_as' c fn true _ hc HZ hab).mono ?_); rintro e w3 ⟨rfl, b3⟩; replace HBW : Hid (Below W.heap.size W w3) := next HBW.out b3; clear e0 e1 e2 e3 e4 e5 e6 e7 e8 e9 e10 e11 e12 d0 d1 d2 d3 d4; have HK4 : Hid (Blk w3 w.heap.size (msgC ⟨id, qr, op, aa, tc, rd, ra, z, rc⟩ (.slice x0 qs.length c0) (.slice (some ⟨g, o, none⟩) an.length c1) (.slice x2 ns.length c2) (.slice x3 ar.length c3)) 27) := HK2.out.below b3; obtain ⟨e0, e1, e2, e3, e4, e5, e6, e7, e8, e9, e10, e11, e12⟩ := blk13 (h := ⟨id, qr, op, aa, tc, rd, ra, z, rc⟩) (HK4.out); simp only at e0 e1 e2 e3 e4 e5 e6 e7 e8; obtain ⟨d0, d1, d2, d3, d4⟩ := HCh.out _ HBW.out; clear b3)
          go_roundw
          case rel => exact ⟨k, i + 1, by omega, by go_num, rfl, HL.out.symm, HBW.out⟩
          case measure => simp [intOf]; omega
    · have hin' : decide (i < an.length) = false := by simpa using hin
      obtain rfl : k = an2.length := by rw [HKK.out, HA2.out, List.take_of_length_le (by omega)]
      clear HKK
      have HBW : Hid (Below W.heap.size W wr) := hb
      clear hb
      have HKx : Hid (Blk wr w.heap.size (msgC ⟨id, qr, op, aa, tc, rd, ra, z, rc⟩ (.slice x0 qs.length c0) (.slice x1 an.length c1) (.slice x2 ns.length c2) (.slice x3 ar.length c3)) 27) := HK.out.below HBW.out
      have HAx : Hid (Blk wr ga (msgC ⟨id, qr, op, aa, tc, rd, ra, z, rc⟩ (.slice y10 qs.length k10) (.slice y11 an2.length k11) (.slice y12 ns2.length k12) (.slice y13 ar2.length k13)) 27) := HA.out.below HBW.out
      obtain ⟨e0, e1, e2, e3, e4, e5, e6, e7, e8, e9, e10, e11, e12⟩ := blk13 (h := ⟨id, qr, op, aa, tc, rd, ra, z, rc⟩) (HKx.out); simp only at e0 e1 e2 e3 e4 e5 e6 e7 e8
      obtain ⟨a0, a1, a2, a3, a4, a5, a6, a7, a8, a9, a10, a11, a12⟩ := blk13 (h := ⟨id, qr, op, aa, tc, rd, ra, z, rc⟩) (HAx.out); simp only at a0 a1 a2 a3 a4 a5 a6 a7 a8
      go_wp2_with (first
        | (go_at_call 8; have _t := t1; go_must (refine (filter_any d id qr op aa tc rd ra z rc qs an2 ns2 ar2 _ _ _ _ _ jd jq jo ja jt jr jv jz jc qs3 an3 ns3 ar3 E (HR1.out.1.below HBW.out) (HR1.out.2.1.below HBW.out) (HR1.out.2.2.1.below HBW.out) (HR1.out.2.2.2.1.below HBW.out) HFA.out hd HM2.out HE.out).mono ?_); rintro e w4 ⟨y20, y21, y22, y23, k20, k21, k22, k23, rfl, ow, bb⟩; have HR2 : Hid (MR w4 (.slice y20 qs3.length k20) (.slice y21 an3.length k21) (.slice y22 ns3.length k22) (.slice y23 ar3.length k23) ⟨⟨jd, jq, jo, ja, jt, jr, jv, jz, jc⟩, qs3, an3, ns3, ar3⟩) := ow.mr HFB.out; replace HBW : Hid (Below W.heap.size W w4) := next HBW.out bb; clear e0 e1 e2 e3 e4 e5 e6 e7 e8 e9 e10 e11 e12 a0 a1 a2 a3 a4 a5 a6 a7 a8 a9 a10 a11 a12; have HKx2 : Hid (Blk (w4.alloc (.cells #[.int .i64 jd, .bool jq, .int .i64 jo, .bool ja, .bool jt, .bool jr, .bool jv, .int .i64 jz, .int .i64 jc, .slice y20 qs3.length k20, .slice y21 an3.length k21, .slice y22 ns3.length k22, .slice y23 ar3.length k23] 27)) w.heap.size (msgC ⟨id, qr, op, aa, tc, rd, ra, z, rc⟩ (.slice x0 qs.length c0) (.slice x1 an.length c1) (.slice x2 ns.length c2) (.slice x3 ar.length c3)) 27) := (HK.out.below HBW.out).alloc _; obtain ⟨e0, e1, e2, e3, e4, e5, e6, e7, e8, e9, e10, e11, e12⟩ := blk13 (h := ⟨id, qr, op, aa, tc, rd, ra, z, rc⟩) (HKx2.out); simp only at e0 e1 e2 e3 e4 e5 e6 e7 e8; clear ow bb t1 _t HKx2)
        | (go_at_call 8; have _t := t2; go_must (refine (filter_any d id qr op aa tc rd ra z rc qs an ns ar _ _ _ _ _ jd jq jo ja jt jr jv jz jc qs3 an3 ns3 ar3 E (H0.out.below (next HB.out (lay HBW.out _))) (H1.out.below (next HB.out (lay HBW.out _))) (H2.out.below (next HB.out (lay HBW.out _))) (H3.out.below (next HB.out (lay HBW.out _))) HFT.out hd HM3.out HE.out).mono ?_); rintro e w5 ⟨y30, y31, y32, y33, k30, k31, k32, k33, rfl, ow, bb⟩; have HR3 : Hid (MR w5 (.slice y30 qs3.length k30) (.slice y31 an3.length k31) (.slice y32 ns3.length k32) (.slice y33 ar3.length k33) ⟨⟨jd, jq, jo, ja, jt, jr, jv, jz, jc⟩, qs3, an3, ns3, ar3⟩) := ow.mr HFB.out; have hbx : Below w4.heap.size w4 w5 := next (lay (Below.refl _ _) _) bb; have HBk : Hid (Blk w5 w4.heap.size (msgC ⟨jd, jq, jo, ja, jt, jr, jv, jz, jc⟩ (.slice y20 qs3.length k20) (.slice y21 an3.length k21) (.slice y22 ns3.length k22) (.slice y23 ar3.length k23)) 27) := (Blk.new w4 _ _).below bb; replace HR2 : Hid (MR w5 (.slice y20 qs3.length k20) (.slice y21 an3.length k21) (.slice y22 ns3.length k22) (.slice y23 ar3.length k23) ⟨⟨jd, jq, jo, ja, jt, jr, jv, jz, jc⟩, qs3, an3, ns3, ar3⟩) := HR2.out.below hbx; replace HBW : Hid (Below W.heap.size W w5) := next HBW.out hbx; clear e0 e1 e2 e3 e4 e5 e6 e7 e8 e9 e10 e11 e12; have HKx2 : Hid (Blk (w5.alloc (.cells #[.int .i64 jd, .bool jq, .int .i64 jo, .bool ja, .bool jt, .bool jr, .bool jv, .int .i64 jz, .int .i64 jc, .slice y30 qs3.length k30, .slice y31 an3.length k31, .slice y32 ns3.length k32, .slice y33 ar3.length k33] 27)) w.heap.size (msgC ⟨id, qr, op, aa, tc, rd, ra, z, rc⟩ (.slice x0 qs.length c0) (.slice x1 an.length c1) (.slice x2 ns.length c2) (.slice x3 ar.length c3)) 27) := (HK.out.below HBW.out).alloc _; have HAx2 : Hid (Blk (w5.alloc (.cells #[.int .i64 jd, .bool jq, .int .i64 jo, .bool ja, .bool jt, .bool jr, .bool jv, .int .i64 jz, .int .i64 jc, .slice y30 qs3.length k30, .slice y31 an3.length k31, .slice y32 ns3.length k32, .slice y33 ar3.length k33] 27)) ga (msgC ⟨id, qr, op, aa, tc, rd, ra, z, rc⟩ (.slice y10 qs.length k10) (.slice y11 an2.length k11) (.slice y12 ns2.length k12) (.slice y13 ar2.length k13)) 27) := (HA.out.below HBW.out).alloc _; obtain ⟨e0, e1, e2, e3, e4, e5, e6, e7, e8, e9, e10, e11, e12⟩ := blk13 (h := ⟨id, qr, op, aa, tc, rd, ra, z, rc⟩) (HKx2.out); simp only at e0 e1 e2 e3 e4 e5 e6 e7 e8; obtain ⟨a0, a1, a2, a3, a4, a5, a6, a7, a8, a9, a10, a11, a12⟩ := blk13 (h := ⟨id, qr, op, aa, tc, rd, ra, z, rc⟩) (HAx2.out); simp only at a0 a1 a2 a3 a4 a5 a6 a7 a8; clear ow bb hbx t2 _t HKx2 HAx2)
        | (go_at_call 16; go_must (refine (sameQ_yes _ _ qs _ (HR1.out.1.below (lay HBW.out _)) (H0.out.below (next HB.out (lay HBW.out _))) hlQ.out).mono ?_); rintro e w6 ⟨rfl, bb⟩; replace HR2 : Hid (MR w6 (.slice y20 qs3.length k20) (.slice y21 an3.length k21) (.slice y22 ns3.length k22) (.slice y23 ar3.length k23) ⟨⟨jd, jq, jo, ja, jt, jr, jv, jz, jc⟩, qs3, an3, ns3, ar3⟩) := (HR2.out.below (lay (Below.refl _ _) _)).below bb; replace HR3 : Hid (MR w6 (.slice y30 qs3.length k30) (.slice y31 an3.length k31) (.slice y32 ns3.length k32) (.slice y33 ar3.length k33) ⟨⟨jd, jq, jo, ja, jt, jr, jv, jz, jc⟩, qs3, an3, ns3, ar3⟩) := (HR3.out.below (lay (Below.refl _ _) _)).below bb; replace HBk : Hid (Blk w6 w4.heap.size (msgC ⟨jd, jq, jo, ja, jt, jr, jv, jz, jc⟩ (.slice y20 qs3.length k20) (.slice y21 an3.length k21) (.slice y22 ns3.length k22) (.slice y23 ar3.length k23)) 27) := (HBk.out.alloc _).below bb; have HCk : Hid (Blk w6 w5.heap.size (msgC ⟨jd, jq, jo, ja, jt, jr, jv, jz, jc⟩ (.slice y30 qs3.length k30) (.slice y31 an3.length k31) (.slice y32 ns3.length k32) (.slice y33 ar3.length k33)) 27) := (Blk.new w5 _ _).below bb; replace HBW : Hid (Below W.heap.size W w6) := next (lay HBW.out _) bb; clear e0 e1 e2 e3 e4 e5 e6 e7 e8 e9 e10 e11 e12 a0 a1 a2 a3 a4 a5 a6 a7 a8 a9 a10 a11 a12 bb)
        | (go_at_call 15; go_must (refine (refAbove_as' c d true _ hc hd HV.out).mono ?_); rintro e w7 ⟨rfl, bb⟩; replace HBW : Hid (Below W.heap.size W w7) := next HBW.out bb; replace HR2 : Hid (MR w7 (.slice y20 qs3.length k20) (.slice y21 an3.length k21) (.slice y22 ns3.length k22) (.slice y23 ar3.length k23) ⟨⟨jd, jq, jo, ja, jt, jr, jv, jz, jc⟩, qs3, an3, ns3, ar3⟩) := HR2.out.below bb; replace HR3 : Hid (MR w7 (.slice y30 qs3.length k30) (.slice y31 an3.length k31) (.slice y32 ns3.length k32) (.slice y33 ar3.length k33) ⟨⟨jd, jq, jo, ja, jt, jr, jv, jz, jc⟩, qs3, an3, ns3, ar3⟩) := HR3.out.below bb; replace HBk : Hid (Blk w7 w4.heap.size (msgC ⟨jd, jq, jo, ja, jt, jr, jv, jz, jc⟩ (.slice y20 qs3.length k20) (.slice y21 an3.length k21) (.slice y22 ns3.length k22) (.slice y23 ar3.length k23)) 27) := HBk.out.below bb; replace HCk : Hid (Blk w7 w5.heap.size (msgC ⟨jd, jq, jo, ja, jt, jr, jv, jz, jc⟩ (.slice y30 qs3.length k30) (.slice y31 an3.length k31) (.slice y32 ns3.length k32) (.slice y33 ar3.length k33)) 27) := HCk.out.below bb; obtain ⟨b0, b1, b2, b3, b4, b5, b6, b7, b8, b9, b10, b11, b12⟩ := blk13 (h := ⟨jd, jq, jo, ja, jt, jr, jv, jz, jc⟩) (HBk.out); simp only at b0 b1 b2 b3 b4 b5 b6 b7 b8; obtain ⟨f0, f1, f2, f3, f4, f5, f6, f7, f8, f9, f10, f11, f12⟩ := blk13 (h := ⟨jd, jq, jo, ja, jt, jr, jv, jz, jc⟩) (HCk.out); simp only at f0 f1 f2 f3 f4 f5 f6 f7 f8; clear bb)
        | (go_at_call 10; go_must (refine (sameMsg_yes ⟨⟨jd, jq, jo, ja, jt, jr, jv, jz, jc⟩, qs3, an3, ns3, ar3⟩ _ _ _ _ _ _ _ _ _ HR2.out HR3.out).mono ?_); rintro e w8 ⟨rfl, bb⟩; replace HBW : Hid (Below W.heap.size W w8) := next HBW.out bb; clear bb)
        | (go_at_call 11; refine (num_any _ _).mono ?_; rintro e w' ⟨rfl, hw⟩; obtain rfl := hw.symm))
      go_ret
      exact ⟨rfl, next HB.out HBW.out⟩

set_option maxRecDepth 20000 in
set_option maxHeartbeats 8000000 in
theorem w_false (id : Int) (qr : Bool) (op : Int) (aa tc rd ra : Bool) (z rc : Int) (qs : List Qn) (an ns ar : List Rc) (x0 x1 x2 x3 : Option Addr) (c0 c1 c2 c3 : Nat) (c d : ByteArray) (w : World) (h0 : Row w (.slice x0 qs.length c0) qs.length (qC qs)) (h1 : Row w (.slice x1 an.length c1) an.length (rC an)) (h2 : Row w (.slice x2 ns.length c2) ns.length (rC ns)) (h3 : Row w (.slice x3 ar.length c3) ar.length (rC ar)) (hF : Fits ⟨⟨id, qr, op, aa, tc, rd, ra, z, rc⟩, qs, an, ns, ar⟩) (hc : c.size ≤ maxLen) (hd : d.size ≤ maxLen) (hn : isName c.data.toList = true) (hV : aboveB c.data.toList d.data.toList = false) :
    Calls Try.prog 4 #[.agg #[.int .i64 id, .bool qr, .int .i64 op, .bool aa, .bool tc, .bool rd, .bool ra, .int .i64 z, .int .i64 rc, .slice x0 qs.length c0, .slice x1 an.length c1, .slice x2 ns.length c2, .slice x3 ar.length c3], .string c, .string d] w fun e w' => e = .returned (.bool true) ∧ Below w.heap.size w w' := by
  have H0 : Hid (Row w (.slice x0 qs.length c0) qs.length (qC qs)) := h0
  have H1 : Hid (Row w (.slice x1 an.length c1) an.length (rC an)) := h1
  have H2 : Hid (Row w (.slice x2 ns.length c2) ns.length (rC ns)) := h2
  have H3 : Hid (Row w (.slice x3 ar.length c3) ar.length (rC ar)) := h3
  obtain ⟨an2, hA2⟩ : ∃ x, x = kpL c.data.toList an := ⟨_, rfl⟩
  obtain ⟨ns2, hN2⟩ : ∃ x, x = kpL c.data.toList ns := ⟨_, rfl⟩
  obtain ⟨ar2, hR2⟩ : ∃ x, x = kpL c.data.toList ar := ⟨_, rfl⟩
  have HM1 : Hid (⟨⟨id, qr, op, aa, tc, rd, ra, z, rc⟩, qs, an2, ns2, ar2⟩ = fM c.data.toList ⟨⟨id, qr, op, aa, tc, rd, ra, z, rc⟩, qs, an, ns, ar⟩) := by unfold Hid; rw [fM_yes hn, hA2, hN2, hR2]; rfl
  have HA2 : Hid (an2 = kpL c.data.toList an) := hA2
  obtain ⟨M, hM⟩ : ∃ M, M = fM d.data.toList ⟨⟨id, qr, op, aa, tc, rd, ra, z, rc⟩, qs, an2, ns2, ar2⟩ := ⟨_, rfl⟩
  obtain ⟨⟨jd, jq, jo, ja, jt, jr, jv, jz, jc⟩, qs3, an3, ns3, ar3⟩ := M
  have HM2 : Hid (⟨⟨jd, jq, jo, ja, jt, jr, jv, jz, jc⟩, qs3, an3, ns3, ar3⟩ = fM d.data.toList ⟨⟨id, qr, op, aa, tc, rd, ra, z, rc⟩, qs, an2, ns2, ar2⟩) := hM
  obtain ⟨M, hL⟩ : ∃ M, M = fM d.data.toList ⟨⟨id, qr, op, aa, tc, rd, ra, z, rc⟩, qs, an, ns, ar⟩ := ⟨_, rfl⟩
  obtain ⟨⟨ld, lq, lo, la, lt, lr, lv, lz, lc⟩, qs4, an4, ns4, ar4⟩ := M
  have HM3 : Hid (⟨⟨ld, lq, lo, la, lt, lr, lv, lz, lc⟩, qs4, an4, ns4, ar4⟩ = fM d.data.toList ⟨⟨id, qr, op, aa, tc, rd, ra, z, rc⟩, qs, an, ns, ar⟩) := hL
  obtain ⟨E, hE⟩ : ∃ E, E = fE d.data.toList := ⟨_, rfl⟩
  have HE : Hid (E = fE d.data.toList) := hE
  have HE1 : Hid ((0 : Int) = fE c.data.toList) := (fE_yes hn).symm
  have HFT : Hid (Fits ⟨⟨id, qr, op, aa, tc, rd, ra, z, rc⟩, qs, an, ns, ar⟩) := hF
  have HFA : Hid (Fits ⟨⟨id, qr, op, aa, tc, rd, ra, z, rc⟩, qs, an2, ns2, ar2⟩) := by unfold Hid; rw [HM1.out]; exact hF.fm _
  have HFB : Hid (Fits ⟨⟨jd, jq, jo, ja, jt, jr, jv, jz, jc⟩, qs3, an3, ns3, ar3⟩) := by unfold Hid; rw [hM]; exact HFA.out.fm _
  have HNM : Hid (∀ r ∈ an, r.n.size ≤ maxLen) := fun r hr => Nat.le_trans (hF.san r hr).1 (by unfold maxLen; omega)
  have hlA : an.length ≤ 9223372036854775806 := by have := hF.an; simp only at this; omega
  have hlQ : Hid (qs.length ≤ maxLen) := by unfold Hid; have := hF.q; simp only at this; unfold maxLen; omega
  have HV : Hid (aboveB c.data.toList d.data.toList = false) := hV
  have hb : Below w.heap.size w w := Below.refl _ _
  have KM0 : Hid (∀ u, Below (w.alloc (.cells #[.int .i64 id, .bool qr, .int .i64 op, .bool aa, .bool tc, .bool rd, .bool ra, .int .i64 z, .int .i64 rc, .slice x0 qs.length c0, .slice x1 an.length c1, .slice x2 ns.length c2, .slice x3 ar.length c3] 27)).heap.size (w.alloc (.cells #[.int .i64 id, .bool qr, .int .i64 op, .bool aa, .bool tc, .bool rd, .bool ra, .int .i64 z, .int .i64 rc, .slice x0 qs.length c0, .slice x1 an.length c1, .slice x2 ns.length c2, .slice x3 ar.length c3] 27)) u → Blk u w.heap.size (msgC ⟨id, qr, op, aa, tc, rd, ra, z, rc⟩ (.slice x0 qs.length c0) (.slice x1 an.length c1) (.slice x2 ns.length c2) (.slice x3 ar.length c3)) 27) := fun u hu => (Blk.new w _ _).below hu
  clear hM hE hL h0 h1 h2 h3 hF hn hV hA2 hN2 hR2
  have t1 : True := trivial
  have t2 : True := trivial
  go_enter Try.func4, Try.ntmps4
  go_wp2_with (first
    | (go_at_call 13; go_must (refine (awake_any _).mono ?_); rintro e w1 ⟨rfl, bb⟩; have HK : Hid (Blk w1 w.heap.size (msgC ⟨id, qr, op, aa, tc, rd, ra, z, rc⟩ (.slice x0 qs.length c0) (.slice x1 an.length c1) (.slice x2 ns.length c2) (.slice x3 ar.length c3)) 27) := KM0.out _ bb; have HB : Hid (Below w.heap.size w w1) := next (lay hb _) bb; obtain ⟨e0, e1, e2, e3, e4, e5, e6, e7, e8, e9, e10, e11, e12⟩ := blk13 (h := ⟨id, qr, op, aa, tc, rd, ra, z, rc⟩) (HK.out); simp only at e0 e1 e2 e3 e4 e5 e6 e7 e8; clear bb hb KM0)
    | (go_at_call 8; go_must (refine (filter_any c id qr op aa tc rd ra z rc qs an ns ar _ _ _ _ _ id qr op aa tc rd ra z rc qs an2 ns2 ar2 0 (H0.out.below HB.out) (H1.out.below HB.out) (H2.out.below HB.out) (H3.out.below HB.out) HFT.out hc HM1.out HE1.out).mono ?_); rintro e w2 ⟨y10, y11, y12, y13, k10, k11, k12, k13, rfl, ow, bb⟩; have HR1 : Hid (MR (w2.alloc (.cells #[.int .i64 id, .bool qr, .int .i64 op, .bool aa, .bool tc, .bool rd, .bool ra, .int .i64 z, .int .i64 rc, .slice y10 qs.length k10, .slice y11 an2.length k11, .slice y12 ns2.length k12, .slice y13 ar2.length k13] 27)) (.slice y10 qs.length k10) (.slice y11 an2.length k11) (.slice y12 ns2.length k12) (.slice y13 ar2.length k13) ⟨⟨id, qr, op, aa, tc, rd, ra, z, rc⟩, qs, an2, ns2, ar2⟩) := (ow.mr HFA.out).below (lay (Below.refl _ _) _); replace HK : Hid (Blk (w2.alloc (.cells #[.int .i64 id, .bool qr, .int .i64 op, .bool aa, .bool tc, .bool rd, .bool ra, .int .i64 z, .int .i64 rc, .slice y10 qs.length k10, .slice y11 an2.length k11, .slice y12 ns2.length k12, .slice y13 ar2.length k13] 27)) w.heap.size (msgC ⟨id, qr, op, aa, tc, rd, ra, z, rc⟩ (.slice x0 qs.length c0) (.slice x1 an.length c1) (.slice x2 ns.length c2) (.slice x3 ar.length c3)) 27) := (HK.out.below bb).alloc _; replace HB : Hid (Below w.heap.size w (w2.alloc (.cells #[.int .i64 id, .bool qr, .int .i64 op, .bool aa, .bool tc, .bool rd, .bool ra, .int .i64 z, .int .i64 rc, .slice y10 qs.length k10, .slice y11 an2.length k11, .slice y12 ns2.length k12, .slice y13 ar2.length k13] 27))) := lay (next HB.out bb) _; have HA : Hid (Blk (w2.alloc (.cells #[.int .i64 id, .bool qr, .int .i64 op, .bool aa, .bool tc, .bool rd, .bool ra, .int .i64 z, .int .i64 rc, .slice y10 qs.length k10, .slice y11 an2.length k11, .slice y12 ns2.length k12, .slice y13 ar2.length k13] 27)) w2.heap.size (msgC ⟨id, qr, op, aa, tc, rd, ra, z, rc⟩ (.slice y10 qs.length k10) (.slice y11 an2.length k11) (.slice y12 ns2.length k12) (.slice y13 ar2.length k13)) 27) := Blk.new w2 _ _; clear e0 e1 e2 e3 e4 e5 e6 e7 e8 e9 e10 e11 e12 ow bb)
    | (go_at_call 11; refine (num_any _ _).mono ?_; rintro e w' ⟨rfl, hw⟩; obtain rfl := hw.symm))
  revert HR1 HK HB HA
  generalize hWe : (w2.alloc (.cells #[.int .i64 id, .bool qr, .int .i64 op, .bool aa, .bool tc, .bool rd, .bool ra, .int .i64 z, .int .i64 rc, .slice y10 qs.length k10, .slice y11 an2.length k11, .slice y12 ns2.length k12, .slice y13 ar2.length k13] 27)) = W
  obtain ⟨ga, hga⟩ : ∃ g, g = w2.heap.size := ⟨_, rfl⟩
  rw [← hga]
  intro HR1 HK HB HA
  clear hWe hga
  go_loopw [9, 10] (fun t9 t10 wr => ∃ (k i : Nat), i ≤ an.length ∧ t10 = .int .i64 (i : Int) ∧ t9 = .int .i64 (k : Int) ∧ k = (kpL c.data.toList (an.take i)).length ∧ Below W.heap.size W wr) (fun _ t10 _ => an.length - (intOf t10).toNat)
  case atStart => exact ⟨0, 0, Nat.zero_le _, rfl, rfl, by simp [kpL], Below.refl _ _⟩
  case round =>
    obtain ⟨k, i, hi, rfl, rfl, hk, hb⟩ := hrel
    have HKK : Hid (k = (kpL c.data.toList (an.take i)).length) := hk
    clear hk
    by_cases hin : i < an.length
    · have hin' : (i : Int) < (an.length : Int) := by omega
      have hkl : k ≤ i := by rw [HKK.out]; exact kpL_to _ _ _
      have HBW : Hid (Below W.heap.size W wr) := hb
      clear hb
      have HK2 : Hid (Blk wr w.heap.size (msgC ⟨id, qr, op, aa, tc, rd, ra, z, rc⟩ (.slice x0 qs.length c0) (.slice x1 an.length c1) (.slice x2 ns.length c2) (.slice x3 ar.length c3)) 27) := HK.out.below HBW.out
      have HA3 : Hid (Blk wr ga (msgC ⟨id, qr, op, aa, tc, rd, ra, z, rc⟩ (.slice y10 qs.length k10) (.slice y11 an2.length k11) (.slice y12 ns2.length k12) (.slice y13 ar2.length k13)) 27) := HA.out.below HBW.out
      obtain ⟨e0, e1, e2, e3, e4, e5, e6, e7, e8, e9, e10, e11, e12⟩ := blk13 (h := ⟨id, qr, op, aa, tc, rd, ra, z, rc⟩) (HK2.out); simp only at e0 e1 e2 e3 e4 e5 e6 e7 e8
      obtain ⟨g, o, rfl⟩ := row_some H1.out (by omega)
      have HC : Hid (∀ u, Below W.heap.size W u → _) := fun u hu => r_at (H1.out.below (next HB.out hu)) hin
      have HZ : Hid (an[i].n.size ≤ maxLen) := HNM.out _ (List.getElem_mem hin)
      have HTw : Hid (∀ _ : kpB c.data.toList an[i] = true, ∃ hl : k < an2.length, an2[k] = an[i]) := fun h => kp_two hin h HKK.out HA2.out
      have HY : Hid (kpB c.data.toList an[i] = true → (kpL c.data.toList (an.take (i + 1))).length = k + 1) := fun h => by rw [kpL_yes hin h, List.length_append, ← HKK.out]; rfl
      have HNo : Hid (kpB c.data.toList an[i] = false → (kpL c.data.toList (an.take (i + 1))).length = k) := fun h => by rw [kpL_no hin h, ← HKK.out]
      obtain ⟨r, hr⟩ : ∃ r, r = an[i] := ⟨_, rfl⟩
      unfold Hid at HC HZ HTw HY HNo
      simp only [← hr] at HC HZ HTw HY HNo
      clear hr
      obtain ⟨fn, ft, fc, fl, fd⟩ := r
      simp only at HC HZ
      obtain ⟨d0, d1, d2, d3, d4⟩ := HC _ HBW.out
      have HCh : Hid _ := HC
      clear HC
      cases hab : aboveB c.data.toList fn.data.toList with
      | false =>
        have HQ : Hid (kpB c.data.toList ⟨fn, ft, fc, fl, fd⟩ = false) := by unfold Hid kpB; rw [hab]; simp
        have HL : Hid ((kpL c.data.toList (an.take (i + 1))).length = k) := HNo HQ.out
        clear HTw HY HNo
        go_wp2_with (go_at_call 15; go_must (refine (refAbove_as' c fn false _ hc HZ hab).mono ?_); rintro e w3 ⟨rfl, b3⟩; replace HBW : Hid (Below W.heap.size W w3) := next HBW.out b3; clear b3)
        go_roundw
        case rel => exact ⟨k, i + 1, by omega, by go_num, rfl, HL.out.symm, HBW.out⟩
        case measure => simp [intOf]; omega
      | true =>
        by_cases hcl : fc = 1
        · subst hcl
          have HQ : Hid (kpB c.data.toList ⟨fn, ft, 1, fl, fd⟩ = true) := by unfold Hid kpB; rw [hab]; simp
          have HL : Hid ((kpL c.data.toList (an.take (i + 1))).length = k + 1) := HY HQ.out
          obtain ⟨hk2, he2⟩ := HTw HQ.out
          have hk2' : decide (an2.length ≤ k) = false := by simp; omega
          obtain ⟨g2, o2, rfl⟩ := row_some HR1.out.2.1 (Nat.lt_of_le_of_lt (Nat.zero_le _) hk2)
          have HC2 : Hid (∀ u, Below W.heap.size W u → _) := fun u hu => r_at (HR1.out.2.1.below hu) hk2
          unfold Hid at HC2
          simp only [he2] at HC2
          have HC2h : Hid _ := HC2
          have hk3 : (k : Int) < (an2.length : Int) := by omega
          clear HTw HY HNo he2 HC2
          go_wp2_with (go_at_call 15; go_must (refine (refAbove_as' c fn true _ hc HZ hab).mono ?_); rintro e w3 ⟨rfl, b3⟩; replace HBW : Hid (Below W.heap.size W w3) := next HBW.out b3; clear e0 e1 e2 e3 e4 e5 e6 e7 e8 e9 e10 e11 e12 d0 d1 d2 d3 d4; have HK4 : Hid (Blk w3 w.heap.size (msgC ⟨id, qr, op, aa, tc, rd, ra, z, rc⟩ (.slice x0 qs.length c0) (.slice (some ⟨g, o, none⟩) an.length c1) (.slice x2 ns.length c2) (.slice x3 ar.length c3)) 27) := HK2.out.below b3; have HA4 : Hid (Blk w3 ga (msgC ⟨id, qr, op, aa, tc, rd, ra, z, rc⟩ (.slice y10 qs.length k10) (.slice (some ⟨g2, o2, none⟩) an2.length k11) (.slice y12 ns2.length k12) (.slice y13 ar2.length k13)) 27) := HA3.out.below b3; obtain ⟨e0, e1, e2, e3, e4, e5, e6, e7, e8, e9, e10, e11, e12⟩ := blk13 (h := ⟨id, qr, op, aa, tc, rd, ra, z, rc⟩) (HK4.out); simp only at e0 e1 e2 e3 e4 e5 e6 e7 e8; obtain ⟨a0, a1, a2, a3, a4, a5, a6, a7, a8, a9, a10, a11, a12⟩ := blk13 (h := ⟨id, qr, op, aa, tc, rd, ra, z, rc⟩) (HA4.out); simp only at a0 a1 a2 a3 a4 a5 a6 a7 a8; obtain ⟨d0, d1, d2, d3, d4⟩ := HCh.out _ HBW.out; obtain ⟨f0, f1, f2, f3, f4⟩ := HC2h.out _ HBW.out; clear b3)
          go_quiet (fail)
          go_wp2
          go_roundw
          case rel => exact ⟨k + 1, i + 1, by omega, by go_num, by go_num, HL.out.symm, next HBW.out (below_drew ⟨_, rfl⟩)⟩
          case measure => simp [intOf]; omega
        · have HQ : Hid (kpB c.data.toList ⟨fn, ft, fc, fl, fd⟩ = false) := kp_class hcl
          have HL : Hid ((kpL c.data.toList (an.take (i + 1))).length = k) := HNo HQ.out
          clear HTw HY HNo
          go_wp2_with (go_at_call 15; go_must (refine (refAbove_as' c fn true _ hc HZ hab).mono ?_); rintro e w3 ⟨rfl, b3⟩; replace HBW : Hid (Below W.heap.size W w3) := next HBW.out b3; clear e0 e1 e2 e3 e4 e5 e6 e7 e8 e9 e10 e11 e12 d0 d1 d2 d3 d4; have HK4 : Hid (Blk w3 w.heap.size (msgC ⟨id, qr, op, aa, tc, rd, ra, z, rc⟩ (.slice x0 qs.length c0) (.slice (some ⟨g, o, none⟩) an.length c1) (.slice x2 ns.length c2) (.slice x3 ar.length c3)) 27) := HK2.out.below b3; obtain ⟨e0, e1, e2, e3, e4, e5, e6, e7, e8, e9, e10, e11, e12⟩ := blk13 (h := ⟨id, qr, op, aa, tc, rd, ra, z, rc⟩) (HK4.out); simp only at e0 e1 e2 e3 e4 e5 e6 e7 e8; obtain ⟨d0, d1, d2, d3, d4⟩ := HCh.out _ HBW.out; clear b3)
          go_roundw
          case rel => exact ⟨k, i + 1, by omega, by go_num, rfl, HL.out.symm, HBW.out⟩
          case measure => simp [intOf]; omega
    · have hin' : decide (i < an.length) = false := by simpa using hin
      obtain rfl : k = an2.length := by rw [HKK.out, HA2.out, List.take_of_length_le (by omega)]
      clear HKK
      have HBW : Hid (Below W.heap.size W wr) := hb
      clear hb
      have HKx : Hid (Blk wr w.heap.size (msgC ⟨id, qr, op, aa, tc, rd, ra, z, rc⟩ (.slice x0 qs.length c0) (.slice x1 an.length c1) (.slice x2 ns.length c2) (.slice x3 ar.length c3)) 27) := HK.out.below HBW.out
      have HAx : Hid (Blk wr ga (msgC ⟨id, qr, op, aa, tc, rd, ra, z, rc⟩ (.slice y10 qs.length k10) (.slice y11 an2.length k11) (.slice y12 ns2.length k12) (.slice y13 ar2.length k13)) 27) := HA.out.below HBW.out
      obtain ⟨e0, e1, e2, e3, e4, e5, e6, e7, e8, e9, e10, e11, e12⟩ := blk13 (h := ⟨id, qr, op, aa, tc, rd, ra, z, rc⟩) (HKx.out); simp only at e0 e1 e2 e3 e4 e5 e6 e7 e8
      obtain ⟨a0, a1, a2, a3, a4, a5, a6, a7, a8, a9, a10, a11, a12⟩ := blk13 (h := ⟨id, qr, op, aa, tc, rd, ra, z, rc⟩) (HAx.out); simp only at a0 a1 a2 a3 a4 a5 a6 a7 a8
      go_wp2_with (first
        | (go_at_call 8; have _t := t1; go_must (refine (filter_any d id qr op aa tc rd ra z rc qs an2 ns2 ar2 _ _ _ _ _ jd jq jo ja jt jr jv jz jc qs3 an3 ns3 ar3 E (HR1.out.1.below HBW.out) (HR1.out.2.1.below HBW.out) (HR1.out.2.2.1.below HBW.out) (HR1.out.2.2.2.1.below HBW.out) HFA.out hd HM2.out HE.out).mono ?_); rintro e w4 ⟨y20, y21, y22, y23, k20, k21, k22, k23, rfl, ow, bb⟩; have HR2 : Hid (MR w4 (.slice y20 qs3.length k20) (.slice y21 an3.length k21) (.slice y22 ns3.length k22) (.slice y23 ar3.length k23) ⟨⟨jd, jq, jo, ja, jt, jr, jv, jz, jc⟩, qs3, an3, ns3, ar3⟩) := ow.mr HFB.out; replace HBW : Hid (Below W.heap.size W w4) := next HBW.out bb; clear e0 e1 e2 e3 e4 e5 e6 e7 e8 e9 e10 e11 e12 a0 a1 a2 a3 a4 a5 a6 a7 a8 a9 a10 a11 a12; have HKx2 : Hid (Blk (w4.alloc (.cells #[.int .i64 jd, .bool jq, .int .i64 jo, .bool ja, .bool jt, .bool jr, .bool jv, .int .i64 jz, .int .i64 jc, .slice y20 qs3.length k20, .slice y21 an3.length k21, .slice y22 ns3.length k22, .slice y23 ar3.length k23] 27)) w.heap.size (msgC ⟨id, qr, op, aa, tc, rd, ra, z, rc⟩ (.slice x0 qs.length c0) (.slice x1 an.length c1) (.slice x2 ns.length c2) (.slice x3 ar.length c3)) 27) := (HK.out.below HBW.out).alloc _; obtain ⟨e0, e1, e2, e3, e4, e5, e6, e7, e8, e9, e10, e11, e12⟩ := blk13 (h := ⟨id, qr, op, aa, tc, rd, ra, z, rc⟩) (HKx2.out); simp only at e0 e1 e2 e3 e4 e5 e6 e7 e8; clear ow bb t1 _t HKx2)
        | (go_at_call 8; have _t := t2; go_must (refine (filter_any d id qr op aa tc rd ra z rc qs an ns ar _ _ _ _ _ ld lq lo la lt lr lv lz lc qs4 an4 ns4 ar4 E (H0.out.below (next HB.out (lay HBW.out _))) (H1.out.below (next HB.out (lay HBW.out _))) (H2.out.below (next HB.out (lay HBW.out _))) (H3.out.below (next HB.out (lay HBW.out _))) HFT.out hd HM3.out HE.out).mono ?_); rintro e w5 ⟨y30, y31, y32, y33, k30, k31, k32, k33, rfl, ow, bb⟩; have hbx : Below w4.heap.size w4 w5 := next (lay (Below.refl _ _) _) bb; have HBk : Hid (Blk w5 w4.heap.size (msgC ⟨jd, jq, jo, ja, jt, jr, jv, jz, jc⟩ (.slice y20 qs3.length k20) (.slice y21 an3.length k21) (.slice y22 ns3.length k22) (.slice y23 ar3.length k23)) 27) := (Blk.new w4 _ _).below bb; replace HR2 : Hid (MR w5 (.slice y20 qs3.length k20) (.slice y21 an3.length k21) (.slice y22 ns3.length k22) (.slice y23 ar3.length k23) ⟨⟨jd, jq, jo, ja, jt, jr, jv, jz, jc⟩, qs3, an3, ns3, ar3⟩) := HR2.out.below hbx; replace HBW : Hid (Below W.heap.size W w5) := next HBW.out hbx; clear e0 e1 e2 e3 e4 e5 e6 e7 e8 e9 e10 e11 e12; have HKx2 : Hid (Blk (w5.alloc (.cells #[.int .i64 ld, .bool lq, .int .i64 lo, .bool la, .bool lt, .bool lr, .bool lv, .int .i64 lz, .int .i64 lc, .slice y30 qs4.length k30, .slice y31 an4.length k31, .slice y32 ns4.length k32, .slice y33 ar4.length k33] 27)) w.heap.size (msgC ⟨id, qr, op, aa, tc, rd, ra, z, rc⟩ (.slice x0 qs.length c0) (.slice x1 an.length c1) (.slice x2 ns.length c2) (.slice x3 ar.length c3)) 27) := (HK.out.below HBW.out).alloc _; have HAx2 : Hid (Blk (w5.alloc (.cells #[.int .i64 ld, .bool lq, .int .i64 lo, .bool la, .bool lt, .bool lr, .bool lv, .int .i64 lz, .int .i64 lc, .slice y30 qs4.length k30, .slice y31 an4.length k31, .slice y32 ns4.length k32, .slice y33 ar4.length k33] 27)) ga (msgC ⟨id, qr, op, aa, tc, rd, ra, z, rc⟩ (.slice y10 qs.length k10) (.slice y11 an2.length k11) (.slice y12 ns2.length k12) (.slice y13 ar2.length k13)) 27) := (HA.out.below HBW.out).alloc _; obtain ⟨e0, e1, e2, e3, e4, e5, e6, e7, e8, e9, e10, e11, e12⟩ := blk13 (h := ⟨id, qr, op, aa, tc, rd, ra, z, rc⟩) (HKx2.out); simp only at e0 e1 e2 e3 e4 e5 e6 e7 e8; obtain ⟨a0, a1, a2, a3, a4, a5, a6, a7, a8, a9, a10, a11, a12⟩ := blk13 (h := ⟨id, qr, op, aa, tc, rd, ra, z, rc⟩) (HAx2.out); simp only at a0 a1 a2 a3 a4 a5 a6 a7 a8; clear ow bb hbx t2 _t HKx2 HAx2)
        | (go_at_call 16; go_must (refine (sameQ_yes _ _ qs _ (HR1.out.1.below (lay HBW.out _)) (H0.out.below (next HB.out (lay HBW.out _))) hlQ.out).mono ?_); rintro e w6 ⟨rfl, bb⟩; replace HBW : Hid (Below W.heap.size W w6) := next (lay HBW.out _) bb; clear e0 e1 e2 e3 e4 e5 e6 e7 e8 e9 e10 e11 e12 a0 a1 a2 a3 a4 a5 a6 a7 a8 a9 a10 a11 a12 bb)
        | (go_at_call 15; go_must (refine (refAbove_as' c d false _ hc hd HV.out).mono ?_); rintro e w7 ⟨rfl, bb⟩; replace HBW : Hid (Below W.heap.size W w7) := next HBW.out bb; clear bb)
        | (go_at_call 11; refine (num_any _ _).mono ?_; rintro e w' ⟨rfl, hw⟩; obtain rfl := hw.symm))
      go_ret
      exact ⟨rfl, next HB.out HBW.out⟩

set_option maxRecDepth 20000 in
set_option maxHeartbeats 4000000 in
theorem w_no (id : Int) (qr : Bool) (op : Int) (aa tc rd ra : Bool) (z rc : Int) (qs : List Qn) (an ns ar : List Rc) (x0 x1 x2 x3 : Option Addr) (c0 c1 c2 c3 : Nat) (c d : ByteArray) (w : World) (h0 : Row w (.slice x0 qs.length c0) qs.length (qC qs)) (h1 : Row w (.slice x1 an.length c1) an.length (rC an)) (h2 : Row w (.slice x2 ns.length c2) ns.length (rC ns)) (h3 : Row w (.slice x3 ar.length c3) ar.length (rC ar)) (hc : c.size ≤ maxLen) (hn : isName c.data.toList = false) :
    Calls Try.prog 4 #[.agg #[.int .i64 id, .bool qr, .int .i64 op, .bool aa, .bool tc, .bool rd, .bool ra, .int .i64 z, .int .i64 rc, .slice x0 qs.length c0, .slice x1 an.length c1, .slice x2 ns.length c2, .slice x3 ar.length c3], .string c, .string d] w fun e w' => e = .returned (.bool true) ∧ Below w.heap.size w w' := by
  have H0 : Hid (Row w (.slice x0 qs.length c0) qs.length (qC qs)) := h0
  have H1 : Hid (Row w (.slice x1 an.length c1) an.length (rC an)) := h1
  have H2 : Hid (Row w (.slice x2 ns.length c2) ns.length (rC ns)) := h2
  have H3 : Hid (Row w (.slice x3 ar.length c3) ar.length (rC ar)) := h3
  have hb : Below w.heap.size w w := Below.refl _ _
  have KM0 : Hid (∀ u, Below (w.alloc (.cells #[.int .i64 id, .bool qr, .int .i64 op, .bool aa, .bool tc, .bool rd, .bool ra, .int .i64 z, .int .i64 rc, .slice x0 qs.length c0, .slice x1 an.length c1, .slice x2 ns.length c2, .slice x3 ar.length c3] 27)).heap.size (w.alloc (.cells #[.int .i64 id, .bool qr, .int .i64 op, .bool aa, .bool tc, .bool rd, .bool ra, .int .i64 z, .int .i64 rc, .slice x0 qs.length c0, .slice x1 an.length c1, .slice x2 ns.length c2, .slice x3 ar.length c3] 27)) u → Blk u w.heap.size (msgC ⟨id, qr, op, aa, tc, rd, ra, z, rc⟩ (.slice x0 qs.length c0) (.slice x1 an.length c1) (.slice x2 ns.length c2) (.slice x3 ar.length c3)) 27) := fun u hu => (Blk.new w _ _).below hu
  clear h0 h1 h2 h3
  go_enter Try.func4, Try.ntmps4
  go_wp2_with (first
    | (go_at_call 13; go_must (refine (awake_any _).mono ?_); rintro e w1 ⟨rfl, bb⟩; have HK : Hid (Blk w1 w.heap.size (msgC ⟨id, qr, op, aa, tc, rd, ra, z, rc⟩ (.slice x0 qs.length c0) (.slice x1 an.length c1) (.slice x2 ns.length c2) (.slice x3 ar.length c3)) 27) := KM0.out _ bb; have HB : Hid (Below w.heap.size w w1) := next (lay hb _) bb; obtain ⟨e0, e1, e2, e3, e4, e5, e6, e7, e8, e9, e10, e11, e12⟩ := blk13 (h := ⟨id, qr, op, aa, tc, rd, ra, z, rc⟩) (HK.out); simp only at e0 e1 e2 e3 e4 e5 e6 e7 e8; clear bb hb KM0)
    | (go_at_call 8; go_must (refine (filter_no c id qr op aa tc rd ra z rc qs an ns ar _ _ _ _ _ (H0.out.below HB.out) (H1.out.below HB.out) (H2.out.below HB.out) (H3.out.below HB.out) hc hn).mono ?_); rintro e w2 ⟨rfl, bb⟩; replace HB : Hid (Below w.heap.size w w2) := next HB.out bb; clear e0 e1 e2 e3 e4 e5 e6 e7 e8 e9 e10 e11 e12 bb)
    | (go_at_call 14; go_must (refine (refMay_as c false _ hc hn).mono ?_); rintro e w3 ⟨rfl, bb⟩; replace HB : Hid (Below w.heap.size w w3) := next (lay HB.out _) bb; clear bb)
    | (go_at_call 11; refine (num_any _ _).mono ?_; rintro e w' ⟨rfl, hw⟩; obtain rfl := hw.symm))
  go_ret
  exact ⟨rfl, HB.out⟩

theorem walk (m : Ms) (v0 v1 v2 v3 : Value) (c d : ByteArray) (hc : c.size ≤ maxLen) (hd : d.size ≤ maxLen) (hF : Fits m) (_hz : c.size ≤ 140737488351232) (_hy : d.size ≤ 140737488351232) (w : World) (h0 : Row w v0 m.qs.length (qC m.qs)) (h1 : Row w v1 m.an.length (rC m.an)) (h2 : Row w v2 m.ns.length (rC m.ns)) (h3 : Row w v3 m.ar.length (rC m.ar)) :
    Calls Try.prog 4 #[.agg (msgC m.h v0 v1 v2 v3), .string c, .string d] w fun e w' => e = .returned (.bool true) ∧ Below w.heap.size w w' := by
  obtain ⟨⟨id, qr, op, aa, tc, rd, ra, z, rc⟩, qs, an, ns, ar⟩ := m
  obtain ⟨x0, c0, rfl⟩ := row_slice h0
  obtain ⟨x1, c1, rfl⟩ := row_slice h1
  obtain ⟨x2, c2, rfl⟩ := row_slice h2
  obtain ⟨x3, c3, rfl⟩ := row_slice h3
  cases hn : isName c.data.toList with
  | true =>
    cases hV : aboveB c.data.toList d.data.toList with
    | true => exact w_true id qr op aa tc rd ra z rc qs an ns ar x0 x1 x2 x3 c0 c1 c2 c3 c d w h0 h1 h2 h3 hF hc hd hn hV
    | false => exact w_false id qr op aa tc rd ra z rc qs an ns ar x0 x1 x2 x3 c0 c1 c2 c3 c d w h0 h1 h2 h3 hF hc hd hn hV
  | false => exact w_no id qr op aa tc rd ra z rc qs an ns ar x0 x1 x2 x3 c0 c1 c2 c3 c d w h0 h1 h2 h3 hc hn

theorem own : ownKnob Try.prog.godebug = none := by kernel_rfl
theorem laidOut : laidOutB Try.prog = true := by kernel_rfl

set_option maxRecDepth 100000 in
theorem lifted (os : Os) (started : os.Started) (H : Type) (enc : TypeId × Value → H) :
    ReturnsInHanded {} Try.checked os 4 .any (Rows.filterBoundsSpec.pre6 enc Try.prog Try.f4 Rows.filterBoundsRow.domain false) (Rows.filterBoundsSpec.post enc Try.prog Try.f4 false true false false) := by
  refine returnsInHanded_of_change_sized (C := Try.checked) own started (by kernel_rfl) Try.func4
    (ChangeSpec.witness6 (enc := enc) (C := Try.checked) false ⟨#[], #[.agg (msgC hdZ (.slice none 0 0) (.slice none 0 0) (.slice none 0 0) (.slice none 0 0)), .string ByteArray.empty, .string ByteArray.empty], []⟩ 8 (by kernel_rfl) (by kernel_rfl) (by kernel_rfl) (by kernel_rfl)) ?_
  intro W base args ds gs before hval0 hW _ hsz0 _
  have hval : ∀ (j : Nat) t v, Try.f4.params[j]? = some t → args[j]? = some v → Value.okWide Try.prog W .any base t v := hval0
  have hsz : (DataW.weightsEach Try.prog (Try.f4.params.toList ++ Rows.filterBoundsSpec.plain.varTypes Try.prog) (ds ++ gs)).all (· ≤ reachBytes) = true := hsz0
  have hW' := hW
  obtain ⟨p, q, hA0, hV, rfl, hfz, hnd⟩ := hW
  have hA : DataW.TrodAll enc Try.prog W 0 (fun _ => true) true Try.f4.params.toList args.toList ds p := hA0
  rw [Try.params4] at hA hval hsz
  obtain ⟨v0, vs0, d0, ds0, p0, q0, hargs, rfl, rfl, h0, r0⟩ := trodAll_cons hA
  obtain ⟨v1, vs1, d1, ds1, p1, q1, rfl, rfl, rfl, h1, r1⟩ := trodAll_cons r0
  obtain ⟨v2, vs2, d2, ds2, p2, q2, rfl, rfl, rfl, h2, r2⟩ := trodAll_cons r1
  obtain ⟨rfl, rfl, rfl⟩ := trodAll_nil r2
  obtain rfl : args = #[v0, v1, v2] := by cases args; simp_all
  obtain ⟨rfl, rfl⟩ := trodVars_none hV
  obtain ⟨a0, b00, b01, b02, b03, rfl, w00, w01, w02, w03, z0⟩ := open_mfar (hval 0 27 v0 rfl rfl) h0 (weights_all hsz (j := 0) rfl rfl)
  obtain ⟨a1, rfl, rfl, rfl, w1⟩ := open_string Try.underlying9 (hval 1 9 v1 rfl rfl) h1
  obtain ⟨a2, rfl, rfl, rfl, w2⟩ := open_string Try.underlying9 (hval 2 9 v2 rfl rfl) h2
  have hlt0 : ∀ x ∈ p0, x.block < W.heap.size := fun x hx => by
    have := hW'.lt x (by simp [hx])
    simpa using this
  have z1 : a1.size ≤ 140737488351232 := by have := sized_string hsz (j := 1) (t := 9) rfl rfl; rw [data_len] at this; unfold reachBytes at this; omega
  have z2 : a2.size ≤ 140737488351232 := by have := sized_string hsz (j := 2) (t := 9) rfl rfl; rw [data_len] at this; unfold reachBytes at this; omega
  clear hA0 hval0 hsz0 hsz
  simp only [List.append_nil] at hW'
  refine (walk a0 b00 b01 b02 b03 a1 a2 w1 w2 z0 z1 z2 W w00 w01 w02 w03).mono fun e W' ⟨he, bel⟩ => ?_
  subst he
  exact ⟨_, rfl, _, _, _, [], _, [], hW', trodAll_mk1 (shut_bool Try.underlying4 _), (trodAll_cons_mk (Below.trod laidOut (by kernel_rfl) (of_decide_eq_true (by kernel_rfl)) h0 bel hlt0) (trodAll_cons_mk (shut_string Try.underlying9 w1) (trodAll_cons_mk (shut_string Try.underlying9 w2) trodAll_mk0))), rfl, bel.frame _, fun h => by cases h⟩

/-- The statement. -/
theorem proved : Rows.FilterBoundsSaid :=
  OpenClaim.holds_of_wide 4 Try.f4 rfl rfl rfl rfl rfl rfl rfl ⟨rfl, rfl, rfl, rfl, rfl⟩ rfl rfl rfl rfl rfl (by kernel_rfl) Try.func4 (by kernel_rfl)
    (of_decide_eq_true (by kernel_rfl)) (by unfold Func.isWrapper; first | (rw [if_pos (by decide +kernel)]; kernel_rfl) | (rw [if_neg (by decide +kernel)]; exact ⟨rfl, rfl⟩))
    (fun os started H enc _ => lifted os started H enc)
#print axioms proved

end Go.Proofs.Ytnecdpieoipjdaa.filterBounds
