/- FilterRoot holds: for every message, under the root what has the class IN and a name is left, and no more is left under a name than is beneath it. -/
import Derived.Test.YtnecdpieoipjdaaBaH
import Derived.ProofKit
import Derived.Deep.QuietTactic
import Derived.BigQuiet
import Derived.OpenShut
import Derived.ShutString
import Derived.SizedLaws
namespace Go.Proofs.Ytnecdpieoipjdaa.filterRoot
open Go.ChangeShapes Go.WideShapes Go.ChangeAt Go.RowKit
open Go.ChangeMaps (open_string shut_string)
open Pl

theorem r_at {w : World} {g o cap : Nat} {xs : List Rc} (h : Row w (.slice (some ⟨g, o, none⟩) xs.length cap) xs.length (rC xs)) {k : Nat} (hk : k < xs.length) :
    w.cell? ⟨g, o + k * 5, none⟩ = some (.string xs[k].n) ∧ w.cell? ⟨g, o + k * 5 + 1, none⟩ = some (.int .i64 xs[k].t) ∧ w.cell? ⟨g, o + k * 5 + 2, none⟩ = some (.int .i64 xs[k].c) ∧ w.cell? ⟨g, o + k * 5 + 3, none⟩ = some (.int .i64 xs[k].l) ∧ w.cell? ⟨g, o + k * 5 + 4, none⟩ = some (.string xs[k].d) := by
  obtain ⟨g', o', cap', hx, hc⟩ := row_at h (by omega)
  simp only [Value.slice.injEq, Option.some.injEq, Addr.mk.injEq] at hx
  obtain ⟨⟨rfl, rfl, -⟩, -, -⟩ := hx
  exact r_cells hc hk
theorem row_some {w : World} {x : Option Addr} {n c : Nat} {xs : List Value} (h : Row w (.slice x n c) n xs) (hn : 0 < n) : ∃ g o, x = some ⟨g, o, none⟩ := by
  obtain ⟨g, o, cap, hx, -⟩ := row_at h hn
  simp only [Value.slice.injEq] at hx
  exact ⟨g, o, hx.1⟩
theorem refAbove_as' (a b : ByteArray) (v : Bool) (w : World) (ha : a.size ≤ maxLen) (hb : b.size ≤ maxLen) (h : aboveB a.data.toList b.data.toList = v) :
    Calls Try.prog 15 #[.string a, .string b] w fun e w' => e = .returned (.bool v) ∧ Below w.heap.size w w' := by rw [← h]; exact refAbove_any a b w ha hb
theorem kp_two {c : List UInt8} {rs : List Rc} {i k : Nat} (hi : i < rs.length) (h : kpB c rs[i] = true) (hk : k = (kpL c (rs.take i)).length) {L : List Rc} (hL : L = kpL c rs) : ∃ hl : k < L.length, L[k] = rs[i] := by
  subst hL
  have := kpL_at hi h
  rw [← hk] at this
  obtain ⟨hl, he⟩ := List.getElem?_eq_some_iff.1 this
  exact ⟨hl, he⟩
/-- The name that nothing is beneath, in the statement. -/
def nbL : List UInt8 := [15, 110, 111, 98, 111, 100, 121, 45, 105, 115, 45, 116, 104, 101, 114, 101, 0]
theorem nb_name : isName nbL = true := by kernel_rfl
theorem rt_name : isName ([0] : List UInt8) = true := by kernel_rfl
/-- How many records are beneath it. -/
def cntA (rs : List Rc) : Nat := (rs.filter (fun r => aboveB nbL r.n.data.toList)).length
theorem cntA_yes {rs : List Rc} {k : Nat} (hk : k < rs.length) (h : aboveB nbL rs[k].n.data.toList = true) : cntA (rs.take (k + 1)) = cntA (rs.take k) + 1 := by
  unfold cntA
  rw [List.take_succ_eq_append_getElem hk, List.filter_append, List.length_append]
  simp [h]
theorem cntA_no {rs : List Rc} {k : Nat} (hk : k < rs.length) (h : aboveB nbL rs[k].n.data.toList = false) : cntA (rs.take (k + 1)) = cntA (rs.take k) := by
  unfold cntA
  rw [List.take_succ_eq_append_getElem hk, List.filter_append, List.length_append]
  simp [h]
theorem cntA_to (rs : List Rc) (k : Nat) : cntA (rs.take k) ≤ k := by
  refine Nat.le_trans (List.length_filter_le _ _) ?_
  rw [List.length_take]
  omega
theorem kp_cnt (rs : List Rc) : (kpL nbL rs).length ≤ cntA rs := by
  unfold kpL cntA
  induction rs with
  | nil => simp
  | cons r rs ih =>
    rw [List.filter_cons, List.filter_cons]
    by_cases h : kpB nbL r = true
    · have h2 : aboveB nbL r.n.data.toList = true := by unfold kpB at h; rw [Bool.and_eq_true] at h; exact h.2
      rw [if_pos h, if_pos h2]
      simp only [List.length_cons]
      omega
    · rw [if_neg h]
      split
      · simp only [List.length_cons]; omega
      · exact ih
theorem aboveNb (s : ByteArray) (v : Bool) (w : World) (hs : s.size ≤ maxLen) (h : aboveB nbL s.data.toList = v) :
    Calls Try.prog 15 #[.string ⟨#[15, 110, 111, 98, 111, 100, 121, 45, 105, 115, 45, 116, 104, 101, 114, 101, 0]⟩, .string s] w fun e w' => e = .returned (.bool v) ∧ Below w.heap.size w w' := refAbove_as' _ s v w (by decide) hs h

set_option maxRecDepth 20000 in
set_option maxHeartbeats 8000000 in
theorem w_all (id : Int) (qr : Bool) (op : Int) (aa tc rd ra : Bool) (z rc : Int) (qs : List Qn) (an ns ar : List Rc) (x0 x1 x2 x3 : Option Addr) (c0 c1 c2 c3 : Nat) (w : World) (h0 : Row w (.slice x0 qs.length c0) qs.length (qC qs)) (h1 : Row w (.slice x1 an.length c1) an.length (rC an)) (h2 : Row w (.slice x2 ns.length c2) ns.length (rC ns)) (h3 : Row w (.slice x3 ar.length c3) ar.length (rC ar)) (hF : Fits ⟨⟨id, qr, op, aa, tc, rd, ra, z, rc⟩, qs, an, ns, ar⟩) :
    Calls Try.prog 5 #[.agg #[.int .i64 id, .bool qr, .int .i64 op, .bool aa, .bool tc, .bool rd, .bool ra, .int .i64 z, .int .i64 rc, .slice x0 qs.length c0, .slice x1 an.length c1, .slice x2 ns.length c2, .slice x3 ar.length c3]] w fun e w' => e = .returned (.bool true) ∧ Below w.heap.size w w' := by
  have H0 : Hid (Row w (.slice x0 qs.length c0) qs.length (qC qs)) := h0
  have H1 : Hid (Row w (.slice x1 an.length c1) an.length (rC an)) := h1
  have H2 : Hid (Row w (.slice x2 ns.length c2) ns.length (rC ns)) := h2
  have H3 : Hid (Row w (.slice x3 ar.length c3) ar.length (rC ar)) := h3
  obtain ⟨an2, hA2⟩ : ∃ x, x = kpL [0] an := ⟨_, rfl⟩
  obtain ⟨ns2, hN2⟩ : ∃ x, x = kpL [0] ns := ⟨_, rfl⟩
  obtain ⟨ar2, hR2⟩ : ∃ x, x = kpL [0] ar := ⟨_, rfl⟩
  obtain ⟨an3, hA3⟩ : ∃ x, x = kpL nbL an := ⟨_, rfl⟩
  obtain ⟨ns3, hN3⟩ : ∃ x, x = kpL nbL ns := ⟨_, rfl⟩
  obtain ⟨ar3, hR3⟩ : ∃ x, x = kpL nbL ar := ⟨_, rfl⟩
  have HM1 : Hid (⟨⟨id, qr, op, aa, tc, rd, ra, z, rc⟩, qs, an2, ns2, ar2⟩ = fM [0] ⟨⟨id, qr, op, aa, tc, rd, ra, z, rc⟩, qs, an, ns, ar⟩) := by unfold Hid; rw [fM_yes rt_name, hA2, hN2, hR2]; rfl
  have HM2 : Hid (⟨⟨id, qr, op, aa, tc, rd, ra, z, rc⟩, qs, an3, ns3, ar3⟩ = fM nbL ⟨⟨id, qr, op, aa, tc, rd, ra, z, rc⟩, qs, an, ns, ar⟩) := by unfold Hid; rw [fM_yes nb_name, hA3, hN3, hR3]; rfl
  have HM3 : Hid (⟨⟨id, qr, op, aa, tc, rd, ra, z, rc⟩, qs, an2, ns2, ar2⟩ = fM [0] ⟨⟨id, qr, op, aa, tc, rd, ra, z, rc⟩, qs, an2, ns2, ar2⟩) := by
    unfold Hid
    rw [fM_yes rt_name]
    simp only [kpM, hA2, hN2, hR2, kpL_twice]
  have HN2 : Hid (ns2 = kpL [0] ns) := hN2
  have hle : ar3.length ≤ cntA ar := by rw [hR3]; exact kp_cnt ar
  have HLE : Hid (ar3.length ≤ cntA ar) := hle
  have HE : Hid ((0 : Int) = fE [0]) := (fE_yes rt_name).symm
  have HE2 : Hid ((0 : Int) = fE nbL) := (fE_yes nb_name).symm
  have HFT : Hid (Fits ⟨⟨id, qr, op, aa, tc, rd, ra, z, rc⟩, qs, an, ns, ar⟩) := hF
  have HFA : Hid (Fits ⟨⟨id, qr, op, aa, tc, rd, ra, z, rc⟩, qs, an2, ns2, ar2⟩) := by unfold Hid; rw [HM1.out]; exact hF.fm _
  have HFB : Hid (Fits ⟨⟨id, qr, op, aa, tc, rd, ra, z, rc⟩, qs, an3, ns3, ar3⟩) := by unfold Hid; rw [HM2.out]; exact hF.fm _
  have HNM : Hid (∀ r ∈ ns, r.n.size ≤ maxLen) := fun r hr => Nat.le_trans (hF.sns r hr).1 (by unfold maxLen; omega)
  have HNR : Hid (∀ r ∈ ar, r.n.size ≤ maxLen) := fun r hr => Nat.le_trans (hF.sar r hr).1 (by unfold maxLen; omega)
  have hlA : ns.length ≤ 9223372036854775806 := by have := hF.ns; simp only at this; omega
  have hlR : ar.length ≤ 9223372036854775806 := by have := hF.ar; simp only at this; omega
  have hb : Below w.heap.size w w := Below.refl _ _
  have KM0 : Hid (∀ u, Below (w.alloc (.cells #[.int .i64 id, .bool qr, .int .i64 op, .bool aa, .bool tc, .bool rd, .bool ra, .int .i64 z, .int .i64 rc, .slice x0 qs.length c0, .slice x1 an.length c1, .slice x2 ns.length c2, .slice x3 ar.length c3] 27)).heap.size (w.alloc (.cells #[.int .i64 id, .bool qr, .int .i64 op, .bool aa, .bool tc, .bool rd, .bool ra, .int .i64 z, .int .i64 rc, .slice x0 qs.length c0, .slice x1 an.length c1, .slice x2 ns.length c2, .slice x3 ar.length c3] 27)) u → Blk u w.heap.size (msgC ⟨id, qr, op, aa, tc, rd, ra, z, rc⟩ (.slice x0 qs.length c0) (.slice x1 an.length c1) (.slice x2 ns.length c2) (.slice x3 ar.length c3)) 27) := fun u hu => (Blk.new w _ _).below hu
  clear h0 h1 h2 h3 hF hA2 hN2 hR2 hA3 hN3 hR3 hle
  have t1 : True := trivial
  have t2 : True := trivial
  go_enter Try.func5, Try.ntmps5
  go_wp2_with (first
    | (go_at_call 13; go_must (refine (awake_any _).mono ?_); rintro e w1 ⟨rfl, bb⟩; have HK : Hid (Blk w1 w.heap.size (msgC ⟨id, qr, op, aa, tc, rd, ra, z, rc⟩ (.slice x0 qs.length c0) (.slice x1 an.length c1) (.slice x2 ns.length c2) (.slice x3 ar.length c3)) 27) := KM0.out _ bb; have HB : Hid (Below w.heap.size w w1) := next (lay hb _) bb; obtain ⟨e0, e1, e2, e3, e4, e5, e6, e7, e8, e9, e10, e11, e12⟩ := blk13 (h := ⟨id, qr, op, aa, tc, rd, ra, z, rc⟩) (HK.out); simp only at e0 e1 e2 e3 e4 e5 e6 e7 e8; clear bb hb KM0)
    | (go_at_call 8; go_must (refine (filter_any ⟨#[0]⟩ id qr op aa tc rd ra z rc qs an ns ar _ _ _ _ _ id qr op aa tc rd ra z rc qs an2 ns2 ar2 0 (H0.out.below HB.out) (H1.out.below HB.out) (H2.out.below HB.out) (H3.out.below HB.out) HFT.out (by decide) HM1.out HE.out).mono ?_); rintro e w2 ⟨y10, y11, y12, y13, k10, k11, k12, k13, rfl, ow, bb⟩; have HR1 : Hid (MR (w2.alloc (.cells #[.int .i64 id, .bool qr, .int .i64 op, .bool aa, .bool tc, .bool rd, .bool ra, .int .i64 z, .int .i64 rc, .slice y10 qs.length k10, .slice y11 an2.length k11, .slice y12 ns2.length k12, .slice y13 ar2.length k13] 27)) (.slice y10 qs.length k10) (.slice y11 an2.length k11) (.slice y12 ns2.length k12) (.slice y13 ar2.length k13) ⟨⟨id, qr, op, aa, tc, rd, ra, z, rc⟩, qs, an2, ns2, ar2⟩) := (ow.mr HFA.out).below (lay (Below.refl _ _) _); replace HK : Hid (Blk (w2.alloc (.cells #[.int .i64 id, .bool qr, .int .i64 op, .bool aa, .bool tc, .bool rd, .bool ra, .int .i64 z, .int .i64 rc, .slice y10 qs.length k10, .slice y11 an2.length k11, .slice y12 ns2.length k12, .slice y13 ar2.length k13] 27)) w.heap.size (msgC ⟨id, qr, op, aa, tc, rd, ra, z, rc⟩ (.slice x0 qs.length c0) (.slice x1 an.length c1) (.slice x2 ns.length c2) (.slice x3 ar.length c3)) 27) := (HK.out.below bb).alloc _; replace HB : Hid (Below w.heap.size w (w2.alloc (.cells #[.int .i64 id, .bool qr, .int .i64 op, .bool aa, .bool tc, .bool rd, .bool ra, .int .i64 z, .int .i64 rc, .slice y10 qs.length k10, .slice y11 an2.length k11, .slice y12 ns2.length k12, .slice y13 ar2.length k13] 27))) := lay (next HB.out bb) _; have HA : Hid (Blk (w2.alloc (.cells #[.int .i64 id, .bool qr, .int .i64 op, .bool aa, .bool tc, .bool rd, .bool ra, .int .i64 z, .int .i64 rc, .slice y10 qs.length k10, .slice y11 an2.length k11, .slice y12 ns2.length k12, .slice y13 ar2.length k13] 27)) w2.heap.size (msgC ⟨id, qr, op, aa, tc, rd, ra, z, rc⟩ (.slice y10 qs.length k10) (.slice y11 an2.length k11) (.slice y12 ns2.length k12) (.slice y13 ar2.length k13)) 27) := Blk.new w2 _ _; clear e0 e1 e2 e3 e4 e5 e6 e7 e8 e9 e10 e11 e12 ow bb))
  revert HR1 HK HB HA
  generalize hWe : (w2.alloc (.cells #[.int .i64 id, .bool qr, .int .i64 op, .bool aa, .bool tc, .bool rd, .bool ra, .int .i64 z, .int .i64 rc, .slice y10 qs.length k10, .slice y11 an2.length k11, .slice y12 ns2.length k12, .slice y13 ar2.length k13] 27)) = W
  obtain ⟨ga, hga⟩ : ∃ g, g = w2.heap.size := ⟨_, rfl⟩
  rw [← hga]
  intro HR1 HK HB HA
  clear hWe hga
  go_loopw [5, 6] (fun t9 t10 wr => ∃ (k i : Nat), i ≤ ns.length ∧ t10 = .int .i64 (i : Int) ∧ t9 = .int .i64 (k : Int) ∧ k = (kpL [0] (ns.take i)).length ∧ Below W.heap.size W wr) (fun _ t10 _ => ns.length - (intOf t10).toNat)
  case atStart => exact ⟨0, 0, Nat.zero_le _, rfl, rfl, by simp [kpL], Below.refl _ _⟩
  case round =>
    obtain ⟨k, i, hi, rfl, rfl, hk, hb⟩ := hrel
    have HKK : Hid (k = (kpL [0] (ns.take i)).length) := hk
    clear hk
    by_cases hin : i < ns.length
    · have hin' : (i : Int) < (ns.length : Int) := by omega
      have hkl : k ≤ i := by rw [HKK.out]; exact kpL_to _ _ _
      have HBW : Hid (Below W.heap.size W wr) := hb
      clear hb
      have HK2 : Hid (Blk wr w.heap.size (msgC ⟨id, qr, op, aa, tc, rd, ra, z, rc⟩ (.slice x0 qs.length c0) (.slice x1 an.length c1) (.slice x2 ns.length c2) (.slice x3 ar.length c3)) 27) := HK.out.below HBW.out
      have HA3 : Hid (Blk wr ga (msgC ⟨id, qr, op, aa, tc, rd, ra, z, rc⟩ (.slice y10 qs.length k10) (.slice y11 an2.length k11) (.slice y12 ns2.length k12) (.slice y13 ar2.length k13)) 27) := HA.out.below HBW.out
      obtain ⟨e0, e1, e2, e3, e4, e5, e6, e7, e8, e9, e10, e11, e12⟩ := blk13 (h := ⟨id, qr, op, aa, tc, rd, ra, z, rc⟩) (HK2.out); simp only at e0 e1 e2 e3 e4 e5 e6 e7 e8
      obtain ⟨g, o, rfl⟩ := row_some H2.out (by omega)
      have HC : Hid (∀ u, Below W.heap.size W u → _) := fun u hu => r_at (H2.out.below (next HB.out hu)) hin
      have HZ : Hid (ns[i].n.size ≤ maxLen) := HNM.out _ (List.getElem_mem hin)
      have HTw : Hid (∀ _ : kpB [0] ns[i] = true, ∃ hl : k < ns2.length, ns2[k] = ns[i]) := fun h => kp_two hin h HKK.out HN2.out
      have HY : Hid (kpB [0] ns[i] = true → (kpL [0] (ns.take (i + 1))).length = k + 1) := fun h => by rw [kpL_yes hin h, List.length_append, ← HKK.out]; rfl
      have HNo : Hid (kpB [0] ns[i] = false → (kpL [0] (ns.take (i + 1))).length = k) := fun h => by rw [kpL_no hin h, ← HKK.out]
      obtain ⟨r, hr⟩ : ∃ r, r = ns[i] := ⟨_, rfl⟩
      unfold Hid at HC HZ HTw HY HNo
      simp only [← hr] at HC HZ HTw HY HNo
      clear hr
      obtain ⟨fn, ft, fc, fl, fd⟩ := r
      simp only at HC HZ
      obtain ⟨d0, d1, d2, d3, d4⟩ := HC _ HBW.out
      have HCh : Hid _ := HC
      clear HC
      by_cases hcl : fc = 1
      · subst hcl
        cases hab : isName fn.data.toList with
        | false =>
          have HQ : Hid (kpB [0] ⟨fn, ft, 1, fl, fd⟩ = false) := by unfold Hid; rw [kp_root]; simp only; rw [hab]; simp
          have HL : Hid ((kpL [0] (ns.take (i + 1))).length = k) := HNo HQ.out
          clear HTw HY HNo
          go_wp2_with (go_at_call 14; go_must (refine (refMay_as fn false _ HZ hab).mono ?_); rintro e w3 ⟨rfl, b3⟩; replace HBW : Hid (Below W.heap.size W w3) := next HBW.out b3; clear b3)
          go_roundw
          case rel => exact ⟨k, i + 1, by omega, by go_num, rfl, HL.out.symm, HBW.out⟩
          case measure => simp [intOf]; omega
        | true =>
          have HQ : Hid (kpB [0] ⟨fn, ft, 1, fl, fd⟩ = true) := by unfold Hid; rw [kp_root]; simp only; rw [hab]; simp
          have HL : Hid ((kpL [0] (ns.take (i + 1))).length = k + 1) := HY HQ.out
          obtain ⟨hk2, he2⟩ := HTw HQ.out
          have hk2' : decide (ns2.length ≤ k) = false := by simp; omega
          obtain ⟨g2, o2, rfl⟩ := row_some HR1.out.2.2.1 (Nat.lt_of_le_of_lt (Nat.zero_le _) hk2)
          have HC2 : Hid (∀ u, Below W.heap.size W u → _) := fun u hu => r_at (HR1.out.2.2.1.below hu) hk2
          unfold Hid at HC2
          simp only [he2] at HC2
          have HC2h : Hid _ := HC2
          have hk3 : (k : Int) < (ns2.length : Int) := by omega
          clear HTw HY HNo he2 HC2
          go_wp2_with (go_at_call 14; go_must (refine (refMay_as fn true _ HZ hab).mono ?_); rintro e w3 ⟨rfl, b3⟩; replace HBW : Hid (Below W.heap.size W w3) := next HBW.out b3; clear e0 e1 e2 e3 e4 e5 e6 e7 e8 e9 e10 e11 e12 d0 d1 d2 d3 d4; have HK4 : Hid (Blk w3 w.heap.size (msgC ⟨id, qr, op, aa, tc, rd, ra, z, rc⟩ (.slice x0 qs.length c0) (.slice x1 an.length c1) (.slice (some ⟨g, o, none⟩) ns.length c2) (.slice x3 ar.length c3)) 27) := HK2.out.below b3; have HA4 : Hid (Blk w3 ga (msgC ⟨id, qr, op, aa, tc, rd, ra, z, rc⟩ (.slice y10 qs.length k10) (.slice y11 an2.length k11) (.slice (some ⟨g2, o2, none⟩) ns2.length k12) (.slice y13 ar2.length k13)) 27) := HA3.out.below b3; obtain ⟨e0, e1, e2, e3, e4, e5, e6, e7, e8, e9, e10, e11, e12⟩ := blk13 (h := ⟨id, qr, op, aa, tc, rd, ra, z, rc⟩) (HK4.out); simp only at e0 e1 e2 e3 e4 e5 e6 e7 e8; obtain ⟨a0, a1, a2, a3, a4, a5, a6, a7, a8, a9, a10, a11, a12⟩ := blk13 (h := ⟨id, qr, op, aa, tc, rd, ra, z, rc⟩) (HA4.out); simp only at a0 a1 a2 a3 a4 a5 a6 a7 a8; obtain ⟨d0, d1, d2, d3, d4⟩ := HCh.out _ HBW.out; obtain ⟨f0, f1, f2, f3, f4⟩ := HC2h.out _ HBW.out; clear b3)
          go_quiet (fail)
          go_wp2
          go_roundw
          case rel => exact ⟨k + 1, i + 1, by omega, by go_num, by go_num, HL.out.symm, next HBW.out (below_drew ⟨_, rfl⟩)⟩
          case measure => simp [intOf]; omega
      · have HQ : Hid (kpB [0] ⟨fn, ft, fc, fl, fd⟩ = false) := kp_class hcl
        have HL : Hid ((kpL [0] (ns.take (i + 1))).length = k) := HNo HQ.out
        clear HTw HY HNo
        go_wp2
        go_roundw
        case rel => exact ⟨k, i + 1, by omega, by go_num, rfl, HL.out.symm, HBW.out⟩
        case measure => simp [intOf]; omega
    · have hin' : decide (i < ns.length) = false := by simpa using hin
      obtain rfl : k = ns2.length := by rw [HKK.out, HN2.out, List.take_of_length_le (by omega)]
      clear HKK
      obtain ⟨wE, hwE⟩ : ∃ z, z = wr := ⟨_, rfl⟩
      subst hwE
      have HBW : Hid (Below W.heap.size W wE) := hb
      clear hb
      have HKx : Hid (Blk wE w.heap.size (msgC ⟨id, qr, op, aa, tc, rd, ra, z, rc⟩ (.slice x0 qs.length c0) (.slice x1 an.length c1) (.slice x2 ns.length c2) (.slice x3 ar.length c3)) 27) := HK.out.below HBW.out
      obtain ⟨e0, e1, e2, e3, e4, e5, e6, e7, e8, e9, e10, e11, e12⟩ := blk13 (h := ⟨id, qr, op, aa, tc, rd, ra, z, rc⟩) (HKx.out); simp only at e0 e1 e2 e3 e4 e5 e6 e7 e8
      go_wp2_with (first
        | (go_at_call 8; have _t := t1; go_must (refine (filter_any ⟨#[15, 110, 111, 98, 111, 100, 121, 45, 105, 115, 45, 116, 104, 101, 114, 101, 0]⟩ id qr op aa tc rd ra z rc qs an ns ar _ _ _ _ _ id qr op aa tc rd ra z rc qs an3 ns3 ar3 0 (H0.out.below (next HB.out HBW.out)) (H1.out.below (next HB.out HBW.out)) (H2.out.below (next HB.out HBW.out)) (H3.out.below (next HB.out HBW.out)) HFT.out (by decide) HM2.out HE2.out).mono ?_); rintro e w4 ⟨y20, y21, y22, y23, k20, k21, k22, k23, rfl, ow, bb⟩; replace HBW : Hid (Below W.heap.size W w4) := next HBW.out bb; clear e0 e1 e2 e3 e4 e5 e6 e7 e8 e9 e10 e11 e12; have HAx2 : Hid (Blk (w4.alloc (.cells #[.int .i64 id, .bool qr, .int .i64 op, .bool aa, .bool tc, .bool rd, .bool ra, .int .i64 z, .int .i64 rc, .slice y20 qs.length k20, .slice y21 an3.length k21, .slice y22 ns3.length k22, .slice y23 ar3.length k23] 27)) ga (msgC ⟨id, qr, op, aa, tc, rd, ra, z, rc⟩ (.slice y10 qs.length k10) (.slice y11 an2.length k11) (.slice y12 ns2.length k12) (.slice y13 ar2.length k13)) 27) := (HA.out.below HBW.out).alloc _; obtain ⟨a0, a1, a2, a3, a4, a5, a6, a7, a8, a9, a10, a11, a12⟩ := blk13 (h := ⟨id, qr, op, aa, tc, rd, ra, z, rc⟩) (HAx2.out); simp only at a0 a1 a2 a3 a4 a5 a6 a7 a8; clear ow bb t1 _t HAx2)
        | (go_at_call 8; have _t := t2; go_must (refine (filter_any ⟨#[0]⟩ id qr op aa tc rd ra z rc qs an2 ns2 ar2 _ _ _ _ _ id qr op aa tc rd ra z rc qs an2 ns2 ar2 0 (HR1.out.1.below (lay HBW.out _)) (HR1.out.2.1.below (lay HBW.out _)) (HR1.out.2.2.1.below (lay HBW.out _)) (HR1.out.2.2.2.1.below (lay HBW.out _)) HFA.out (by decide) HM3.out HE.out).mono ?_); rintro e w5 ⟨y30, y31, y32, y33, k30, k31, k32, k33, rfl, ow, bb⟩; have HR3 : Hid (MR (w5.alloc (.cells #[.int .i64 id, .bool qr, .int .i64 op, .bool aa, .bool tc, .bool rd, .bool ra, .int .i64 z, .int .i64 rc, .slice y30 qs.length k30, .slice y31 an2.length k31, .slice y32 ns2.length k32, .slice y33 ar2.length k33] 27)) (.slice y30 qs.length k30) (.slice y31 an2.length k31) (.slice y32 ns2.length k32) (.slice y33 ar2.length k33) ⟨⟨id, qr, op, aa, tc, rd, ra, z, rc⟩, qs, an2, ns2, ar2⟩) := (ow.mr HFA.out).below (lay (Below.refl _ _) _); have HBk : Hid (Blk (w5.alloc (.cells #[.int .i64 id, .bool qr, .int .i64 op, .bool aa, .bool tc, .bool rd, .bool ra, .int .i64 z, .int .i64 rc, .slice y30 qs.length k30, .slice y31 an2.length k31, .slice y32 ns2.length k32, .slice y33 ar2.length k33] 27)) w4.heap.size (msgC ⟨id, qr, op, aa, tc, rd, ra, z, rc⟩ (.slice y20 qs.length k20) (.slice y21 an3.length k21) (.slice y22 ns3.length k22) (.slice y23 ar3.length k23)) 27) := ((Blk.new w4 _ _).below bb).alloc _; have HCk : Hid (Blk (w5.alloc (.cells #[.int .i64 id, .bool qr, .int .i64 op, .bool aa, .bool tc, .bool rd, .bool ra, .int .i64 z, .int .i64 rc, .slice y30 qs.length k30, .slice y31 an2.length k31, .slice y32 ns2.length k32, .slice y33 ar2.length k33] 27)) w5.heap.size (msgC ⟨id, qr, op, aa, tc, rd, ra, z, rc⟩ (.slice y30 qs.length k30) (.slice y31 an2.length k31) (.slice y32 ns2.length k32) (.slice y33 ar2.length k33)) 27) := Blk.new w5 _ _; replace HBW : Hid (Below W.heap.size W (w5.alloc (.cells #[.int .i64 id, .bool qr, .int .i64 op, .bool aa, .bool tc, .bool rd, .bool ra, .int .i64 z, .int .i64 rc, .slice y30 qs.length k30, .slice y31 an2.length k31, .slice y32 ns2.length k32, .slice y33 ar2.length k33] 27))) := lay (next (lay HBW.out _) bb) _; clear a0 a1 a2 a3 a4 a5 a6 a7 a8 a9 a10 a11 a12 ow bb t2 _t HKx))
      revert HR3 HBk HCk HBW
      generalize hWe : (w5.alloc (.cells #[.int .i64 id, .bool qr, .int .i64 op, .bool aa, .bool tc, .bool rd, .bool ra, .int .i64 z, .int .i64 rc, .slice y30 qs.length k30, .slice y31 an2.length k31, .slice y32 ns2.length k32, .slice y33 ar2.length k33] 27)) = W2
      obtain ⟨gb, hgb⟩ : ∃ g, g = w4.heap.size := ⟨_, rfl⟩
      obtain ⟨gc, hgc⟩ : ∃ g, g = w5.heap.size := ⟨_, rfl⟩
      rw [← hgb, ← hgc]
      intro HR3 HBk HCk HBW
      clear hWe hgb hgc
      go_loopw [11, 12] (fun t9 t10 wr => ∃ (k i : Nat), i ≤ ar.length ∧ t10 = .int .i64 (i : Int) ∧ t9 = .int .i64 (k : Int) ∧ k = cntA (ar.take i) ∧ Below W2.heap.size W2 wr) (fun _ t10 _ => ar.length - (intOf t10).toNat)
      case atStart => exact ⟨0, 0, Nat.zero_le _, rfl, rfl, by simp [cntA], Below.refl _ _⟩
      case round =>
        obtain ⟨k, j, hj, rfl, rfl, hk, hb⟩ := hrel
        have HKK : Hid (k = cntA (ar.take j)) := hk
        clear hk
        have HB2 : Hid (Below W2.heap.size W2 wr) := hb
        clear hb
        by_cases hjn : j < ar.length
        · have hjn' : (j : Int) < (ar.length : Int) := by omega
          have hkl : k ≤ j := by rw [HKK.out]; exact cntA_to _ _
          have HK2 : Hid (Blk wr w.heap.size (msgC ⟨id, qr, op, aa, tc, rd, ra, z, rc⟩ (.slice x0 qs.length c0) (.slice x1 an.length c1) (.slice x2 ns.length c2) (.slice x3 ar.length c3)) 27) := HK.out.below (next HBW.out HB2.out)
          obtain ⟨e0, e1, e2, e3, e4, e5, e6, e7, e8, e9, e10, e11, e12⟩ := blk13 (h := ⟨id, qr, op, aa, tc, rd, ra, z, rc⟩) (HK2.out); simp only at e0 e1 e2 e3 e4 e5 e6 e7 e8
          obtain ⟨g, o, rfl⟩ := row_some H3.out (by omega)
          have HC := r_at (H3.out.below (next HB.out (next HBW.out HB2.out))) hjn
          have HZ : Hid (ar[j].n.size ≤ maxLen) := HNR.out _ (List.getElem_mem hjn)
          have HY : Hid (aboveB nbL ar[j].n.data.toList = true → cntA (ar.take (j + 1)) = k + 1) := fun h => by rw [cntA_yes hjn h, ← HKK.out]
          have HNo : Hid (aboveB nbL ar[j].n.data.toList = false → cntA (ar.take (j + 1)) = k) := fun h => by rw [cntA_no hjn h, ← HKK.out]
          obtain ⟨r, hr⟩ : ∃ r, r = ar[j] := ⟨_, rfl⟩
          unfold Hid at HZ HY HNo
          simp only [← hr] at HC HZ HY HNo
          clear hr
          obtain ⟨fn, ft, fc, fl, fd⟩ := r
          simp only at HC HZ HY HNo
          obtain ⟨d0, d1, d2, d3, d4⟩ := HC
          cases hab : aboveB nbL fn.data.toList with
          | false =>
            have HL : Hid (cntA (ar.take (j + 1)) = k) := HNo hab
            clear HY HNo
            go_wp2_with (go_at_call 15; go_must (refine (aboveNb fn false _ HZ hab).mono ?_); rintro e w6 ⟨rfl, b6⟩; replace HB2 : Hid (Below W2.heap.size W2 w6) := next HB2.out b6; clear b6)
            go_roundw
            case rel => exact ⟨k, j + 1, by omega, by go_num, rfl, HL.out.symm, HB2.out⟩
            case measure => simp [intOf]; omega
          | true =>
            have HL : Hid (cntA (ar.take (j + 1)) = k + 1) := HY hab
            clear HY HNo
            go_wp2_with (go_at_call 15; go_must (refine (aboveNb fn true _ HZ hab).mono ?_); rintro e w6 ⟨rfl, b6⟩; replace HB2 : Hid (Below W2.heap.size W2 w6) := next HB2.out b6; clear b6)
            go_roundw
            case rel => exact ⟨k + 1, j + 1, by omega, by go_num, by go_num, HL.out.symm, HB2.out⟩
            case measure => simp [intOf]; omega
        · have hjn' : decide (j < ar.length) = false := by simpa using hjn
          have hfin : (ar3.length : Int) ≤ (k : Int) := by
            have h1 := HLE.out
            have h2 : k = cntA ar := by rw [HKK.out, List.take_of_length_le (by omega)]
            omega
          clear HKK
          have HKx : Hid (Blk wr w.heap.size (msgC ⟨id, qr, op, aa, tc, rd, ra, z, rc⟩ (.slice x0 qs.length c0) (.slice x1 an.length c1) (.slice x2 ns.length c2) (.slice x3 ar.length c3)) 27) := HK.out.below (next HBW.out HB2.out)
          have HAx : Hid (Blk wr ga (msgC ⟨id, qr, op, aa, tc, rd, ra, z, rc⟩ (.slice y10 qs.length k10) (.slice y11 an2.length k11) (.slice y12 ns2.length k12) (.slice y13 ar2.length k13)) 27) := HA.out.below (next HBW.out HB2.out)
          have HBx : Hid (Blk wr gb (msgC ⟨id, qr, op, aa, tc, rd, ra, z, rc⟩ (.slice y20 qs.length k20) (.slice y21 an3.length k21) (.slice y22 ns3.length k22) (.slice y23 ar3.length k23)) 27) := HBk.out.below HB2.out
          have HCx : Hid (Blk wr gc (msgC ⟨id, qr, op, aa, tc, rd, ra, z, rc⟩ (.slice y30 qs.length k30) (.slice y31 an2.length k31) (.slice y32 ns2.length k32) (.slice y33 ar2.length k33)) 27) := HCk.out.below HB2.out
          obtain ⟨a0, a1, a2, a3, a4, a5, a6, a7, a8, a9, a10, a11, a12⟩ := blk13 (h := ⟨id, qr, op, aa, tc, rd, ra, z, rc⟩) (HAx.out); simp only at a0 a1 a2 a3 a4 a5 a6 a7 a8
          obtain ⟨e0, e1, e2, e3, e4, e5, e6, e7, e8, e9, e10, e11, e12⟩ := blk13 (h := ⟨id, qr, op, aa, tc, rd, ra, z, rc⟩) (HKx.out); simp only at e0 e1 e2 e3 e4 e5 e6 e7 e8
          obtain ⟨f0, f1, f2, f3, f4, f5, f6, f7, f8, f9, f10, f11, f12⟩ := blk13 (h := ⟨id, qr, op, aa, tc, rd, ra, z, rc⟩) (HCx.out); simp only at f0 f1 f2 f3 f4 f5 f6 f7 f8
          go_wp2_with (first
            | (go_at_call 10; go_must (refine (sameMsg_yes ⟨⟨id, qr, op, aa, tc, rd, ra, z, rc⟩, qs, an2, ns2, ar2⟩ _ _ _ _ _ _ _ _ _ (HR1.out.below (next HBW.out HB2.out)) (HR3.out.below HB2.out)).mono ?_); rintro e w8 ⟨rfl, bb⟩; replace HB2 : Hid (Below W2.heap.size W2 w8) := next HB2.out bb; clear a0 a1 a2 a3 a4 a5 a6 a7 a8 a9 a10 a11 a12 f0 f1 f2 f3 f4 f5 f6 f7 f8 f9 f10 f11 f12 e0 e1 e2 e3 e4 e5 e6 e7 e8 e9 e10 e11 e12; replace HKx : Hid (Blk w8 w.heap.size (msgC ⟨id, qr, op, aa, tc, rd, ra, z, rc⟩ (.slice x0 qs.length c0) (.slice x1 an.length c1) (.slice x2 ns.length c2) (.slice x3 ar.length c3)) 27) := HKx.out.below bb; replace HBx : Hid (Blk w8 gb (msgC ⟨id, qr, op, aa, tc, rd, ra, z, rc⟩ (.slice y20 qs.length k20) (.slice y21 an3.length k21) (.slice y22 ns3.length k22) (.slice y23 ar3.length k23)) 27) := HBx.out.below bb; obtain ⟨e0, e1, e2, e3, e4, e5, e6, e7, e8, e9, e10, e11, e12⟩ := blk13 (h := ⟨id, qr, op, aa, tc, rd, ra, z, rc⟩) (HKx.out); simp only at e0 e1 e2 e3 e4 e5 e6 e7 e8; obtain ⟨b0, b1, b2, b3, b4, b5, b6, b7, b8, b9, b10, b11, b12⟩ := blk13 (h := ⟨id, qr, op, aa, tc, rd, ra, z, rc⟩) (HBx.out); simp only at b0 b1 b2 b3 b4 b5 b6 b7 b8; clear bb)
            | (go_at_call 11; refine (num_any _ _).mono ?_; rintro e w' ⟨rfl, hw⟩; obtain rfl := hw.symm))
          go_ret
          exact ⟨rfl, next HB.out (next HBW.out HB2.out)⟩

theorem walk (m : Ms) (v0 v1 v2 v3 : Value) (hF : Fits m) (w : World) (h0 : Row w v0 m.qs.length (qC m.qs)) (h1 : Row w v1 m.an.length (rC m.an)) (h2 : Row w v2 m.ns.length (rC m.ns)) (h3 : Row w v3 m.ar.length (rC m.ar)) :
    Calls Try.prog 5 #[.agg (msgC m.h v0 v1 v2 v3)] w fun e w' => e = .returned (.bool true) ∧ Below w.heap.size w w' := by
  obtain ⟨⟨id, qr, op, aa, tc, rd, ra, z, rc⟩, qs, an, ns, ar⟩ := m
  obtain ⟨x0, c0, rfl⟩ := row_slice h0
  obtain ⟨x1, c1, rfl⟩ := row_slice h1
  obtain ⟨x2, c2, rfl⟩ := row_slice h2
  obtain ⟨x3, c3, rfl⟩ := row_slice h3
  exact w_all id qr op aa tc rd ra z rc qs an ns ar x0 x1 x2 x3 c0 c1 c2 c3 w h0 h1 h2 h3 hF

theorem own : ownKnob Try.prog.godebug = none := by kernel_rfl
theorem laidOut : laidOutB Try.prog = true := by kernel_rfl

set_option maxRecDepth 100000 in
theorem lifted (os : Os) (started : os.Started) (H : Type) (enc : TypeId × Value → H) :
    ReturnsInHanded {} Try.checked os 5 .any (Rows.filterRootSpec.pre6 enc Try.prog Try.f5 Rows.filterRootRow.domain false) (Rows.filterRootSpec.post enc Try.prog Try.f5 false true false false) := by
  refine returnsInHanded_of_change_sized (C := Try.checked) own started (by kernel_rfl) Try.func5
    (ChangeSpec.witness6 (enc := enc) (C := Try.checked) false ⟨#[], #[.agg (msgC hdZ (.slice none 0 0) (.slice none 0 0) (.slice none 0 0) (.slice none 0 0))], []⟩ 8 (by kernel_rfl) (by kernel_rfl) (by kernel_rfl) (by kernel_rfl)) ?_
  intro W base args ds gs before hval0 hW _ hsz0 _
  have hval : ∀ (j : Nat) t v, Try.f5.params[j]? = some t → args[j]? = some v → Value.okWide Try.prog W .any base t v := hval0
  have hsz : (DataW.weightsEach Try.prog (Try.f5.params.toList ++ Rows.filterRootSpec.plain.varTypes Try.prog) (ds ++ gs)).all (· ≤ reachBytes) = true := hsz0
  have hW' := hW
  obtain ⟨p, q, hA0, hV, rfl, hfz, hnd⟩ := hW
  have hA : DataW.TrodAll enc Try.prog W 0 (fun _ => true) true Try.f5.params.toList args.toList ds p := hA0
  rw [Try.params5] at hA hval hsz
  obtain ⟨v0, vs0, d0, ds0, p0, q0, hargs, rfl, rfl, h0, r0⟩ := trodAll_cons hA
  obtain ⟨rfl, rfl, rfl⟩ := trodAll_nil r0
  obtain rfl : args = #[v0] := by cases args; simp_all
  obtain ⟨rfl, rfl⟩ := trodVars_none hV
  obtain ⟨a0, b00, b01, b02, b03, rfl, w00, w01, w02, w03, z0⟩ := open_mfar (hval 0 27 v0 rfl rfl) h0 (weights_all hsz (j := 0) rfl rfl)
  have hlt0 : ∀ x ∈ p0, x.block < W.heap.size := fun x hx => by
    have := hW'.lt x (by simp [hx])
    simpa using this
  clear hA0 hval0 hsz0 hsz
  simp only [List.append_nil] at hW'
  refine (walk a0 b00 b01 b02 b03  z0 W w00 w01 w02 w03).mono fun e W' ⟨he, bel⟩ => ?_
  subst he
  exact ⟨_, rfl, _, _, _, [], _, [], hW', trodAll_mk1 (shut_bool Try.underlying4 _), (trodAll_cons_mk (Below.trod laidOut (by kernel_rfl) (of_decide_eq_true (by kernel_rfl)) h0 bel hlt0) trodAll_mk0), rfl, bel.frame _, fun h => by cases h⟩

/-- The statement. -/
theorem proved : Rows.FilterRootSaid :=
  OpenClaim.holds_of_wide 5 Try.f5 rfl rfl rfl rfl rfl rfl rfl ⟨rfl, rfl, rfl, rfl, rfl⟩ rfl rfl rfl rfl rfl (by kernel_rfl) Try.func5 (by kernel_rfl)
    (of_decide_eq_true (by kernel_rfl)) (by unfold Func.isWrapper; first | (rw [if_pos (by decide +kernel)]; kernel_rfl) | (rw [if_neg (by decide +kernel)]; exact ⟨rfl, rfl⟩))
    (fun os started H enc _ => lifted os started H enc)
#print axioms proved

end Go.Proofs.Ytnecdpieoipjdaa.filterRoot
