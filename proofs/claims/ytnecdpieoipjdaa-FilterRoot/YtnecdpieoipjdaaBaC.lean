/- What within of package bail gives: the records that a cut lets. -/
import Derived.Test.YtnecdpieoipjdaaBaA
import Derived.Test.YtnecdpieoipjdaaWalkO
import Derived.Test.YtnecdpieoipjdaaWlC
namespace Go.Proofs.Ytnecdpieoipjdaa
open Go.RowKit
open Pl

theorem Blk.five5 {w : World} {g : Nat} {a b c d e : Value} {t : TypeId} (h : Blk w g #[a, b, c, d, e] t) :
    w.cell? ⟨g, 0, none⟩ = some a ∧ w.cell? ⟨g, 1, none⟩ = some b ∧ w.cell? ⟨g, 2, none⟩ = some c ∧ w.cell? ⟨g, 3, none⟩ = some d ∧ w.cell? ⟨g, 4, none⟩ = some e := ⟨h.cell 0, h.cell 1, h.cell 2, h.cell 3, h.cell 4⟩
theorem kp_class {c : List UInt8} {r : Rc} (h : ¬ r.c = 1) : kpB c r = false := by unfold kpB; simp [h]
theorem kp_above {c : List UInt8} {r : Rc} (h : r.c = 1) : kpB c r = aboveB c r.n.data.toList := by unfold kpB; simp [h]

/-- How far within is. -/
structure WL (w0 w : World) (v : Value) (m : Nat) (xs : List Rc) : Prop where
  own : w.ownsRow w0.heap.size 42 5 v m (rC xs)
  below : Below w0.heap.size w0 w
theorem WL.past {w0 w w' : World} {v : Value} {m : Nat} {xs : List Rc} (h : WL w0 w v m xs) (hb : Below w.heap.size w w') : WL w0 w' v m xs := ⟨own_past h.own hb, next h.below hb⟩
theorem WL.turn {w0 w w' : World} {v : Value} {m g : Nat} {xs : List Rc} (h : WL w0 w v m xs) (ht : Turn (fun k => k = g) w w') (hg : ∀ k, v.ownBlock = some k → k < g) (h0 : w0.heap.size ≤ g) : WL w0 w' v m xs :=
  ⟨ht.row h.own (fun k hk e => by have := hg k hk; omega), Turn.below h.below ht h.below.size (fun i e => by omega)⟩

set_option maxRecDepth 20000 in
set_option maxHeartbeats 1000000 in
theorem within_any (c : ByteArray) (v : Value) (rs : List Rc) (w : World) (h : Row w v rs.length (rC rs)) (hc : c.size ≤ maxLen) (hl : rs.length * 56 ≤ 140737488351232) (hs : ∀ r ∈ rs, r.n.size ≤ 140737488351232 ∧ r.d.size ≤ 140737488351232) :
    Calls Try.prog 20 #[.string c, v] w fun e w' => ∃ (y : Option Addr) (k : Nat), e = .returned (.slice y (kpL c.data.toList rs).length k) ∧ w'.ownsRow w.heap.size 42 5 (.slice y (kpL c.data.toList rs).length k) (kpL c.data.toList rs).length (rC (kpL c.data.toList rs)) ∧ Below w.heap.size w w' := by
  obtain ⟨i0, hi, hz0, hz1, hz2⟩ := info_parts infoR'
  obtain ⟨N, hN⟩ : ∃ N, N = rs.length := ⟨_, rfl⟩
  obtain ⟨x, c0, hv⟩ := row_slice h
  rw [← hN] at hv hl
  subst hv
  have HN : Hid (N = rs.length) := hN
  have HD : Hid (∀ r ∈ rs, r.n.size ≤ 140737488351232 ∧ r.d.size ≤ 140737488351232) := hs
  have HR : Hid (Row w (.slice x N c0) rs.length (rC rs)) := h
  clear hN h hs
  go_enter Try.func20, Try.ntmps20
  go_wp2
  go_loopw [5, 7, 10] (fun a _ i wr => ∃ (y : Option Addr) (m c1 j : Nat), j ≤ N ∧ m ≤ j ∧ a = .slice y m c1 ∧ i = .int .i64 (j : Int) ∧ Hid (m = (kpL c.data.toList (rs.take j)).length) ∧ Hid (WL w wr (.slice y m c1) m (kpL c.data.toList (rs.take j)))) (fun _ _ i _ => N - (intOf i).toNat)
  case atStart => exact ⟨none, 0, 0, 0, Nat.zero_le _, Nat.zero_le _, rfl, rfl, by unfold Hid; simp [kpL], ⟨by simp [kpL, rC]; exact World.ownsRow_nil _ _ _ _, Below.refl _ _⟩⟩
  case round =>
    obtain ⟨y, m, c1, j, hj, hmj, rfl, rfl, HM, HS⟩ := hrel
    by_cases hjn : j < N
    · have hjm : j < rs.length := by have := HN.out; omega
      have hjn' : (j : Int) < (N : Int) := by omega
      obtain ⟨g', o, cap, hx, hcc⟩ := row_at (HN.out ▸ HR.out.below HS.out.below) (by omega)
      simp only [Value.slice.injEq] at hx
      obtain ⟨rfl, -, rfl⟩ := hx
      obtain ⟨d0, d1, d2, d3, d4⟩ := r_cells hcc hjm
      have hq1 := HD.out _ (List.getElem_mem hjm)
      have HY : Hid (kpB c.data.toList rs[j] = true → kpL c.data.toList (rs.take (j + 1)) = kpL c.data.toList (rs.take j) ++ [rs[j]]) := fun h => kpL_yes hjm h
      have HX : Hid (kpB c.data.toList rs[j] = false → kpL c.data.toList (rs.take (j + 1)) = kpL c.data.toList (rs.take j)) := fun h => kpL_no hjm h
      obtain ⟨q, hq⟩ : ∃ q, q = rs[j] := ⟨_, rfl⟩
      simp only [← hq] at d0 d1 d2 d3 d4 hq1 HY HX
      obtain ⟨qn, qt, qc, ql, qd⟩ := q
      simp only at d0 d1 d2 d3 d4 hq1
      clear hcc hq
      have HS1 : Hid (WL w (wr.alloc (.cells #[.string qn, .int .i64 qt, .int .i64 qc, .int .i64 ql, .string qd] 42)) (.slice y m c1) m (kpL c.data.toList (rs.take j))) := HS.out.past (lay (Below.refl _ _) _)
      by_cases hc1 : qc = 1
      · subst hc1
        have hab := fun u => above_any c qn u hc (by unfold maxLen; omega)
        have HK : Hid (kpB c.data.toList ⟨qn, qt, 1, ql, qd⟩ = aboveB c.data.toList qn.data.toList) := kp_above rfl
        obtain ⟨ab, hab1⟩ : ∃ ab, ab = aboveB c.data.toList qn.data.toList := ⟨_, rfl⟩
        rw [← hab1] at hab HK
        clear hab1
        cases ab with
        | false =>
          go_wp2_with (go_at_call 30; go_must (refine (hab _).mono ?_); rintro e w2 ⟨rfl, b3⟩; replace HS1 : Hid (WL w w2 (.slice y m c1) m (kpL c.data.toList (rs.take j))) := HS1.out.past b3; clear b3)
          go_roundw
          case rel => exact ⟨y, m, c1, j + 1, by omega, by omega, rfl, by go_num, by unfold Hid; rw [HX.out HK.out]; exact HM.out, by unfold Hid; rw [HX.out HK.out]; exact HS1.out⟩
          case measure => simp [intOf]; omega
        | true =>
          have hcn := fun u => clone_far qn u (by omega)
          have hcd := fun u => clone_far qd u (by omega)
          have hlt : ∀ k, (Value.slice y m c1).ownBlock = some k → k < wr.heap.size := fun k hk => (HS.out.own.lt k hk).2
          have HLT : Hid (∀ k, (Value.slice y m c1).ownBlock = some k → k < wr.heap.size) := hlt
          have HW0 : Hid (w.heap.size ≤ wr.heap.size) := HS.out.below.size
          clear hlt
          go_wp2_with (go_at_call 30; go_must (refine (hab _).mono ?_); rintro e w2 ⟨rfl, b3⟩; replace HS1 : Hid (WL w w2 (.slice y m c1) m (kpL c.data.toList (rs.take j))) := HS1.out.past b3; have K2 : Blk w2 wr.heap.size #[.string qn, .int .i64 qt, .int .i64 1, .int .i64 ql, .string qd] 42 := (Blk.new wr _ _).below b3; clear b3)
          have a0 : w2.cell? ⟨wr.heap.size, 0, none⟩ = some (.string qn) := K2.cell 0
          have a4 : w2.cell? ⟨wr.heap.size, 4, none⟩ = some (.string qd) := K2.cell 4
          obtain ⟨g, hg⟩ : ∃ g, g = wr.heap.size := ⟨_, rfl⟩
          rw [← hg] at a0 a4 K2 HLT HW0 ⊢
          have HK2 : Hid (Blk w2 g #[.string qn, .int .i64 qt, .int .i64 1, .int .i64 ql, .string qd] 42) := K2
          clear K2 hg HS hab
          go_region_held3 (fun u => u.cell? ⟨g, 0, none⟩ = some (.string qn) ∧ u.cell? ⟨g, 4, none⟩ = some (.string qd)) (first | (simp only [World.cell?_drew, a0, a4, and_self]; done) | (simp only [b0, b4, and_self]; done) | (simp only [e0, e4, and_self]; done) | (exact ⟨p0, p4⟩) | (exact ⟨s0, s4⟩))
            (first
              | (go_at_call_of 29 (#[Value.string qn]); refine (hcn _).mono ?_; rintro e w3 ⟨rfl, b3⟩; have B3 : Below w2.heap.size w2 w3 := next (below_drew ⟨1, rfl⟩) b3; have HK3 : Hid (Blk w3 g #[.string qn, .int .i64 qt, .int .i64 1, .int .i64 ql, .string qd] 42) := HK2.out.below B3; have HS3 : Hid (WL w w3 (.slice y m c1) m (kpL c.data.toList (rs.take j))) := HS1.out.past B3; have b0 : w3.cell? ⟨g, 0, none⟩ = some (.string qn) := HK3.out.cell 0; have b4 : w3.cell? ⟨g, 4, none⟩ = some (.string qd) := HK3.out.cell 4; clear b3 B3)
              | (go_at_call 29; refine (hcd _).mono ?_; rintro e w4 ⟨rfl, b5⟩; have HK4 : Hid (Blk w4 g #[.string qn, .int .i64 qt, .int .i64 1, .int .i64 ql, .string qd] 42) := HK3.out.below b5; have HS4 : Hid (WL w w4 (.slice y m c1) m (kpL c.data.toList (rs.take j))) := HS3.out.past b5; have e0 : w4.cell? ⟨g, 0, none⟩ = some (.string qn) := HK4.out.cell 0; have e4 : w4.cell? ⟨g, 4, none⟩ = some (.string qd) := HK4.out.cell 4; have f0 := HK4.out.frozen 0; have f4 := HK4.out.frozen 4; have HK5 : Hid (Blk (w4.setCell ⟨g, 0, none⟩ (.string qn)) g #[.string qn, .int .i64 qt, .int .i64 1, .int .i64 ql, .string qd] 42) := HK4.out.set 0 (.string qn); have p0 : (w4.setCell ⟨g, 0, none⟩ (.string qn)).cell? ⟨g, 0, none⟩ = some (.string qn) := HK5.out.cell 0; have p4 : (w4.setCell ⟨g, 0, none⟩ (.string qn)).cell? ⟨g, 4, none⟩ = some (.string qd) := HK5.out.cell 4; have h4 := HK5.out.frozen 4; have HK6 : Hid (Blk ((w4.setCell ⟨g, 0, none⟩ (.string qn)).setCell ⟨g, 4, none⟩ (.string qd)) g #[.string qn, .int .i64 qt, .int .i64 1, .int .i64 ql, .string qd] 42) := HK5.out.set 4 (.string qd); have s0 : ((w4.setCell ⟨g, 0, none⟩ (.string qn)).setCell ⟨g, 4, none⟩ (.string qd)).cell? ⟨g, 0, none⟩ = some (.string qn) := HK6.out.cell 0; have s4 : ((w4.setCell ⟨g, 0, none⟩ (.string qn)).setCell ⟨g, 4, none⟩ (.string qd)).cell? ⟨g, 4, none⟩ = some (.string qd) := HK6.out.cell 4; have HS6 : Hid (WL w ((w4.setCell ⟨g, 0, none⟩ (.string qn)).setCell ⟨g, 4, none⟩ (.string qd)) (.slice y m c1) m (kpL c.data.toList (rs.take j))) := (HS4.out.turn (Turn.of_set (S := fun k => k = g) w4 (p := ⟨g, 0, none⟩) rfl _) HLT.out HW0.out).turn (Turn.of_set (S := fun k => k = g) _ (p := ⟨g, 4, none⟩) rfl _) HLT.out HW0.out; clear b5))
          clear HK2 HK3 HK4 HK5 HS1 HS3 HS4 a0 a4 b0 b4 e0 e4 f0 f4 p0 p4 h4 s0 s4
          revert HK6 HS6
          generalize (w4.setCell ⟨g, 0, none⟩ (.string qn)).setCell ⟨g, 4, none⟩ (.string qd) = W
          intro HK6 HS6
          obtain ⟨a0, a1, a2, a3, a4⟩ := HK6.out.five5
          have hrow2 : Row (W.alloc (.cells #[.string qn, .int .i64 qt, .int .i64 1, .int .i64 ql, .string qd] 42)) (.slice (some ⟨W.heap.size, 0, none⟩) 1 1) 1 (rC [⟨qn, qt, 1, ql, qd⟩]) := Row.of_blk (Blk.new W #[.string qn, .int .i64 qt, .int .i64 1, .int .i64 ql, .string qd] 42) rfl 1 1
          have HS7 : Hid (WL w (W.alloc (.cells #[.string qn, .int .i64 qt, .int .i64 1, .int .i64 ql, .string qd] 42)) (.slice y m c1) m (kpL c.data.toList (rs.take j))) := HS6.out.past (lay (Below.refl _ _) _)
          clear HK6 HS6
          go_wp2_with (at_builtin; refine wpList_appG _ rfl (.tmp 32) (.tmp 34) 25 42 i0 _ 5 56 Try.underlying25 hi hz0 hz1 hz2 rfl (by decide) rfl w.heap.size _ m (rC (kpL c.data.toList (rs.take j))) rfl HS7.out.own _ 1 (rC [⟨qn, qt, 1, ql, qd⟩]) rfl hrow2 rfl (rC_one _) (by omega) (by unfold maxLen; omega) HS7.out.below.size ?_; intro v3 w5 h1 h3 _; obtain ⟨y3, c3, rfl⟩ := row_shape h1; have O3 : Hid (WL w w5 (.slice y3 (m + 1) c3) (m + 1) (kpL c.data.toList (rs.take (j + 1)))) := ⟨(by rw [HY.out HK.out, rC_app]; exact h1), HS7.out.below.grown h3 HS7.out.below.size (fun k e => (HS7.out.own.lt k e).1)⟩; clear h1 h3)
          go_roundw
          case rel => exact ⟨y3, m + 1, c3, j + 1, by omega, by omega, rfl, by go_num, by unfold Hid; rw [HY.out HK.out, List.length_append, ← HM.out]; rfl, O3⟩
          case measure => simp [intOf]; omega
      · have hc1' : (qc == 1) = false := by rw [beq_eq_false_iff_ne]; exact hc1
        go_wp2
        go_roundw
        case rel => exact ⟨y, m, c1, j + 1, by omega, by omega, rfl, by go_num, by unfold Hid; rw [HX.out (kp_class hc1)]; exact HM.out, by unfold Hid; rw [HX.out (kp_class hc1)]; exact HS1.out⟩
        case measure => simp [intOf]; omega
    · have hjn' : decide (j < N) = false := by simpa using hjn
      have HE : Hid (rs.take j = rs) := by unfold Hid; rw [List.take_of_length_le]; have := HN.out; omega
      go_wp2
      go_ret
      have e1 := HM.out
      rw [HE.out] at e1
      have e2 := HS.out
      rw [HE.out] at e2
      subst e1
      exact ⟨_, _, rfl, e2.own, e2.below⟩

end Go.Proofs.Ytnecdpieoipjdaa
