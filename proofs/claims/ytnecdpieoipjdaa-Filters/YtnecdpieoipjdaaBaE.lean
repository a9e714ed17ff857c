/- What the document's within gives. -/
import Derived.Test.YtnecdpieoipjdaaBaC
import Derived.Test.YtnecdpieoipjdaaWalkS
namespace Go.Proofs.Ytnecdpieoipjdaa
open Go.RowKit
open Pl

set_option maxRecDepth 20000 in
set_option maxHeartbeats 1000000 in
theorem refWithin_any (c : ByteArray) (v : Value) (rs : List Rc) (w : World) (h : Row w v rs.length (rC rs)) (hc : c.size ≤ maxLen) (hl : rs.length * 56 ≤ 140737488351232) (hs : ∀ r ∈ rs, r.n.size ≤ 140737488351232 ∧ r.d.size ≤ 140737488351232) :
    Calls Try.prog 21 #[v, .string c] w fun e w' => ∃ (y : Option Addr) (k : Nat), e = .returned (.slice y (kpL c.data.toList rs).length k) ∧ w'.ownsRow w.heap.size 42 5 (.slice y (kpL c.data.toList rs).length k) (kpL c.data.toList rs).length (rC (kpL c.data.toList rs)) ∧ Below w.heap.size w w' := by
  obtain ⟨i0, hi, hz0, hz1, hz2⟩ := info_parts infoR'
  obtain ⟨N, hN⟩ : ∃ N, N = rs.length := ⟨_, rfl⟩
  obtain ⟨x, c0, hv⟩ := row_slice h
  rw [← hN] at hv hl
  subst hv
  have HN : Hid (N = rs.length) := hN
  have HD : Hid (∀ r ∈ rs, r.n.size ≤ 140737488351232 ∧ r.d.size ≤ 140737488351232) := hs
  have HR : Hid (Row w (.slice x N c0) rs.length (rC rs)) := h
  clear hN h hs
  go_enter Try.func21, Try.ntmps21
  go_wp2
  go_loopw [5, 6] (fun a i wr => ∃ (y : Option Addr) (m c1 j : Nat), j ≤ N ∧ m ≤ j ∧ a = .slice y m c1 ∧ i = .int .i64 (j : Int) ∧ Hid (m = (kpL c.data.toList (rs.take j)).length) ∧ Hid (WL w wr (.slice y m c1) m (kpL c.data.toList (rs.take j)))) (fun _ i _ => N - (intOf i).toNat)
  case atStart => exact ⟨none, 0, 0, 0, Nat.zero_le _, Nat.zero_le _, rfl, rfl, by unfold Hid; simp [kpL], ⟨by simp [kpL, rC]; exact World.ownsRow_nil _ _ _ _, Below.refl _ _⟩⟩
  case round =>
    obtain ⟨y, m, c1, j, hj, hmj, rfl, rfl, HM, HS⟩ := hrel
    by_cases hjn : j < N
    · have hjm : j < rs.length := by have := HN.out; omega
      have hjn' : (j : Int) < (N : Int) := by omega
      obtain ⟨g', o, cap, hx, hcc⟩ := row_at (HN.out ▸ HR.out.below HS.out.below) (by omega)
      simp only [Value.slice.injEq] at hx
      obtain ⟨rfl, -, rfl⟩ := hx
      obtain ⟨d0, d1, d2, d3, d4⟩ := r_cells hcc hjm
      have hq1 := HD.out _ (List.getElem_mem hjm)
      have HY : Hid (kpB c.data.toList rs[j] = true → kpL c.data.toList (rs.take (j + 1)) = kpL c.data.toList (rs.take j) ++ [rs[j]]) := fun h => kpL_yes hjm h
      have HX : Hid (kpB c.data.toList rs[j] = false → kpL c.data.toList (rs.take (j + 1)) = kpL c.data.toList (rs.take j)) := fun h => kpL_no hjm h
      obtain ⟨q, hq⟩ : ∃ q, q = rs[j] := ⟨_, rfl⟩
      simp only [← hq] at d0 d1 d2 d3 d4 hq1 HY HX
      obtain ⟨qn, qt, qc, ql, qd⟩ := q
      simp only at d0 d1 d2 d3 d4 hq1
      clear hcc hq
      by_cases hc1 : qc = 1
      · subst hc1
        have hab := fun u => refAbove_any c qn u hc (by unfold maxLen; omega)
        have HK : Hid (kpB c.data.toList ⟨qn, qt, 1, ql, qd⟩ = aboveB c.data.toList qn.data.toList) := kp_above rfl
        obtain ⟨ab, hab1⟩ : ∃ ab, ab = aboveB c.data.toList qn.data.toList := ⟨_, rfl⟩
        rw [← hab1] at hab HK
        clear hab1
        cases ab with
        | false =>
          go_wp2_with (go_at_call 15; go_must (refine (hab _).mono ?_); rintro e w2 ⟨rfl, b3⟩; have HS1 : Hid (WL w w2 (.slice y m c1) m (kpL c.data.toList (rs.take j))) := HS.out.past b3; clear b3)
          go_roundw
          case rel => exact ⟨y, m, c1, j + 1, by omega, by omega, rfl, by go_num, by unfold Hid; rw [HX.out HK.out]; exact HM.out, by unfold Hid; rw [HX.out HK.out]; exact HS1.out⟩
          case measure => simp [intOf]; omega
        | true =>
          have ST : Hid (∀ u, Below wr.heap.size wr u → u.cell? ⟨g', o + j * 5, none⟩ = some (.string qn) ∧ u.cell? ⟨g', o + j * 5 + 1, none⟩ = some (.int .i64 qt) ∧ u.cell? ⟨g', o + j * 5 + 2, none⟩ = some (.int .i64 1) ∧ u.cell? ⟨g', o + j * 5 + 3, none⟩ = some (.int .i64 ql) ∧ u.cell? ⟨g', o + j * 5 + 4, none⟩ = some (.string qd)) := fun u hu => ⟨by rw [hu.cell (World.block_lt_of_cell? _ _ d0)]; exact d0, by rw [hu.cell (World.block_lt_of_cell? _ _ d1)]; exact d1, by rw [hu.cell (World.block_lt_of_cell? _ _ d2)]; exact d2, by rw [hu.cell (World.block_lt_of_cell? _ _ d3)]; exact d3, by rw [hu.cell (World.block_lt_of_cell? _ _ d4)]; exact d4⟩
          go_wp2_with (first
            | (go_at_call 15; go_must (refine (hab _).mono ?_); rintro e w2 ⟨rfl, b3⟩; have HS1 : Hid (WL w w2 (.slice y m c1) m (kpL c.data.toList (rs.take j))) := HS.out.past b3; obtain ⟨u0, u1, u2, u3, u4⟩ := ST.out _ b3; have hrow2 : Row (w2.alloc (.cells #[.string qn, .int .i64 qt, .int .i64 1, .int .i64 ql, .string qd] 42)) (.slice (some ⟨w2.heap.size, 0, none⟩) 1 1) 1 (rC [⟨qn, qt, 1, ql, qd⟩]) := Row.of_blk (Blk.new w2 #[.string qn, .int .i64 qt, .int .i64 1, .int .i64 ql, .string qd] 42) rfl 1 1; replace HS1 : Hid (WL w (w2.alloc (.cells #[.string qn, .int .i64 qt, .int .i64 1, .int .i64 ql, .string qd] 42)) (.slice y m c1) m (kpL c.data.toList (rs.take j))) := HS1.out.past (lay (Below.refl _ _) _); clear b3)
            | (at_builtin; refine wpList_appG _ rfl (.tmp 28) (.tmp 33) 25 42 i0 _ 5 56 Try.underlying25 hi hz0 hz1 hz2 rfl (by decide) rfl w.heap.size _ m (rC (kpL c.data.toList (rs.take j))) rfl HS1.out.own _ 1 (rC [⟨qn, qt, 1, ql, qd⟩]) rfl hrow2 rfl (rC_one _) (by omega) (by unfold maxLen; omega) HS1.out.below.size ?_; intro v3 w5 h1 h3 _; obtain ⟨y3, c3, rfl⟩ := row_shape h1; have O3 : Hid (WL w w5 (.slice y3 (m + 1) c3) (m + 1) (kpL c.data.toList (rs.take (j + 1)))) := ⟨(by rw [HY.out HK.out, rC_app]; exact h1), HS1.out.below.grown h3 HS1.out.below.size (fun k e => (HS1.out.own.lt k e).1)⟩; clear h1 h3))
          go_roundw
          case rel => exact ⟨y3, m + 1, c3, j + 1, by omega, by omega, rfl, by go_num, by unfold Hid; rw [HY.out HK.out, List.length_append, ← HM.out]; rfl, O3⟩
          case measure => simp [intOf]; omega
      · have hc1' : (qc == 1) = false := by rw [beq_eq_false_iff_ne]; exact hc1
        go_wp2
        go_roundw
        case rel => exact ⟨y, m, c1, j + 1, by omega, by omega, rfl, by go_num, by unfold Hid; rw [HX.out (kp_class hc1)]; exact HM.out, by unfold Hid; rw [HX.out (kp_class hc1)]; exact HS.out⟩
        case measure => simp [intOf]; omega
    · have hjn' : decide (j < N) = false := by simpa using hjn
      have HE : Hid (rs.take j = rs) := by unfold Hid; rw [List.take_of_length_le]; have := HN.out; omega
      go_wp2
      go_ret
      have e1 := HM.out
      rw [HE.out] at e1
      have e2 := HS.out
      rw [HE.out] at e2
      subst e1
      exact ⟨_, _, rfl, e2.own, e2.below⟩

end Go.Proofs.Ytnecdpieoipjdaa
