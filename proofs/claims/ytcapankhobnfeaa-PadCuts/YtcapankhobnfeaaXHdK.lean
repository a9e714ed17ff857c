/- What the document's GetHead gives, for every argument. -/
import Derived.Test.YtcapankhobnfeaaXHdJ
namespace Go.Proofs.Ytcapankhobnfeaa
open Go.RowKit

theorem refNum_two (s : ByteArray) (k : Nat) (x v : Int) (hs : s.size ≤ maxLen) (hx : x = (k : Int)) (h : k + 2 ≤ s.size) (hv : val s k 2 = v) (u : World) :
    Calls Try.prog 44 #[.string s, .int .i64 x, .int .i64 2] u fun e w' => e = .returned (.tuple #[.int .i64 v, .int .i64 (x + 2), .int .i64 0]) ∧ w' = u := by
  subst hx
  subst hv
  exact refNum_yes s k 2 u hs (by decide) h

set_option maxRecDepth 20000 in
set_option maxHeartbeats 4000000 in
theorem refGet_no (s : ByteArray) (w : World) (h : s.size < 12) :
    Calls Try.prog 39 #[.string s] w fun e w' => e = .returned (.tuple #[.agg headZ, .agg (cntV 0 0 0 0), .int .i64 600]) ∧ Below w.heap.size w w' := by
  have h' : (s.size : Int) < 12 := by omega
  go_enter Try.func39, Try.ntmps39
  go_wp2
  go_region
  go_wp2
  refine bodyPost_ret (v := .tuple #[.agg headZ, .agg (cntV 0 0 0 0), .int .i64 600]) (by simp [results, Try.results39, go_sem, headZ, headV, cntV]) rfl ⟨rfl, next (lay (lay (lay (Below.refl _ _) _) _) _) (below_drew ⟨1, rfl⟩)⟩

set_option maxRecDepth 20000 in
set_option maxHeartbeats 8000000 in
theorem refGet_yes (s : ByteArray) (w : World) (hs : s.size ≤ maxLen) (h : 12 ≤ s.size) :
    Calls Try.prog 39 #[.string s] w fun e w' => e = .returned (.tuple #[.agg (headW (val s 0 2) (val s 2 2)), .agg (cntC s 4), .int .i64 0]) ∧ Below w.heap.size w w' := by
  have h' : decide ((s.size : Int) < 12) = false := by simp; omega
  obtain ⟨I, hI⟩ : ∃ v, val s 0 2 = v := ⟨_, rfl⟩
  obtain ⟨V, hV⟩ : ∃ v, val s 2 2 = v := ⟨_, rfl⟩
  have hv := val2_lt s 2
  rw [hV] at hv
  have N1 := refNum_two s 0 0 I hs rfl (by omega) hI
  have N2 := refNum_two s 2 2 V hs rfl (by omega) hV
  rw [hI, hV]
  unfold headW
  obtain ⟨yQ, hQ⟩ : ∃ v, V / 32768 % 2 = v := ⟨_, rfl⟩
  have mQ : bits .and .i64 (V / 32768) 1 = yQ := by rw [← hQ]; exact mask1 _
  obtain ⟨Q, bQ⟩ : ∃ v, (yQ == 1) = v := ⟨_, rfl⟩
  obtain ⟨O, hO⟩ : ∃ v, V / 2048 % 16 = v := ⟨_, rfl⟩
  have mO : bits .and .i64 (V / 2048) 15 = O := by rw [← hO]; exact mask _ 4 (by decide)
  obtain ⟨yA, hA⟩ : ∃ v, V / 1024 % 2 = v := ⟨_, rfl⟩
  have mA : bits .and .i64 (V / 1024) 1 = yA := by rw [← hA]; exact mask1 _
  obtain ⟨A, bA⟩ : ∃ v, (yA == 1) = v := ⟨_, rfl⟩
  obtain ⟨yT, hT⟩ : ∃ v, V / 512 % 2 = v := ⟨_, rfl⟩
  have mT : bits .and .i64 (V / 512) 1 = yT := by rw [← hT]; exact mask1 _
  obtain ⟨T, bT⟩ : ∃ v, (yT == 1) = v := ⟨_, rfl⟩
  obtain ⟨yD, hD⟩ : ∃ v, V / 256 % 2 = v := ⟨_, rfl⟩
  have mD : bits .and .i64 (V / 256) 1 = yD := by rw [← hD]; exact mask1 _
  obtain ⟨D, bD⟩ : ∃ v, (yD == 1) = v := ⟨_, rfl⟩
  obtain ⟨yR, hR⟩ : ∃ v, V / 128 % 2 = v := ⟨_, rfl⟩
  have mR : bits .and .i64 (V / 128) 1 = yR := by rw [← hR]; exact mask1 _
  obtain ⟨R, bR⟩ : ∃ v, (yR == 1) = v := ⟨_, rfl⟩
  obtain ⟨Z, hZ⟩ : ∃ v, V / 16 % 8 = v := ⟨_, rfl⟩
  have mZ : bits .and .i64 (V / 16) 7 = Z := by rw [← hZ]; exact mask _ 3 (by decide)
  obtain ⟨C, hC⟩ : ∃ v, V / 1 % 16 = v := ⟨_, rfl⟩
  have mC : bits .and .i64 V 15 = C := by rw [← hC, Int.ediv_one]; exact mask _ 4 (by decide)
  rw [hQ, bQ, hO, hA, bA, hT, bT, hD, bD, hR, bR, hZ, hC]
  clear hI hV hQ hO hA hT hD hR hZ hC
  have hb := lay (lay (lay (Below.refl w.heap.size w) (.cells headZ 25)) (.cells (cntV 0 0 0 0) 81)) (.cells (cntV 0 0 0 0) 81)
  have k1 := ((Blk.new w headZ 25).alloc (.cells (cntV 0 0 0 0) 81)).alloc (.cells (cntV 0 0 0 0) 81)
  have k2 := (Blk.new (w.alloc (.cells headZ 25)) (cntV 0 0 0 0) 81).alloc (.cells (cntV 0 0 0 0) 81)
  have k3 := Blk.new ((w.alloc (.cells headZ 25)).alloc (.cells (cntV 0 0 0 0) 81)) (cntV 0 0 0 0) 81
  rw [show (w.alloc (.cells headZ 25)).heap.size = w.heap.size + 1 from by simp] at k2
  rw [show ((w.alloc (.cells headZ 25)).alloc (.cells (cntV 0 0 0 0) 81)).heap.size = w.heap.size + 1 + 1 from by simp] at k3
  have t1 : True := trivial
  go_enter Try.func39, Try.ntmps39
  go_wp2_with (first
    | (go_at_call 44; have _t := t1; go_must (refine (N1 _).mono ?_); rintro e w' ⟨rfl, hw⟩; obtain rfl := hw.symm; clear t1 _t)
    | (go_at_call 44; go_must (refine (N2 _).mono ?_); rintro e w' ⟨rfl, hw⟩; obtain rfl := hw.symm))
  clear N1 N2
  go_loopw [12] (fun i wr => ∃ k : Nat, k ≤ 4 ∧ i = .int .i64 (k : Int) ∧ Blk wr w.heap.size headZ 25 ∧ Blk wr (w.heap.size + 1) (cntV 0 0 0 0) 81 ∧ Blk wr (w.heap.size + 1 + 1) (cntC s k) 81 ∧ Below w.heap.size w wr) (fun i _ => 4 - (intOf i).toNat)
  case atStart => exact ⟨0, by decide, rfl, k1, k2, k3, hb⟩
  case round =>
    clear k1 k2 k3 hb
    obtain ⟨k, hk, rfl, k1, k2, k3, hb⟩ := hrel
    by_cases h4 : k < 4
    · have h4' : (k : Int) < 4 := by omega
      have hat := cnt_at s k h4
      obtain ⟨v, hv⟩ : ∃ v, val s (4 + 2 * k) 2 = v := ⟨_, rfl⟩
      have HN : Hid ((cntC s k).setIfInBounds k (.int .i64 v) = cntC s (k + 1)) := by unfold Hid; rw [← hv]; exact cnt_set s k h4
      have hn := refNum_two s (4 + 2 * k) (4 + 2 * (k : Int)) v hs (by omega) (by omega) hv
      have hcell : wr.cell? ⟨w.heap.size + 1 + 1, k, none⟩ = some (.int .i64 0) := (k3.cell k).trans hat
      have hfro := k3.frozen k
      clear hv
      go_wp2_with (go_at_call 44; go_must (refine (hn _).mono ?_); rintro e w' ⟨rfl, hw⟩; obtain rfl := hw.symm)
      go_roundw
      case rel => exact ⟨k + 1, by omega, by go_num, k1.other (by omega) k _, k2.other (by omega) k _, HN.out ▸ k3.set k (.int .i64 v), hb.setCell (by show w.heap.size ≤ w.heap.size + 1 + 1; omega) _⟩
      case measure => simp [intOf]; omega
    · have h4' : k = 4 := by omega
      subst h4'
      clear h4 hk
      obtain ⟨n0, hn0⟩ : ∃ n, n = val s 4 2 := ⟨_, rfl⟩
      obtain ⟨n1, hn1⟩ : ∃ n, n = val s 6 2 := ⟨_, rfl⟩
      obtain ⟨n2, hn2⟩ : ∃ n, n = val s 8 2 := ⟨_, rfl⟩
      obtain ⟨n3, hn3⟩ : ∃ n, n = val s 10 2 := ⟨_, rfl⟩
      have HC : Hid (cntC s 4 = cntV n0 n1 n2 n3) := by unfold Hid; rw [hn0, hn1, hn2, hn3]; rfl
      rw [HC.out] at k3
      clear hn0 hn1 hn2 hn3
      obtain ⟨c0, c1, c2, c3⟩ := Blk.four k3
      obtain ⟨o0, o1, o2, o3⟩ := Blk.four k2
      obtain ⟨p0, p1, p2, p3⟩ := Blk.open4 k2
      obtain ⟨r0, r1, r2, r3, r4, r5, r6, r7, r8⟩ := Blk.nine k1
      obtain ⟨f0, f1, f2, f3, f4, f5, f6, f7, f8⟩ := Blk.open9 k1
      go_wp2
      go_region
      have q := put4_other (Blk.put9 k1 I Q O A T D R Z C) (b0 := w.heap.size) (g := w.heap.size + 1) (by omega) n0 n1 n2 n3
      have q' := Blk.put4 (put9_other k2 (g := w.heap.size) (by omega) I Q O A T D R Z C) n0 n1 n2 n3
      have qb := put4_below (put9_below hb (Nat.le_refl _) I Q O A T D R Z C) (g := w.heap.size + 1) (by omega) n0 n1 n2 n3
      revert q q' qb
      generalize (((((((((((((wr.setCell ⟨w.heap.size, 0, none⟩ (.int .i64 I)).setCell ⟨w.heap.size, 1, none⟩ (.bool Q)).setCell ⟨w.heap.size, 2, none⟩ (.int .i64 O)).setCell ⟨w.heap.size, 3, none⟩ (.bool A)).setCell ⟨w.heap.size, 4, none⟩ (.bool T)).setCell ⟨w.heap.size, 5, none⟩ (.bool D)).setCell ⟨w.heap.size, 6, none⟩ (.bool R)).setCell ⟨w.heap.size, 7, none⟩ (.int .i64 Z)).setCell ⟨w.heap.size, 8, none⟩ (.int .i64 C)).setCell ⟨w.heap.size + 1, 0, none⟩ (.int .i64 n0)).setCell ⟨w.heap.size + 1, 1, none⟩ (.int .i64 n1)).setCell ⟨w.heap.size + 1, 2, none⟩ (.int .i64 n2)).setCell ⟨w.heap.size + 1, 3, none⟩ (.int .i64 n3)) = W
      intro q q' qb
      replace q := q.drew (w' := W.drew) ⟨1, rfl⟩
      replace q' := q'.drew (w' := W.drew) ⟨1, rfl⟩
      replace qb := next qb (below_drew (w' := W.drew) ⟨1, rfl⟩)
      obtain ⟨q0, q1, q2, q3, q4, q5, q6, q7, q8⟩ := Blk.nine q
      obtain ⟨x0, x1, x2, x3⟩ := Blk.four q'
      go_wp2
      rw [HC.out]
      refine bodyPost_ret (v := .tuple #[.agg (headV I Q O A T D R Z C), .agg (cntV n0 n1 n2 n3), .int .i64 0]) (by simp [results, Try.results39, go_sem, q0, q1, q2, q3, q4, q5, q6, q7, q8, x0, x1, x2, x3, headV, cntV]) rfl ⟨rfl, qb⟩

theorem refGet_any (s : ByteArray) (w : World) (hs : s.size ≤ maxLen) : Calls Try.prog 39 #[.string s] w fun e w' => e = .returned (getT s) ∧ Below w.heap.size w w' := by
  unfold getT
  split
  · rename_i h; exact refGet_yes s w hs h
  · rename_i h; exact refGet_no s w (by omega)

end Go.Proofs.Ytcapankhobnfeaa
