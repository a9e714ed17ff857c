/- What the document's GetHead gives, for every argument. -/
import Derived.Test.YtbffnicfibfceaaXP10
import Derived.Test.YtbffnicfibfceaaXP7
import Derived.Test.YtbffnicfibfceaaXP9
namespace Go.Proofs.Ytbffnicfibfceaa
open Go.RowKit

theorem refNum_two (s : ByteArray) (k : Nat) (x v : Int) (hs : s.size ≤ maxLen) (hx : x = (k : Int)) (h : k + 2 ≤ s.size) (hv : val s k 2 = v) (u : World) :
    Calls Try.prog 43 #[.string s, .int .i64 x, .int .i64 2] u fun e w' => e = .returned (.tuple #[.int .i64 v, .int .i64 (x + 2), .int .i64 0]) ∧ w' = u := by
  subst hx
  subst hv
  exact refNum_yes s k 2 u hs (by decide) h

set_option maxRecDepth 20000 in
set_option maxHeartbeats 4000000 in
theorem refGet_no (s : ByteArray) (w : World) (h : s.size < 12) :
    Calls Try.prog 28 #[.string s] w fun e w' => e = .returned (.tuple #[.agg headZ, .agg (cntV 0 0 0 0), .int .i64 600]) ∧ Below w.heap.size w w' := by
  have h' : (s.size : Int) < 12 := by omega
  go_enter Try.func28, Try.ntmps28
  go_wp2
  go_region
  go_wp2
  refine bodyPost_ret (v := .tuple #[.agg headZ, .agg (cntV 0 0 0 0), .int .i64 600]) (by simp [results, Try.results28, go_sem, headZ, headV, cntV]) rfl ⟨rfl, next (lay (lay (lay (Below.refl _ _) _) _) _) (below_drew ⟨1, rfl⟩)⟩

set_option maxRecDepth 20000 in
set_option maxHeartbeats 8000000 in
theorem refGet_yes (s : ByteArray) (w : World) (hs : s.size ≤ maxLen) (h : 12 ≤ s.size) :
    Calls Try.prog 28 #[.string s] w fun e w' => e = .returned (.tuple #[.agg (headW (val s 0 2) (val s 2 2)), .agg (cntC s 4), .int .i64 0]) ∧ Below w.heap.size w w' := by
  have h' : decide ((s.size : Int) < 12) = false := by simp; omega
  obtain ⟨I, hI⟩ : ∃ v, val s 0 2 = v := ⟨_, rfl⟩
  obtain ⟨V, hV⟩ : ∃ v, val s 2 2 = v := ⟨_, rfl⟩
  have hv := val2_lt s 2
  rw [hV] at hv
  have N1 := refNum_two s 0 0 I hs rfl (by omega) hI
  have N2 := refNum_two s 2 2 V hs rfl (by omega) hV
  rw [hI, hV]
  unfold headW
  obtain ⟨yQ, hQ⟩ : ∃ v, V / 32768 % 2 = v := ⟨_, rfl⟩
  have mQ : bits .and .i64 (V / 32768) 1 = yQ := by rw [← hQ]; exact mask1 _
  obtain ⟨Q, bQ⟩ : ∃ v, (yQ == 1) = v := ⟨_, rfl⟩
  obtain ⟨O, hO⟩ : ∃ v, V / 2048 % 16 = v := ⟨_, rfl⟩
  have mO : bits .and .i64 (V / 2048) 15 = O := by rw [← hO]; exact mask _ 4 (by decide)
  obtain ⟨yA, hA⟩ : ∃ v, V / 1024 % 2 = v := ⟨_, rfl⟩
  have mA : bits .and .i64 (V / 1024) 1 = yA := by rw [← hA]; exact mask1 _
  obtain ⟨A, bA⟩ : ∃ v, (yA == 1) = v := ⟨_, rfl⟩
  obtain ⟨yT, hT⟩ : ∃ v, V / 512 % 2 = v := ⟨_, rfl⟩
  have mT : bits .and .i64 (V / 512) 1 = yT := by rw [← hT]; exact mask1 _
  obtain ⟨T, bT⟩ : ∃ v, (yT == 1) = v := ⟨_, rfl⟩
  obtain ⟨yD, hD⟩ : ∃ v, V / 256 % 2 = v := ⟨_, rfl⟩
  have mD : bits .and .i64 (V / 256) 1 = yD := by rw [← hD]; exact mask1 _
  obtain ⟨D, bD⟩ : ∃ v, (yD == 1) = v := ⟨_, rfl⟩
  obtain ⟨yR, hR⟩ : ∃ v, V / 128 % 2 = v := ⟨_, rfl⟩
  have mR : bits .and .i64 (V / 128) 1 = yR := by rw [← hR]; exact mask1 _
  obtain ⟨R, bR⟩ : ∃ v, (yR == 1) = v := ⟨_, rfl⟩
  obtain ⟨Z, hZ⟩ : ∃ v, V / 16 % 8 = v := ⟨_, rfl⟩
  have mZ : bits .and .i64 (V / 16) 7 = Z := by rw [← hZ]; exact mask _ 3 (by decide)
  obtain ⟨C, hC⟩ : ∃ v, V / 1 % 16 = v := ⟨_, rfl⟩
  have mC : bits .and .i64 V 15 = C := by rw [← hC, Int.ediv_one]; exact mask _ 4 (by decide)
  rw [hQ, bQ, hO, hA, bA, hT, bT, hD, bD, hR, bR, hZ, hC]
  clear hI hV hQ hO hA hT hD hR hZ hC
  have hb := lay (lay (lay (Below.refl w.heap.size w) (.cells headZ 23)) (.cells (cntV 0 0 0 0) 48)) (.cells (cntV 0 0 0 0) 48)
  have k1 := ((Blk.new w headZ 23).alloc (.cells (cntV 0 0 0 0) 48)).alloc (.cells (cntV 0 0 0 0) 48)
  have k2 := (Blk.new (w.alloc (.cells headZ 23)) (cntV 0 0 0 0) 48).alloc (.cells (cntV 0 0 0 0) 48)
  have k3 := Blk.new ((w.alloc (.cells headZ 23)).alloc (.cells (cntV 0 0 0 0) 48)) (cntV 0 0 0 0) 48
  rw [show (w.alloc (.cells headZ 23)).heap.size = w.heap.size + 1 from by simp] at k2
  rw [show ((w.alloc (.cells headZ 23)).alloc (.cells (cntV 0 0 0 0) 48)).heap.size = w.heap.size + 1 + 1 from by simp] at k3
  have t1 : True := trivial
  go_enter Try.func28, Try.ntmps28
  go_wp2_with (first
    | (go_at_call 43; have _t := t1; go_must (refine (N1 _).mono ?_); rintro e w' ⟨rfl, hw⟩; obtain rfl := hw.symm; clear t1 _t)
    | (go_at_call 43; go_must (refine (N2 _).mono ?_); rintro e w' ⟨rfl, hw⟩; obtain rfl := hw.symm))
  clear N1 N2
  go_loopw [12] (fun i wr => ∃ k : Nat, k ≤ 4 ∧ i = .int .i64 (k : Int) ∧ Blk wr w.heap.size headZ 23 ∧ Blk wr (w.heap.size + 1) (cntV 0 0 0 0) 48 ∧ Blk wr (w.heap.size + 1 + 1) (cntC s k) 48 ∧ Below w.heap.size w wr) (fun i _ => 4 - (intOf i).toNat)
  case atStart => exact ⟨0, by decide, rfl, k1, k2, k3, hb⟩
  case round =>
    clear k1 k2 k3 hb
    obtain ⟨k, hk, rfl, k1, k2, k3, hb⟩ := hrel
    by_cases h4 : k < 4
    · have h4' : (k : Int) < 4 := by omega
      have hat := cnt_at s k h4
      obtain ⟨v, hv⟩ : ∃ v, val s (4 + 2 * k) 2 = v := ⟨_, rfl⟩
      have HN : Hid ((cntC s k).setIfInBounds k (.int .i64 v) = cntC s (k + 1)) := by unfold Hid; rw [← hv]; exact cnt_set s k h4
      have hn := refNum_two s (4 + 2 * k) (4 + 2 * (k : Int)) v hs (by omega) (by omega) hv
      have hcell : wr.cell? ⟨w.heap.size + 1 + 1, k, none⟩ = some (.int .i64 0) := (k3.cell k).trans hat
      have hfro := k3.frozen k
      clear hv
      go_wp2_with (go_at_call 43; go_must (refine (hn _).mono ?_); rintro e w' ⟨rfl, hw⟩; obtain rfl := hw.symm)
      go_roundw
      case rel => exact ⟨k + 1, by omega, by go_num, k1.other (by omega) k _, k2.other (by omega) k _, HN.out ▸ k3.set k (.int .i64 v), hb.setCell (by show w.heap.size ≤ w.heap.size + 1 + 1; omega) _⟩
      case measure => simp [intOf]; omega
    · have h4' : k = 4 := by omega
      subst h4'
      clear h4 hk
      obtain ⟨n0, hn0⟩ : ∃ n, n = val s 4 2 := ⟨_, rfl⟩
      obtain ⟨n1, hn1⟩ : ∃ n, n = val s 6 2 := ⟨_, rfl⟩
      obtain ⟨n2, hn2⟩ : ∃ n, n = val s 8 2 := ⟨_, rfl⟩
      obtain ⟨n3, hn3⟩ : ∃ n, n = val s 10 2 := ⟨_, rfl⟩
      have HC : Hid (cntC s 4 = cntV n0 n1 n2 n3) := by unfold Hid; rw [hn0, hn1, hn2, hn3]; rfl
      rw [HC.out] at k3
      clear hn0 hn1 hn2 hn3
      obtain ⟨c0, c1, c2, c3⟩ := Blk.four k3
      obtain ⟨o0, o1, o2, o3⟩ := Blk.four k2
      obtain ⟨p0, p1, p2, p3⟩ := Blk.open4 k2
      obtain ⟨r0, r1, r2, r3, r4, r5, r6, r7, r8⟩ := Blk.nine k1
      obtain ⟨f0, f1, f2, f3, f4, f5, f6, f7, f8⟩ := Blk.open9 k1
      go_wp2
      go_region
      have q := put4_other (Blk.put9 k1 I Q O A T D R Z C) (b0 := w.heap.size) (g := w.heap.size + 1) (by omega) n0 n1 n2 n3
      have q' := Blk.put4 (put9_other k2 (g := w.heap.size) (by omega) I Q O A T D R Z C) n0 n1 n2 n3
      have qb := put4_below (put9_below hb (Nat.le_refl _) I Q O A T D R Z C) (g := w.heap.size + 1) (by omega) n0 n1 n2 n3
      revert q q' qb
      generalize (((((((((((((wr.setCell ⟨w.heap.size, 0, none⟩ (.int .i64 I)).setCell ⟨w.heap.size, 1, none⟩ (.bool Q)).setCell ⟨w.heap.size, 2, none⟩ (.int .i64 O)).setCell ⟨w.heap.size, 3, none⟩ (.bool A)).setCell ⟨w.heap.size, 4, none⟩ (.bool T)).setCell ⟨w.heap.size, 5, none⟩ (.bool D)).setCell ⟨w.heap.size, 6, none⟩ (.bool R)).setCell ⟨w.heap.size, 7, none⟩ (.int .i64 Z)).setCell ⟨w.heap.size, 8, none⟩ (.int .i64 C)).setCell ⟨w.heap.size + 1, 0, none⟩ (.int .i64 n0)).setCell ⟨w.heap.size + 1, 1, none⟩ (.int .i64 n1)).setCell ⟨w.heap.size + 1, 2, none⟩ (.int .i64 n2)).setCell ⟨w.heap.size + 1, 3, none⟩ (.int .i64 n3)) = W
      intro q q' qb
      replace q := q.drew (w' := W.drew) ⟨1, rfl⟩
      replace q' := q'.drew (w' := W.drew) ⟨1, rfl⟩
      replace qb := next qb (below_drew (w' := W.drew) ⟨1, rfl⟩)
      obtain ⟨q0, q1, q2, q3, q4, q5, q6, q7, q8⟩ := Blk.nine q
      obtain ⟨x0, x1, x2, x3⟩ := Blk.four q'
      go_wp2
      rw [HC.out]
      refine bodyPost_ret (v := .tuple #[.agg (headV I Q O A T D R Z C), .agg (cntV n0 n1 n2 n3), .int .i64 0]) (by simp [results, Try.results28, go_sem, q0, q1, q2, q3, q4, q5, q6, q7, q8, x0, x1, x2, x3, headV, cntV]) rfl ⟨rfl, qb⟩

theorem refGet_any (s : ByteArray) (w : World) (hs : s.size ≤ maxLen) : Calls Try.prog 28 #[.string s] w fun e w' => e = .returned (getT s) ∧ Below w.heap.size w w' := by
  unfold getT
  split
  · rename_i h; exact refGet_yes s w hs h
  · rename_i h; exact refGet_no s w (by omega)

end Go.Proofs.Ytbffnicfibfceaa

/- What the document's question and record give. -/
namespace Go.Proofs.Ytbffnicfibfceaa
open Go.RowKit
open Pl

theorem data_zero (l : List UInt8) (p n : Nat) : dataOf l p n 0 = none := by
  rw [data_o (by decide) (by decide) (by decide), may_none (.inl (by decide))]; rfl
theorem getQ_nameless {s : ByteArray} {p : Nat} (h : nameOf s.data.toList p = none) : getQ s p = none ∧ getR s p = none := by
  unfold getQ getR; rw [h]; exact ⟨rfl, rfl⟩
theorem getQ_at {s : ByteArray} {p a : Nat} {n : List UInt8} (h : nameOf s.data.toList p = some (n, a)) : getQ s p = if a + 4 ≤ s.size ∧ val s a 2 ≠ 0 then some (⟨⟨n.toArray⟩, val s a 2, val s (a + 2) 2⟩, a + 4) else none := by
  unfold getQ; rw [h]
theorem getR_none {s : ByteArray} {p : Nat} (h : getQ s p = none) : getR s p = none := by
  cases hn : nameOf s.data.toList p with
  | none => exact (getQ_nameless hn).2
  | some z =>
    obtain ⟨n, a⟩ := z
    rw [getQ_at hn] at h
    split at h
    · simp at h
    · rename_i h1
      unfold getR
      rw [hn]
      simp only
      by_cases h2 : a + 4 ≤ s.size
      · have h0 : val s a 2 = 0 := by
          by_cases e : val s a 2 = 0
          · exact e
          · exact absurd ⟨h2, e⟩ h1
        rw [h0, data_zero]
        simp
      · rw [if_neg (by omega)]
theorem getR_some {s : ByteArray} {p a : Nat} {q : Qn} (h : getQ s p = some (q, a)) :
    getR s p = if a + 6 + (val s (a + 4) 2).toNat ≤ s.size then (match dataOf s.data.toList (a + 6) (val s (a + 4) 2).toNat q.t with | none => none | some d => some (⟨q.n, q.t, q.c, val s a 4, ⟨d.toArray⟩⟩, a + 6 + (val s (a + 4) 2).toNat)) else none := by
  cases hn : nameOf s.data.toList p with
  | none => rw [(getQ_nameless hn).1] at h; simp at h
  | some z =>
    obtain ⟨n, b⟩ := z
    rw [getQ_at hn] at h
    split at h
    · simp at h
      obtain ⟨rfl, rfl⟩ := h
      unfold getR
      rw [hn]
      simp only
      rw [show b + 4 + 6 = b + 10 from by omega, show b + 4 + 4 = b + 8 from by omega]
      cases dataOf s.data.toList (b + 10) (val s (b + 8) 2).toNat (val s b 2) <;> rfl
    · simp at h

/-- What the document's Num answers, as letters. -/
theorem rnum_form (s : ByteArray) (p n : Nat) (hs : s.size ≤ 4096) (hn : n ≤ 4) : (p + n ≤ s.size ∧ ∀ u, Calls Try.prog 43 #[.string s, .int .i64 (p : Int), .int .i64 (n : Int)] u fun e w' => e = .returned (.tuple #[.int .i64 (val s p n), .int .i64 ((p + n : Nat) : Int), .int .i64 0]) ∧ w' = u) ∨
    (s.size < p + n ∧ ∀ u, Calls Try.prog 43 #[.string s, .int .i64 (p : Int), .int .i64 (n : Int)] u fun e w' => e = .returned (.tuple #[.int .i64 0, .int .i64 ((0 : Nat) : Int), .int .i64 300]) ∧ w' = u) := by
  have hm : s.size ≤ maxLen := small100 (by omega)
  by_cases h : p + n ≤ s.size
  · left
    refine ⟨h, fun u => ?_⟩
    rw [Int.natCast_add]
    exact refNum_yes s p n u hm hn h
  · right
    exact ⟨by omega, fun u => refNum_no s p n u hm hn (.inr (by omega))⟩

/-- What question leaves. -/
def QueP (s : ByteArray) (p : Nat) (w : World) (e : Ending) (w' : World) : Prop := ∃ (q : Qn) (p' : Nat) (ok : Bool), e = .returned (.tuple #[.agg #[.string q.n, .int .i64 q.t, .int .i64 q.c], .int .i64 (p' : Int), .bool ok]) ∧ Below w.heap.size w w' ∧ p' ≤ 5000 ∧ ((ok = true ∧ getQ s p = some (q, p')) ∨ (ok = false ∧ getQ s p = none))
theorem qz (w : World) : Blk (w.alloc (.cells #[.string ⟨#[]⟩, .int .i64 0, .int .i64 0] 40)) w.heap.size #[.string ⟨#[]⟩, .int .i64 0, .int .i64 0] 40 := Blk.new _ _ _

set_option maxRecDepth 20000 in
set_option maxHeartbeats 1000000 in
theorem rque_none (s : ByteArray) (p : Nat) (w : World) (hs : s.size ≤ 4096) (h : nameOf s.data.toList p = none) : Calls Try.prog 29 #[.string s, .int .i64 (p : Int)] w (QueP s p w) := by
  have hc := fun u => rName_as s p none u (by omega) h
  unfold nmV at hc
  have HQ : Hid (getQ s p = none) := (getQ_nameless h).1
  have KB := qz w
  have hb : Below w.heap.size w _ := lay (Below.refl _ _) (.cells #[.string ⟨#[]⟩, .int .i64 0, .int .i64 0] 40)
  clear h
  go_enter Try.func29, Try.ntmps29
  go_wp2_with (go_at_call 44; go_must (refine (hc _).mono ?_); rintro e w1 ⟨rfl, bb⟩; replace KB := KB.below bb; replace hb := next hb bb; have c0 : w1.cell? ⟨w.heap.size, 0, none⟩ = some (.string ⟨#[]⟩) := KB.cell 0; have c1 : w1.cell? ⟨w.heap.size, 1, none⟩ = some (.int .i64 0) := KB.cell 1; have c2 : w1.cell? ⟨w.heap.size, 2, none⟩ = some (.int .i64 0) := KB.cell 2; have f0 := KB.frozen 0; have f1 := KB.frozen 1; have f2 := KB.frozen 2; clear bb)
  have q := ((KB.set 0 (.string ⟨#[]⟩)).set 1 (.int .i64 0)).set 2 (.int .i64 0)
  have qb := ((hb.setCell (p := ⟨w.heap.size, 0, none⟩) (Nat.le_refl _) (.string ⟨#[]⟩)).setCell (p := ⟨w.heap.size, 1, none⟩) (Nat.le_refl _) (.int .i64 0)).setCell (p := ⟨w.heap.size, 2, none⟩) (Nat.le_refl _) (.int .i64 0)
  have m0 := q.cell 0
  have m1 := q.cell 1
  have m2 := q.cell 2
  refine bodyPost_ret (v := .tuple #[.agg #[.string ⟨#[]⟩, .int .i64 0, .int .i64 0], .int .i64 0, .bool false]) (by simp [results, Try.results29, go_sem, m0, m1, m2]) rfl ⟨⟨⟨#[]⟩, 0, 0⟩, 0, false, rfl, qb, by decide, .inr ⟨rfl, HQ.out⟩⟩

/-- The name was read; what is behind it, as letters. -/
theorem rque_some (s : ByteArray) (p a : Nat) (N : ByteArray) (x y E F : Int) (b d : Nat) (ok : Bool) (w : World) (hs : s.size ≤ 4096) (h : nameOf s.data.toList p = some (N.data.toList, a)) (hd : d ≤ 5000)
    (h1 : ∀ u, Calls Try.prog 43 #[.string s, .int .i64 (a : Int), .int .i64 2] u fun e w' => e = .returned (.tuple #[.int .i64 x, .int .i64 (b : Int), .int .i64 E]) ∧ w' = u)
    (h2 : ∀ u, Calls Try.prog 43 #[.string s, .int .i64 (b : Int), .int .i64 2] u fun e w' => e = .returned (.tuple #[.int .i64 y, .int .i64 (d : Int), .int .i64 F]) ∧ w' = u)
    (hok : (E = 0 ∧ F = 0 ∧ ok = decide (0 < x)) ∨ (E = 0 ∧ F = 300 ∧ ok = false) ∨ (E = 300 ∧ ok = false)) (hg : (ok = true ∧ getQ s p = some (⟨N, x, y⟩, d)) ∨ (ok = false ∧ getQ s p = none)) : Calls Try.prog 29 #[.string s, .int .i64 (p : Int)] w (QueP s p w) := by
  have hc := fun u => rName_as s p (some (N.data.toList, a)) u (by omega) h
  unfold nmV at hc
  simp only [arr_list] at hc
  have KB := qz w
  have hb : Below w.heap.size w _ := lay (Below.refl _ _) (.cells #[.string ⟨#[]⟩, .int .i64 0, .int .i64 0] 40)
  have HG : Hid ((ok = true ∧ getQ s p = some (⟨N, x, y⟩, d)) ∨ (ok = false ∧ getQ s p = none)) := hg
  have t1 : True := trivial
  clear h hg
  rcases hok with ⟨rfl, rfl, hok⟩ | ⟨rfl, rfl, hok⟩ | ⟨rfl, hok⟩
  all_goals
    have HK : Hid (ok = _) := hok
    clear hok
    go_enter Try.func29, Try.ntmps29
    go_wp2_with (first
      | (go_at_call 44; go_must (refine (hc _).mono ?_); rintro e w1 ⟨rfl, bb⟩; replace KB := KB.below bb; replace hb := next hb bb; have c0 : w1.cell? ⟨w.heap.size, 0, none⟩ = some (.string ⟨#[]⟩) := KB.cell 0; have c1 : w1.cell? ⟨w.heap.size, 1, none⟩ = some (.int .i64 0) := KB.cell 1; have c2 : w1.cell? ⟨w.heap.size, 2, none⟩ = some (.int .i64 0) := KB.cell 2; have f0 := KB.frozen 0; have f1 := KB.frozen 1; have f2 := KB.frozen 2; clear bb)
      | (go_at_call 43; have _t := t1; go_must (refine (h1 _).mono ?_); rintro e w' ⟨rfl, hw⟩; obtain rfl := hw.symm; clear t1 _t)
      | (go_at_call 43; go_must (refine (h2 _).mono ?_); rintro e w' ⟨rfl, hw⟩; obtain rfl := hw.symm))
    have q := ((KB.set 0 (.string N)).set 1 (.int .i64 x)).set 2 (.int .i64 y)
    have qb := ((hb.setCell (p := ⟨w.heap.size, 0, none⟩) (Nat.le_refl _) (.string N)).setCell (p := ⟨w.heap.size, 1, none⟩) (Nat.le_refl _) (.int .i64 x)).setCell (p := ⟨w.heap.size, 2, none⟩) (Nat.le_refl _) (.int .i64 y)
    have m0 := q.cell 0
    have m1 := q.cell 1
    have m2 := q.cell 2
    refine bodyPost_ret (v := .tuple #[.agg #[.string N, .int .i64 x, .int .i64 y], .int .i64 (d : Int), .bool ok]) (by rw [HK.out]; simp [results, Try.results29, go_sem, m0, m1, m2]) rfl ⟨⟨N, x, y⟩, d, ok, rfl, qb, hd, HG.out⟩

theorem rque_any (s : ByteArray) (p : Nat) (w : World) (hs : s.size ≤ 4096) : Calls Try.prog 29 #[.string s, .int .i64 (p : Int)] w (QueP s p w) := by
  cases h : nameOf s.data.toList p with
  | none => exact rque_none s p w hs h
  | some z =>
    obtain ⟨n, a⟩ := z
    have ha := (nameOf_some h).2.1
    rw [data_len] at ha
    have h' : nameOf s.data.toList p = some ((⟨n.toArray⟩ : ByteArray).data.toList, a) := by rw [list_arr]; exact h
    have hq := getQ_at h
    rcases rnum_form s a 2 hs (by decide) with ⟨a1, c1⟩ | ⟨a1, c1⟩
    · rcases rnum_form s (a + 2) 2 hs (by decide) with ⟨a2, c2⟩ | ⟨a2, c2⟩
      · have hx := val_lt s a 2
        refine rque_some s p a ⟨n.toArray⟩ _ _ 0 0 (a + 2) (a + 2 + 2) (decide (0 < val s a 2)) w hs h' (by omega) c1 c2 (.inl ⟨rfl, rfl, rfl⟩) ?_
        by_cases e : val s a 2 = 0
        · right
          rw [hq, if_neg (fun hh => hh.2 e), e]; exact ⟨rfl, rfl⟩
        · left
          rw [hq, if_pos ⟨by omega, e⟩]
          exact ⟨by simp; omega, rfl⟩
      · refine rque_some s p a ⟨n.toArray⟩ _ _ 0 300 (a + 2) 0 false w hs h' (by omega) c1 c2 (.inr (.inl ⟨rfl, rfl, rfl⟩)) (.inr ⟨rfl, ?_⟩)
        rw [hq, if_neg (by omega)]
    · rcases rnum_form s 0 2 hs (by decide) with ⟨a2, c2⟩ | ⟨a2, c2⟩
      · refine rque_some s p a ⟨n.toArray⟩ _ _ 300 0 0 (0 + 2) false w hs h' (by omega) c1 c2 (.inr (.inr ⟨rfl, rfl⟩)) (.inr ⟨rfl, ?_⟩)
        rw [hq, if_neg (by omega)]
      · refine rque_some s p a ⟨n.toArray⟩ _ _ 300 300 0 0 false w hs h' (by omega) c1 c2 (.inr (.inr ⟨rfl, rfl⟩)) (.inr ⟨rfl, ?_⟩)
        rw [hq, if_neg (by omega)]

/-- What record leaves. -/
def RecP (s : ByteArray) (p : Nat) (w : World) (e : Ending) (w' : World) : Prop := ∃ (r : Rc) (p' : Nat) (ok : Bool), e = .returned (.tuple #[.agg #[.string r.n, .int .i64 r.t, .int .i64 r.c, .int .i64 r.l, .string r.d], .int .i64 (p' : Int), .bool ok]) ∧ Below w.heap.size w w' ∧ p' ≤ 100000 ∧ ((ok = true ∧ getR s p = some (r, p')) ∨ (ok = false ∧ getR s p = none))
/-- What the document's Data answers, as letters. -/
theorem rdt_form (s : ByteArray) (p n : Nat) (t : Int) (hs : s.size ≤ 4096) : ∃ (D : ByteArray) (E : Int), (∀ u, Calls Try.prog 45 #[.string s, .int .i64 (p : Int), .int .i64 (n : Int), .int .i64 t] u fun e w' => e = .returned (.tuple #[.string D, .int .i64 E]) ∧ Below u.heap.size u w') ∧
    ((E = 0 ∧ p + n ≤ s.size ∧ dataOf s.data.toList p n t = some D.data.toList) ∨ (E ≠ 0 ∧ (s.size < p + n ∨ dataOf s.data.toList p n t = none))) := by
  by_cases hp : p + n ≤ s.size
  · have := fun u => rData_any s p n t u (by omega) hp
    cases h : dataOf s.data.toList p n t with
    | none => rw [h] at this; exact ⟨_, _, this, .inr ⟨by decide, .inr rfl⟩⟩
    | some d => rw [h] at this; exact ⟨⟨d.toArray⟩, _, this, .inl ⟨rfl, hp, by rw [list_arr]⟩⟩
  · exact ⟨_, _, fun u => rData_bad s p n t u (by omega) (.inr (.inr (by omega))), .inr ⟨by decide, .inl (by omega)⟩⟩
theorem rnum_l (s : ByteArray) (p n : Nat) (hs : s.size ≤ 4096) (hn : n ≤ 4) : ∃ (x b : Nat) (E : Int), (∀ u, Calls Try.prog 43 #[.string s, .int .i64 (p : Int), .int .i64 (n : Int)] u fun e w' => e = .returned (.tuple #[.int .i64 (x : Int), .int .i64 (b : Int), .int .i64 E]) ∧ w' = u) ∧ b ≤ 5000 ∧ (x : Int) < 256 ^ n ∧ ((E = 0 ∧ p + n ≤ s.size ∧ val s p n = (x : Int) ∧ b = p + n) ∨ (E = 300 ∧ s.size < p + n)) := by
  have hv := val_lt s p n
  rcases rnum_form s p n hs hn with ⟨a1, c1⟩ | ⟨a1, c1⟩
  · have e : val s p n = ((val s p n).toNat : Int) := by omega
    refine ⟨(val s p n).toNat, p + n, 0, ?_, by omega, by omega, .inl ⟨rfl, a1, e, rfl⟩⟩
    rw [← e]; exact c1
  · exact ⟨0, 0, 300, c1, by decide, Int.pow_pos (by decide), .inr ⟨rfl, a1⟩⟩
theorem rz (w : World) : Blk (w.alloc (.cells #[.string ⟨#[]⟩, .int .i64 0, .int .i64 0, .int .i64 0, .string ⟨#[]⟩] 54)) w.heap.size #[.string ⟨#[]⟩, .int .i64 0, .int .i64 0, .int .i64 0, .string ⟨#[]⟩] 54 := Blk.new _ _ _
theorem rz_set {w u : World} {n d : ByteArray} {t c l : Int} (hb : Below w.heap.size w u) (k : Blk u w.heap.size #[.string ⟨#[]⟩, .int .i64 0, .int .i64 0, .int .i64 0, .string ⟨#[]⟩] 54) :
    Below w.heap.size w (((((u.setCell ⟨w.heap.size, 0, none⟩ (.string n)).setCell ⟨w.heap.size, 1, none⟩ (.int .i64 t)).setCell ⟨w.heap.size, 2, none⟩ (.int .i64 c)).setCell ⟨w.heap.size, 3, none⟩ (.int .i64 l)).setCell ⟨w.heap.size, 4, none⟩ (.string d)) ∧ Blk (((((u.setCell ⟨w.heap.size, 0, none⟩ (.string n)).setCell ⟨w.heap.size, 1, none⟩ (.int .i64 t)).setCell ⟨w.heap.size, 2, none⟩ (.int .i64 c)).setCell ⟨w.heap.size, 3, none⟩ (.int .i64 l)).setCell ⟨w.heap.size, 4, none⟩ (.string d)) w.heap.size #[.string n, .int .i64 t, .int .i64 c, .int .i64 l, .string d] 54 :=
  ⟨((((hb.setCell (p := ⟨w.heap.size, 0, none⟩) (Nat.le_refl _) _).setCell (p := ⟨w.heap.size, 1, none⟩) (Nat.le_refl _) _).setCell (p := ⟨w.heap.size, 2, none⟩) (Nat.le_refl _) _).setCell (p := ⟨w.heap.size, 3, none⟩) (Nat.le_refl _) _).setCell (p := ⟨w.heap.size, 4, none⟩) (Nat.le_refl _) _, ((((k.set 0 _).set 1 _).set 2 _).set 3 _).set 4 _⟩

/-- One of two, told by a mark. -/
def Alt (ok : Bool) (A B : Prop) : Prop := (ok = true ∧ A) ∨ (ok = false ∧ B)
theorem rec_bad {s : ByteArray} {p a : Nat} {q : Qn} (h : Alt true (getQ s p = some (q, a)) (getQ s p = none)) (hs : s.size < a + 6) : getR s p = none := by
  rcases h with ⟨_, h⟩ | ⟨h, _⟩
  · rw [getR_some h, if_neg (by omega)]
  · simp at h
theorem rec_no {s : ByteArray} {p a : Nat} {q : Qn} (h : Alt false (getQ s p = some (q, a)) (getQ s p = none)) : getR s p = none := by
  rcases h with ⟨h, _⟩ | ⟨_, h⟩
  · simp at h
  · exact getR_none h
theorem rec_fin {s : ByteArray} {p a l z b d : Nat} {q : Qn} {G : Int} {D : ByteArray} (h : Alt true (getQ s p = some (q, a)) (getQ s p = none)) (h1 : a + 4 ≤ s.size ∧ val s a 4 = (l : Int) ∧ b = a + 4) (h2 : b + 2 ≤ s.size ∧ val s b 2 = (z : Int) ∧ d = b + 2)
    (h3 : (G = 0 ∧ d + z ≤ s.size ∧ dataOf s.data.toList d z q.t = some D.data.toList) ∨ (G ≠ 0 ∧ (s.size < d + z ∨ dataOf s.data.toList d z q.t = none))) :
    ((G == 0) = true ∧ getR s p = some (⟨q.n, q.t, q.c, (l : Int), D⟩, d + z)) ∨ ((G == 0) = false ∧ getR s p = none) := by
  obtain ⟨a1, a2, rfl⟩ := h1
  obtain ⟨b1, b2, rfl⟩ := h2
  rcases h with ⟨_, h⟩ | ⟨h, _⟩
  · rw [getR_some h, b2, a2]
    rw [show a + 4 + 2 = a + 6 from by omega] at h3 ⊢
    simp only [Int.toNat_natCast]
    rcases h3 with ⟨rfl, c1, c2⟩ | ⟨c1, c2 | c2⟩
    · left
      rw [if_pos c1, c2]
      exact ⟨rfl, by simp only [arr_list]⟩
    · right
      rw [if_neg (by omega)]
      exact ⟨by simpa using c1, rfl⟩
    · right
      rw [c2]
      exact ⟨by simpa using c1, by split <;> rfl⟩
  · simp at h

set_option maxRecDepth 20000 in
set_option maxHeartbeats 2000000 in
theorem rrec_any (s : ByteArray) (p : Nat) (w : World) (hs : s.size ≤ 4096) : Calls Try.prog 30 #[.string s, .int .i64 (p : Int)] w (RecP s p w) := by
  have KB := rz w
  have hb : Below w.heap.size w _ := lay (Below.refl _ _) (.cells #[.string ⟨#[]⟩, .int .i64 0, .int .i64 0, .int .i64 0, .string ⟨#[]⟩] 54)
  have hcq := fun u => rque_any s p u hs
  have t1 : True := trivial
  go_enter Try.func30, Try.ntmps30
  go_wp2_with (first
    | (go_at_call 29; go_must (refine (hcq _).mono ?_); rintro e w1 ⟨q, a, ok, rfl, bb, ha, hq⟩; obtain ⟨qn, qt, qc⟩ := q; have HQ : Hid (Alt ok (getQ s p = some (⟨qn, qt, qc⟩, a)) (getQ s p = none)) := hq; replace KB := KB.below bb; replace hb := next hb bb; have c0 : w1.cell? ⟨w.heap.size, 0, none⟩ = some (.string ⟨#[]⟩) := KB.cell 0; have f0 := KB.frozen 0; have c1 : w1.cell? ⟨w.heap.size, 1, none⟩ = some (.int .i64 0) := KB.cell 1; have f1 := KB.frozen 1; have c2 : w1.cell? ⟨w.heap.size, 2, none⟩ = some (.int .i64 0) := KB.cell 2; have f2 := KB.frozen 2; have c3 : w1.cell? ⟨w.heap.size, 3, none⟩ = some (.int .i64 0) := KB.cell 3; have f3 := KB.frozen 3; have c4 : w1.cell? ⟨w.heap.size, 4, none⟩ = some (.string ⟨#[]⟩) := KB.cell 4; have f4 := KB.frozen 4; have klt := KB.lt; clear bb hq hcq; cases ok)
    | (go_at_call 43; have _t := t1; obtain ⟨l, b, E, h1, hb1, hl1, hE⟩ := rnum_l s a 4 hs (by decide); go_must (refine (h1 _).mono ?_); rintro e w' ⟨rfl, hw⟩; obtain rfl := hw.symm; clear t1 _t h1; rcases hE with ⟨rfl, e1⟩ | ⟨rfl, e1⟩ <;> have HE : Hid _ := e1 <;> clear e1)
    | (go_at_call 43; obtain ⟨z, d, F, h2, hd1, hz1, hF⟩ := rnum_l s b 2 hs (by decide); go_must (refine (h2 _).mono ?_); rintro e w' ⟨rfl, hw⟩; obtain rfl := hw.symm; clear h2; rcases hF with ⟨rfl, e1⟩ | ⟨rfl, e1⟩ <;> have HF : Hid _ := e1 <;> clear e1)
    | (go_at_call 45; obtain ⟨D, G, h3, hG⟩ := rdt_form s d z qt hs; go_must (refine (h3 _).mono ?_); rintro e w2 ⟨rfl, bb⟩; have HG : Hid ((G = 0 ∧ d + z ≤ s.size ∧ dataOf s.data.toList d z qt = some D.data.toList) ∨ (G ≠ 0 ∧ (s.size < d + z ∨ dataOf s.data.toList d z qt = none))) := hG; replace KB := (KB.alloc _).below bb; have KQ := (Blk.new w1 #[.string qn, .int .i64 qt, .int .i64 qc] 40).below bb; replace hb := next (lay hb _) bb; clear c0 c1 c2 c3 c4 f0 f1 f2 f3 f4; have c0 : w2.cell? ⟨w.heap.size, 0, none⟩ = some (.string ⟨#[]⟩) := KB.cell 0; have f0 := KB.frozen 0; have c1 : w2.cell? ⟨w.heap.size, 1, none⟩ = some (.int .i64 0) := KB.cell 1; have f1 := KB.frozen 1; have c2 : w2.cell? ⟨w.heap.size, 2, none⟩ = some (.int .i64 0) := KB.cell 2; have f2 := KB.frozen 2; have c3 : w2.cell? ⟨w.heap.size, 3, none⟩ = some (.int .i64 0) := KB.cell 3; have f3 := KB.frozen 3; have c4 : w2.cell? ⟨w.heap.size, 4, none⟩ = some (.string ⟨#[]⟩) := KB.cell 4; have f4 := KB.frozen 4; have k0 : w2.cell? ⟨w1.heap.size, 0, none⟩ = some (.string qn) := KQ.cell 0; have k1 : w2.cell? ⟨w1.heap.size, 1, none⟩ = some (.int .i64 qt) := KQ.cell 1; have k2 : w2.cell? ⟨w1.heap.size, 2, none⟩ = some (.int .i64 qc) := KQ.cell 2; clear h3 hG bb))
  · skip
    obtain ⟨qb, q⟩ := rz_set (n := ⟨#[]⟩) (t := 0) (c := 0) (l := 0) (d := ⟨#[]⟩) hb KB
    clear c0 c1 c2 c3 c4 f0 f1 f2 f3 f4 hb KB
    revert qb q
    generalize (((((w1.setCell ⟨w.heap.size, 0, none⟩ (.string ⟨#[]⟩)).setCell ⟨w.heap.size, 1, none⟩ (.int .i64 0)).setCell ⟨w.heap.size, 2, none⟩ (.int .i64 0)).setCell ⟨w.heap.size, 3, none⟩ (.int .i64 0)).setCell ⟨w.heap.size, 4, none⟩ (.string ⟨#[]⟩)) = V
    intro qb q
    replace q := q.alloc (.cells #[.string qn, .int .i64 qt, .int .i64 qc] 40)
    replace qb := lay qb (.cells #[.string qn, .int .i64 qt, .int .i64 qc] 40)
    have m0 := q.cell 0
    have m1 := q.cell 1
    have m2 := q.cell 2
    have m3 := q.cell 3
    have m4 := q.cell 4
    refine bodyPost_ret (v := .tuple #[.agg #[.string ⟨#[]⟩, .int .i64 0, .int .i64 0, .int .i64 0, .string ⟨#[]⟩], .int .i64 0, .bool false]) (by simp [results, Try.results30, go_sem, m0, m1, m2, m3, m4]) rfl ⟨⟨⟨#[]⟩, 0, 0, 0, ⟨#[]⟩⟩, 0, false, rfl, qb, by decide, .inr ⟨rfl, rec_no HQ.out⟩⟩
  · obtain ⟨qb, q⟩ := rz_set (n := qn) (t := qt) (c := qc) (l := (l : Int)) (d := D) hb KB
    have hfin := rec_fin HQ.out HE.out HF.out HG.out
    clear c0 c1 c2 c3 c4 f0 f1 f2 f3 f4 hb KB
    revert qb q
    generalize (((((w2.setCell ⟨w.heap.size, 0, none⟩ (.string qn)).setCell ⟨w.heap.size, 1, none⟩ (.int .i64 qt)).setCell ⟨w.heap.size, 2, none⟩ (.int .i64 qc)).setCell ⟨w.heap.size, 3, none⟩ (.int .i64 (l : Int))).setCell ⟨w.heap.size, 4, none⟩ (.string D)) = V
    intro qb q
    have m0 := q.cell 0
    have m1 := q.cell 1
    have m2 := q.cell 2
    have m3 := q.cell 3
    have m4 := q.cell 4
    refine bodyPost_ret (v := .tuple #[.agg #[.string qn, .int .i64 qt, .int .i64 qc, .int .i64 (l : Int), .string D], .int .i64 ((d : Int) + (z : Int)), .bool (G == 0)]) (by simp [results, Try.results30, go_sem, m0, m1, m2, m3, m4]) rfl ⟨⟨qn, qt, qc, (l : Int), D⟩, d + z, (G == 0), by rw [Int.natCast_add], qb, by omega, hfin⟩
  · skip
    obtain ⟨qb, q⟩ := rz_set (n := ⟨#[]⟩) (t := 0) (c := 0) (l := 0) (d := ⟨#[]⟩) hb KB
    clear c0 c1 c2 c3 c4 f0 f1 f2 f3 f4 hb KB
    revert qb q
    generalize (((((w1.setCell ⟨w.heap.size, 0, none⟩ (.string ⟨#[]⟩)).setCell ⟨w.heap.size, 1, none⟩ (.int .i64 0)).setCell ⟨w.heap.size, 2, none⟩ (.int .i64 0)).setCell ⟨w.heap.size, 3, none⟩ (.int .i64 0)).setCell ⟨w.heap.size, 4, none⟩ (.string ⟨#[]⟩)) = V
    intro qb q
    replace q := q.alloc (.cells #[.string qn, .int .i64 qt, .int .i64 qc] 40)
    replace qb := lay qb (.cells #[.string qn, .int .i64 qt, .int .i64 qc] 40)
    have m0 := q.cell 0
    have m1 := q.cell 1
    have m2 := q.cell 2
    have m3 := q.cell 3
    have m4 := q.cell 4
    refine bodyPost_ret (v := .tuple #[.agg #[.string ⟨#[]⟩, .int .i64 0, .int .i64 0, .int .i64 0, .string ⟨#[]⟩], .int .i64 0, .bool false]) (by simp [results, Try.results30, go_sem, m0, m1, m2, m3, m4]) rfl ⟨⟨⟨#[]⟩, 0, 0, 0, ⟨#[]⟩⟩, 0, false, rfl, qb, by decide, .inr ⟨rfl, rec_bad HQ.out (by have := HE.out; have := HF.out; omega)⟩⟩
  · skip
    obtain ⟨qb, q⟩ := rz_set (n := ⟨#[]⟩) (t := 0) (c := 0) (l := 0) (d := ⟨#[]⟩) hb KB
    clear c0 c1 c2 c3 c4 f0 f1 f2 f3 f4 hb KB
    revert qb q
    generalize (((((w1.setCell ⟨w.heap.size, 0, none⟩ (.string ⟨#[]⟩)).setCell ⟨w.heap.size, 1, none⟩ (.int .i64 0)).setCell ⟨w.heap.size, 2, none⟩ (.int .i64 0)).setCell ⟨w.heap.size, 3, none⟩ (.int .i64 0)).setCell ⟨w.heap.size, 4, none⟩ (.string ⟨#[]⟩)) = V
    intro qb q
    replace q := q.alloc (.cells #[.string qn, .int .i64 qt, .int .i64 qc] 40)
    replace qb := lay qb (.cells #[.string qn, .int .i64 qt, .int .i64 qc] 40)
    have m0 := q.cell 0
    have m1 := q.cell 1
    have m2 := q.cell 2
    have m3 := q.cell 3
    have m4 := q.cell 4
    refine bodyPost_ret (v := .tuple #[.agg #[.string ⟨#[]⟩, .int .i64 0, .int .i64 0, .int .i64 0, .string ⟨#[]⟩], .int .i64 0, .bool false]) (by simp [results, Try.results30, go_sem, m0, m1, m2, m3, m4]) rfl ⟨⟨⟨#[]⟩, 0, 0, 0, ⟨#[]⟩⟩, 0, false, rfl, qb, by decide, .inr ⟨rfl, rec_bad HQ.out (by have := HE.out; omega)⟩⟩
  · skip
    obtain ⟨qb, q⟩ := rz_set (n := ⟨#[]⟩) (t := 0) (c := 0) (l := 0) (d := ⟨#[]⟩) hb KB
    clear c0 c1 c2 c3 c4 f0 f1 f2 f3 f4 hb KB
    revert qb q
    generalize (((((w1.setCell ⟨w.heap.size, 0, none⟩ (.string ⟨#[]⟩)).setCell ⟨w.heap.size, 1, none⟩ (.int .i64 0)).setCell ⟨w.heap.size, 2, none⟩ (.int .i64 0)).setCell ⟨w.heap.size, 3, none⟩ (.int .i64 0)).setCell ⟨w.heap.size, 4, none⟩ (.string ⟨#[]⟩)) = V
    intro qb q
    replace q := q.alloc (.cells #[.string qn, .int .i64 qt, .int .i64 qc] 40)
    replace qb := lay qb (.cells #[.string qn, .int .i64 qt, .int .i64 qc] 40)
    have m0 := q.cell 0
    have m1 := q.cell 1
    have m2 := q.cell 2
    have m3 := q.cell 3
    have m4 := q.cell 4
    refine bodyPost_ret (v := .tuple #[.agg #[.string ⟨#[]⟩, .int .i64 0, .int .i64 0, .int .i64 0, .string ⟨#[]⟩], .int .i64 0, .bool false]) (by simp [results, Try.results30, go_sem, m0, m1, m2, m3, m4]) rfl ⟨⟨⟨#[]⟩, 0, 0, 0, ⟨#[]⟩⟩, 0, false, rfl, qb, by decide, .inr ⟨rfl, rec_bad HQ.out (by have := HE.out; omega)⟩⟩

end Go.Proofs.Ytbffnicfibfceaa

/- What the document's GetMsg holds while it reads. -/
namespace Go.Proofs.Ytbffnicfibfceaa
open Go.RowKit
open Pl

/-- Rows of two types lie in two blocks. -/
theorem apart_types {w : World} {B B' e e' z z' n n' : Nat} {v v' : Value} {xs xs' : List Value} (h : w.ownsRow B e z v n xs) (h' : w.ownsRow B' e' z' v' n' xs') (he : e ≠ e') : ∀ k, v.ownBlock = some k → v'.ownBlock ≠ some k := by
  intro k hk hk'
  rcases h.2 with ⟨h1, _⟩ | ⟨g, cap, cur, h1, _, hg, _⟩
  · rw [h1] at hk; simp [Value.ownBlock] at hk
  · rcases h'.2 with ⟨h2, _⟩ | ⟨g', cap', cur', h2, _, hg', _⟩
    · rw [h2] at hk'; simp [Value.ownBlock] at hk'
    · rw [h1] at hk
      rw [h2] at hk'
      simp [Value.ownBlock] at hk hk'
      subst hk
      subst hk'
      rw [hg] at hg'
      simp at hg'
      exact he hg'.2
/-- Another row lies as it lay where one has grown. -/
theorem own_beside {u w' : World} {B e z n : Nat} {v v0 : Value} {xs : List Value} (h : u.ownsRow B e z v n xs) (o : Obj) (hg : (u.alloc o).grownBy w' v0.ownBlock) (hd : ∀ k, v0.ownBlock = some k → v.ownBlock ≠ some k) : w'.ownsRow B e z v n xs :=
  Turn.row (S := fun k => v0.ownBlock = some k) (Turn.of_grown hg (fun _ hk => hk)) (h.alloc o) (fun k hk e => hd k e hk)
theorem new_apart {u : World} {B e z n : Nat} {v v0 v5 : Value} {xs : List Value} (h : u.ownsRow B e z v n xs) (hd : ∀ k, v0.ownBlock = some k → v.ownBlock ≠ some k) (at5 : v5.ownBlock = v0.ownBlock ∨ ∃ g, v5.ownBlock = some g ∧ u.heap.size ≤ g) : ∀ k, v5.ownBlock = some k → v.ownBlock ≠ some k := by
  intro k hk hv
  rcases at5 with e | ⟨g, e, hg⟩
  · rw [e] at hk; exact hd k hk hv
  · rw [e] at hk
    simp at hk
    subst hk
    have := (h.lt _ hv).2
    omega
theorem flip_apart {a b : Value} (h : ∀ k, a.ownBlock = some k → b.ownBlock ≠ some k) : ∀ k, b.ownBlock = some k → a.ownBlock ≠ some k := fun k hb ha => h k ha hb

section
variable {B : Nat} {u w5 : World} {v0 v1 v2 v3 v5 : Value} {m : Ms} {o : Obj} {N : Nat}
theorem Own.addQ {q : Qn} (h : Own B u v0 v1 v2 v3 m) (own5 : w5.ownsRow B 40 3 v5 N (qC (m.qs ++ [q]))) (hN : N = (m.qs ++ [q]).length) (grow5 : (u.alloc o).grownBy w5 v0.ownBlock) : Own B w5 v5 v1 v2 v3 ⟨m.h, m.qs ++ [q], m.an, m.ns, m.ar⟩ :=
  ⟨by simp only; rw [← hN]; exact own5, own_beside h.an o grow5 (apart_types h.q h.an (by decide)), own_beside h.ns o grow5 (apart_types h.q h.ns (by decide)), own_beside h.ar o grow5 (apart_types h.q h.ar (by decide)), h.d12, h.d13, h.d23⟩
theorem Own.addA {q : Rc} (h : Own B u v0 v1 v2 v3 m) (own5 : w5.ownsRow B 54 5 v5 N (rC (m.an ++ [q]))) (hN : N = (m.an ++ [q]).length) (grow5 : (u.alloc o).grownBy w5 v1.ownBlock) (at5 : v5.ownBlock = v1.ownBlock ∨ ∃ g, v5.ownBlock = some g ∧ u.heap.size ≤ g) : Own B w5 v0 v5 v2 v3 ⟨m.h, m.qs, m.an ++ [q], m.ns, m.ar⟩ :=
  ⟨own_beside h.q o grow5 (apart_types h.an h.q (by decide)), by simp only; rw [← hN]; exact own5, own_beside h.ns o grow5 h.d12, own_beside h.ar o grow5 h.d13, new_apart h.ns h.d12 at5, new_apart h.ar h.d13 at5, h.d23⟩
theorem Own.addN {q : Rc} (h : Own B u v0 v1 v2 v3 m) (own5 : w5.ownsRow B 54 5 v5 N (rC (m.ns ++ [q]))) (hN : N = (m.ns ++ [q]).length) (grow5 : (u.alloc o).grownBy w5 v2.ownBlock) (at5 : v5.ownBlock = v2.ownBlock ∨ ∃ g, v5.ownBlock = some g ∧ u.heap.size ≤ g) : Own B w5 v0 v1 v5 v3 ⟨m.h, m.qs, m.an, m.ns ++ [q], m.ar⟩ :=
  ⟨own_beside h.q o grow5 (apart_types h.ns h.q (by decide)), own_beside h.an o grow5 (flip_apart h.d12), by simp only; rw [← hN]; exact own5, own_beside h.ar o grow5 h.d23, flip_apart (new_apart h.an (flip_apart h.d12) at5), h.d13, new_apart h.ar h.d23 at5⟩
theorem Own.addR {q : Rc} (h : Own B u v0 v1 v2 v3 m) (own5 : w5.ownsRow B 54 5 v5 N (rC (m.ar ++ [q]))) (hN : N = (m.ar ++ [q]).length) (grow5 : (u.alloc o).grownBy w5 v3.ownBlock) (at5 : v5.ownBlock = v3.ownBlock ∨ ∃ g, v5.ownBlock = some g ∧ u.heap.size ≤ g) : Own B w5 v0 v1 v2 v5 ⟨m.h, m.qs, m.an, m.ns, m.ar ++ [q]⟩ :=
  ⟨own_beside h.q o grow5 (apart_types h.ar h.q (by decide)), own_beside h.an o grow5 (flip_apart h.d13), own_beside h.ns o grow5 (flip_apart h.d23), by simp only; rw [← hN]; exact own5, h.d12, flip_apart (new_apart h.an (flip_apart h.d13) at5), flip_apart (new_apart h.ns (flip_apart h.d23) at5)⟩
theorem Own.put {gm : Nat} (h : Own B u v0 v1 v2 v3 m) (hB : gm < B) (i : Nat) (x : Value) : Own B (u.setCell ⟨gm, i, Option.none⟩ x) v0 v1 v2 v3 m :=
  ⟨row_put h.q hB i x, row_put h.an hB i x, row_put h.ns hB i x, row_put h.ar hB i x, h.d12, h.d13, h.d23⟩
end

/-- What GetMsg holds: the result, the counts, the message, its rows. -/
structure GB (w u : World) (gc gm : Nat) (C : Array Value) (hd : Hd) (v0 v1 v2 v3 : Value) (m : Ms) : Prop where
  bel : Below w.heap.size w u
  res : Blk u w.heap.size (msgC hdZ (.slice none 0 0) (.slice none 0 0) (.slice none 0 0) (.slice none 0 0)) 27
  cnt : Blk u gc C 48
  msg : Blk u gm (msgC hd v0 v1 v2 v3) 27
  own : Own (gm + 1) u v0 v1 v2 v3 m
  n1 : w.heap.size < gc
  n2 : gc < gm
  n4 : gm < u.heap.size
section
variable {w u u' w5 : World} {gc gm : Nat} {C : Array Value} {hd : Hd} {v0 v1 v2 v3 v5 : Value} {m m' : Ms} {o : Obj}
theorem GB.below (j : GB w u gc gm C hd v0 v1 v2 v3 m) (hb : Below u.heap.size u u') : GB w u' gc gm C hd v0 v1 v2 v3 m :=
  ⟨next j.bel hb, j.res.below hb, j.cnt.below hb, j.msg.below hb, j.own.below hb, j.n1, j.n2, Nat.lt_of_lt_of_le j.n4 hb.size⟩
/-- One row has grown, and its place in the message is stored. -/
theorem GB.grown (j : GB w u gc gm C hd v0 v1 v2 v3 m) {x : Value} (i : Nat) {u0 u1 u2 u3 : Value} (hx : ∀ k, x.ownBlock = some k → gm + 1 ≤ k) (grow5 : (u.alloc o).grownBy w5 x.ownBlock) (hM : (msgC hd v0 v1 v2 v3).setIfInBounds i v5 = msgC hd u0 u1 u2 u3) (hO : Own (gm + 1) w5 u0 u1 u2 u3 m') : GB w (w5.setCell ⟨gm, i, none⟩ v5) gc gm C hd u0 u1 u2 u3 m' := by
  have ne : ∀ k, k ≤ gm → some k ≠ x.ownBlock := fun k hk e => by have := hx k e.symm; omega
  have h1 := j.n1
  have h2 := j.n2
  refine ⟨?_, ?_, ?_, ?_, hO.put (by omega) i v5, h1, h2, ?_⟩
  · refine ((lay j.bel o).grown grow5 (by have := j.bel.size; simp; omega) (fun k e => by have := hx k e; omega)).setCell (p := ⟨gm, i, none⟩) (by show w.heap.size ≤ gm; omega) v5
  · exact ((j.res.alloc o).grown grow5 (ne w.heap.size (by omega))).other (by omega) i v5
  · exact ((j.cnt.alloc o).grown grow5 (ne gc (by omega))).other (by omega) i v5
  · rw [← hM]; exact ((j.msg.alloc o).grown grow5 (ne _ (Nat.le_refl _))).set i v5
  · have := grow5.size
    have := j.n4
    simp at *
    omega
end

/-- The parts as they are read, one by one: so many of them whole, and k of the next. -/
def sub0 (s : ByteArray) (k : Nat) : Option ((List Qn × List Rc × List Rc × List Rc) × Nat) := match getAll (getQ s) 12 k with
  | none => none
  | some (qs, p) => some ((qs, [], [], []), p)
def sub1 (s : ByteArray) (k : Nat) : Option ((List Qn × List Rc × List Rc × List Rc) × Nat) := match part (getQ s) (cnt s 0) 12 with
  | none => none
  | some (qs, a) => match getAll (getR s) a k with
    | none => none
    | some (an, p) => some ((qs, an, [], []), p)
def sub2 (s : ByteArray) (k : Nat) : Option ((List Qn × List Rc × List Rc × List Rc) × Nat) := match part (getQ s) (cnt s 0) 12 with
  | none => none
  | some (qs, a) => match part (getR s) (cnt s 1) a with
    | none => none
    | some (an, b) => match getAll (getR s) b k with
      | none => none
      | some (ns, p) => some ((qs, an, ns, []), p)
def sub3 (s : ByteArray) (k : Nat) : Option ((List Qn × List Rc × List Rc × List Rc) × Nat) := match part (getQ s) (cnt s 0) 12 with
  | none => none
  | some (qs, a) => match part (getR s) (cnt s 1) a with
    | none => none
    | some (an, b) => match part (getR s) (cnt s 2) b with
      | none => none
      | some (ns, c) => match getAll (getR s) c k with
        | none => none
        | some (ar, p) => some ((qs, an, ns, ar), p)

theorem part_few {α : Type} {f : Nat → Option (α × Nat)} {k p : Nat} (h : k ≤ 64) : part f k p = getAll f p k := by unfold part; rw [if_pos h]
theorem part_lots {α : Type} {f : Nat → Option (α × Nat)} {k p : Nat} (h : ¬ k ≤ 64) : part f k p = none := by unfold part; rw [if_neg h]
/-- A part that is whole. -/
theorem sub_whole0 {s : ByteArray} (h : cnt s 0 ≤ 64) : sub1 s 0 = sub0 s (cnt s 0) := by
  unfold sub1 sub0; rw [part_few h]
  cases getAll (getQ s) 12 (cnt s 0) <;> rfl
theorem sub_whole1 {s : ByteArray} (h : cnt s 1 ≤ 64) : sub2 s 0 = sub1 s (cnt s 1) := by
  unfold sub2 sub1
  cases part (getQ s) (cnt s 0) 12 with
  | none => rfl
  | some z =>
    simp only [part_few h]
    cases getAll (getR s) z.2 (cnt s 1) <;> rfl
theorem sub_whole2 {s : ByteArray} (h : cnt s 2 ≤ 64) : sub3 s 0 = sub2 s (cnt s 2) := by
  unfold sub3 sub2
  cases part (getQ s) (cnt s 0) 12 with
  | none => rfl
  | some z =>
    simp only
    cases part (getR s) (cnt s 1) z.2 with
    | none => rfl
    | some y =>
      simp only [part_few h]
      cases getAll (getR s) y.2 (cnt s 2) <;> rfl
theorem sub_whole3 {s : ByteArray} (h : cnt s 3 ≤ 64) : parts s = sub3 s (cnt s 3) := by
  unfold sub3 parts
  cases part (getQ s) (cnt s 0) 12 with
  | none => rfl
  | some z =>
    simp only
    cases part (getR s) (cnt s 1) z.2 with
    | none => rfl
    | some y =>
      simp only
      cases part (getR s) (cnt s 2) y.2 with
      | none => rfl
      | some x => simp only [part_few h]; cases getAll (getR s) x.2 (cnt s 3) <;> rfl
theorem sub_start (s : ByteArray) : sub0 s 0 = some (([], [], [], []), 12) := rfl
/-- One item more, or none. -/
theorem sub_q {s : ByteArray} {k p : Nat} {qs : List Qn} {a b c : List Rc} (h : sub0 s k = some ((qs, a, b, c), p)) : (∀ x p', getQ s p = some (x, p') → sub0 s (k + 1) = some ((qs ++ [x], a, b, c), p')) ∧ (getQ s p = none → sub0 s (k + 1) = none) := by
  unfold sub0 at h ⊢
  cases h1 : getAll (getQ s) 12 k with
  | none => rw [h1] at h; simp at h
  | some z =>
    obtain ⟨ys, q⟩ := z
    rw [h1] at h
    simp at h
    obtain ⟨⟨rfl, rfl, rfl, rfl⟩, rfl⟩ := h
    exact ⟨fun x p' hx => by rw [getAll_next h1 hx], fun hx => by rw [getAll_stop h1 hx]⟩
theorem sub_a {s : ByteArray} {k p : Nat} {qs : List Qn} {a b c : List Rc} (h : sub1 s k = some ((qs, a, b, c), p)) : (∀ x p', getR s p = some (x, p') → sub1 s (k + 1) = some ((qs, a ++ [x], b, c), p')) ∧ (getR s p = none → sub1 s (k + 1) = none) := by
  unfold sub1 at h ⊢
  cases h0 : part (getQ s) (cnt s 0) 12 with
  | none => rw [h0] at h; simp at h
  | some z =>
    obtain ⟨zs, z0⟩ := z
    rw [h0] at h
    simp only at h ⊢
    cases h1 : getAll (getR s) z0 k with
    | none => rw [h1] at h; simp at h
    | some z =>
      obtain ⟨ys, q⟩ := z
      rw [h1] at h
      simp at h
      obtain ⟨⟨rfl, rfl, rfl, rfl⟩, rfl⟩ := h
      exact ⟨fun x p' hx => by rw [getAll_next h1 hx], fun hx => by rw [getAll_stop h1 hx]⟩
theorem sub_n {s : ByteArray} {k p : Nat} {qs : List Qn} {a b c : List Rc} (h : sub2 s k = some ((qs, a, b, c), p)) : (∀ x p', getR s p = some (x, p') → sub2 s (k + 1) = some ((qs, a, b ++ [x], c), p')) ∧ (getR s p = none → sub2 s (k + 1) = none) := by
  unfold sub2 at h ⊢
  cases h0 : part (getQ s) (cnt s 0) 12 with
  | none => rw [h0] at h; simp at h
  | some z =>
    obtain ⟨zs, z0⟩ := z
    rw [h0] at h
    simp only at h ⊢
    cases h2 : part (getR s) (cnt s 1) z0 with
    | none => rw [h2] at h; simp at h
    | some z =>
      obtain ⟨zs2, z2⟩ := z
      rw [h2] at h
      simp only at h ⊢
      cases h1 : getAll (getR s) z2 k with
      | none => rw [h1] at h; simp at h
      | some z =>
        obtain ⟨ys, q⟩ := z
        rw [h1] at h
        simp at h
        obtain ⟨⟨rfl, rfl, rfl, rfl⟩, rfl⟩ := h
        exact ⟨fun x p' hx => by rw [getAll_next h1 hx], fun hx => by rw [getAll_stop h1 hx]⟩
theorem sub_r {s : ByteArray} {k p : Nat} {qs : List Qn} {a b c : List Rc} (h : sub3 s k = some ((qs, a, b, c), p)) : (∀ x p', getR s p = some (x, p') → sub3 s (k + 1) = some ((qs, a, b, c ++ [x]), p')) ∧ (getR s p = none → sub3 s (k + 1) = none) := by
  unfold sub3 at h ⊢
  cases h0 : part (getQ s) (cnt s 0) 12 with
  | none => rw [h0] at h; simp at h
  | some z =>
    obtain ⟨zs, z0⟩ := z
    rw [h0] at h
    simp only at h ⊢
    cases h2 : part (getR s) (cnt s 1) z0 with
    | none => rw [h2] at h; simp at h
    | some z =>
      obtain ⟨zs2, z2⟩ := z
      rw [h2] at h
      simp only at h ⊢
      cases h3 : part (getR s) (cnt s 2) z2 with
      | none => rw [h3] at h; simp at h
      | some z =>
        obtain ⟨zs3, z3⟩ := z
        rw [h3] at h
        simp only at h ⊢
        cases h1 : getAll (getR s) z3 k with
        | none => rw [h1] at h; simp at h
        | some z =>
          obtain ⟨ys, q⟩ := z
          rw [h1] at h
          simp at h
          obtain ⟨⟨rfl, rfl, rfl, rfl⟩, rfl⟩ := h
          exact ⟨fun x p' hx => by rw [getAll_next h1 hx], fun hx => by rw [getAll_stop h1 hx]⟩
/-- What is lost stays lost. -/
theorem sub0_lost {s : ByteArray} {k j : Nat} (h : sub0 s k = none) (hj : k ≤ j) : sub0 s j = none := by
  unfold sub0 at h ⊢
  cases h1 : getAll (getQ s) 12 k with
  | none => rw [getAll_none h1 j hj]
  | some z => rw [h1] at h; simp at h
theorem sub1_lost {s : ByteArray} {k j : Nat} (h : sub1 s k = none) (hj : k ≤ j) : sub1 s j = none := by
  unfold sub1 at h ⊢
  cases h0 : part (getQ s) (cnt s 0) 12 with
  | none => rfl
  | some z =>
    rw [h0] at h
    simp only at h ⊢
    cases h1 : getAll (getR s) z.2 k with
    | none => rw [getAll_none h1 j hj]
    | some y => rw [h1] at h; simp at h
theorem sub2_lost {s : ByteArray} {k j : Nat} (h : sub2 s k = none) (hj : k ≤ j) : sub2 s j = none := by
  unfold sub2 at h ⊢
  cases h0 : part (getQ s) (cnt s 0) 12 with
  | none => rfl
  | some z =>
    rw [h0] at h
    simp only at h ⊢
    cases h2 : part (getR s) (cnt s 1) z.2 with
    | none => rfl
    | some y =>
      rw [h2] at h
      simp only at h ⊢
      cases h1 : getAll (getR s) y.2 k with
      | none => rw [getAll_none h1 j hj]
      | some x => rw [h1] at h; simp at h
theorem sub3_lost {s : ByteArray} {k j : Nat} (h : sub3 s k = none) (hj : k ≤ j) : sub3 s j = none := by
  unfold sub3 at h ⊢
  cases h0 : part (getQ s) (cnt s 0) 12 with
  | none => rfl
  | some z =>
    rw [h0] at h
    simp only at h ⊢
    cases h2 : part (getR s) (cnt s 1) z.2 with
    | none => rfl
    | some y =>
      rw [h2] at h
      simp only at h ⊢
      cases h3 : part (getR s) (cnt s 2) y.2 with
      | none => rfl
      | some t =>
        rw [h3] at h
        simp only at h ⊢
        cases h1 : getAll (getR s) t.2 k with
        | none => rw [getAll_none h1 j hj]
        | some x => rw [h1] at h; simp at h
/-- Where a part is lost, or there are too many, no message is read. -/
theorem no_parts0 {s : ByteArray} (h : ¬ cnt s 0 ≤ 64 ∨ sub0 s (cnt s 0) = none) : parts s = none := by
  unfold parts
  by_cases hc : cnt s 0 ≤ 64
  · rcases h with h | h
    · exact absurd hc h
    · unfold sub0 at h
      rw [part_few hc]
      cases h1 : getAll (getQ s) 12 (cnt s 0) with
      | none => rfl
      | some z => rw [h1] at h; simp at h
  · rw [part_lots hc]
theorem no_parts1 {s : ByteArray} (h : ¬ cnt s 1 ≤ 64 ∨ sub1 s (cnt s 1) = none) : parts s = none := by
  unfold parts
  cases h0 : part (getQ s) (cnt s 0) 12 with
  | none => rfl
  | some z =>
    simp only
    by_cases hc : cnt s 1 ≤ 64
    · rcases h with h | h
      · exact absurd hc h
      · unfold sub1 at h
        rw [h0] at h
        simp only at h
        rw [part_few hc]
        cases h1 : getAll (getR s) z.2 (cnt s 1) with
        | none => rfl
        | some y => rw [h1] at h; simp at h
    · rw [part_lots hc]
theorem no_parts2 {s : ByteArray} (h : ¬ cnt s 2 ≤ 64 ∨ sub2 s (cnt s 2) = none) : parts s = none := by
  unfold parts
  cases h0 : part (getQ s) (cnt s 0) 12 with
  | none => rfl
  | some z =>
    simp only
    cases h2 : part (getR s) (cnt s 1) z.2 with
    | none => rfl
    | some y =>
      simp only
      by_cases hc : cnt s 2 ≤ 64
      · rcases h with h | h
        · exact absurd hc h
        · unfold sub2 at h
          rw [h0] at h
          simp only at h
          rw [h2] at h
          simp only at h
          rw [part_few hc]
          cases h1 : getAll (getR s) y.2 (cnt s 2) with
          | none => rfl
          | some x => rw [h1] at h; simp at h
      · rw [part_lots hc]
theorem no_parts3 {s : ByteArray} (h : ¬ cnt s 3 ≤ 64 ∨ sub3 s (cnt s 3) = none) : parts s = none := by
  by_cases hc : cnt s 3 ≤ 64
  · rcases h with h | h
    · exact absurd hc h
    · rw [sub_whole3 hc]; exact h
  · unfold parts
    cases h0 : part (getQ s) (cnt s 0) 12 with
    | none => rfl
    | some z =>
      simp only
      cases h2 : part (getR s) (cnt s 1) z.2 with
      | none => rfl
      | some y =>
        simp only
        cases h3 : part (getR s) (cnt s 2) y.2 with
        | none => rfl
        | some x => simp only; rw [part_lots hc]

end Go.Proofs.Ytbffnicfibfceaa
