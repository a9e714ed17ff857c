/- What Get of package head gives, for every argument. -/
import Derived.Test.YtdogjbblnjjaaabHdE
namespace Go.Proofs.Ytdogjbblnjjaaab
open Go.RowKit

theorem val2_lt (s : ByteArray) (k : Nat) : 0 ≤ val s k 2 ∧ val s k 2 < 65536 := val_lt s k 2

/-- The world in which Get begins. -/
theorem get_start (s : ByteArray) (w : World) : GAt w (((((w.alloc (.cells #[.string s] 9)).alloc (.cells headZ 29)).alloc (.cells (cntV 0 0 0 0) 47)).alloc (.cells (cntV 0 0 0 0) 47)).alloc (.cells #[.int .i64 0] 3)) w.heap.size (w.heap.size + 1) (w.heap.size + 1 + 1) (w.heap.size + 1 + 1 + 1) (w.heap.size + 1 + 1 + 1 + 1) s (cntC s 0) 0 := by
  have z1 : (w.alloc (.cells #[.string s] 9)).heap.size = w.heap.size + 1 := by simp
  have z2 : ((w.alloc (.cells #[.string s] 9)).alloc (.cells headZ 29)).heap.size = w.heap.size + 1 + 1 := by simp
  have z3 : (((w.alloc (.cells #[.string s] 9)).alloc (.cells headZ 29)).alloc (.cells (cntV 0 0 0 0) 47)).heap.size = w.heap.size + 1 + 1 + 1 := by simp
  have z4 : ((((w.alloc (.cells #[.string s] 9)).alloc (.cells headZ 29)).alloc (.cells (cntV 0 0 0 0) 47)).alloc (.cells (cntV 0 0 0 0) 47)).heap.size = w.heap.size + 1 + 1 + 1 + 1 := by simp
  refine ⟨((((Blk.new w _ _).alloc _).alloc _).alloc _).alloc _, ?_, ?_, ?_, ?_, lay (lay (lay (lay (lay (Below.refl _ _) _) _) _) _) _, by omega, by omega⟩
  · have := (((Blk.new (w.alloc (.cells #[.string s] 9)) headZ 29).alloc (.cells (cntV 0 0 0 0) 47)).alloc (.cells (cntV 0 0 0 0) 47)).alloc (.cells #[.int .i64 0] 3)
    rw [z1] at this; exact this
  · have := ((Blk.new ((w.alloc (.cells #[.string s] 9)).alloc (.cells headZ 29)) (cntV 0 0 0 0) 47).alloc (.cells (cntV 0 0 0 0) 47)).alloc (.cells #[.int .i64 0] 3)
    rw [z2] at this; exact this
  · have := (Blk.new (((w.alloc (.cells #[.string s] 9)).alloc (.cells headZ 29)).alloc (.cells (cntV 0 0 0 0) 47)) (cntV 0 0 0 0) 47).alloc (.cells #[.int .i64 0] 3)
    rw [z3] at this; exact this
  · have := Blk.new ((((w.alloc (.cells #[.string s] 9)).alloc (.cells headZ 29)).alloc (.cells (cntV 0 0 0 0) 47)).alloc (.cells (cntV 0 0 0 0) 47)) #[.int .i64 0] 3
    rw [z4] at this; exact this

set_option maxRecDepth 20000 in
set_option maxHeartbeats 8000000 in
theorem get_yes (s : ByteArray) (w : World) (hs : s.size ≤ maxLen) (h : 12 ≤ s.size) :
    Calls Try.prog 11 #[.string s] w fun e w' => e = .returned (.tuple #[.agg (headW (val s 0 2) (val s 2 2)), .agg (cntC s 4), .int .i64 0]) ∧ Below w.heap.size w w' := by
  have h' : decide ((s.size : Int) < 12) = false := by simp; omega
  obtain ⟨I, hI⟩ : ∃ v, val s 0 2 = v := ⟨_, rfl⟩
  obtain ⟨V, hV⟩ : ∃ v, val s 2 2 = v := ⟨_, rfl⟩
  have hv := val2_lt s 2
  rw [hV] at hv
  have hsp := fun u => hsplit_any V u hv.1 hv.2
  obtain ⟨Q, O, A, T, D, R, Z, C, hH⟩ : ∃ Q O A T D R Z C, ∀ id, headW id V = headV id Q O A T D R Z C := ⟨_, _, _, _, _, _, _, _, fun _ => rfl⟩
  rw [hI, hV, hH I]
  have HI : Hid (val s 0 2 = I) := hI
  have HV : Hid (val s 2 2 = V) := hV
  have wv : IntKind.u16.wrap V = V := wraps_u16 V hv.1 hv.2
  simp only [hH] at hsp
  clear hI hV hH
  have j := get_start s w
  have hmf : ∀ (fn : Fn) (first cap : Array Value) (w : World), (Instr.makeFunc fn first cap).run Try.prog w = .ok (.func fn first cap) w := fun _ _ _ _ => rfl
  have t1 : True := trivial
  unfold headV at hsp
  go_enter Try.func11, Try.ntmps11
  go_wp2_with (first
    | (go_at_call 27; have _t := t1; go_must (refine (gNext j I 2 hs (by omega) HI.out rfl).mono ?_); rintro e w1 ⟨rfl, j1, m1⟩; replace j := j1; clear j1 m1 t1 _t)
    | (go_at_call 27; go_must (refine (gNext j V 4 hs (by omega) HV.out rfl).mono ?_); rintro e w2 ⟨rfl, j1, m1⟩; replace j := j1; clear j1 m1)
    | (go_at_call 29; go_must (refine (hsp _).mono ?_); rintro e w3 ⟨rfl, b3⟩; replace j := GAt.past j b3; have jlt := Blk.lt j.pos; clear b3))
  have kh := Blk.new w3 (headV I Q O A T D R Z C) 29
  replace j := GAt.past j ((Below.refl _ _).alloc (Nat.le_refl _) (.cells (headV I Q O A T D R Z C) 29))
  have hgh : w.heap.size + 1 + 1 + 1 + 1 < w3.heap.size := jlt
  obtain ⟨gh, hg⟩ : ∃ gh, gh = w3.heap.size := ⟨_, rfl⟩
  rw [← hg] at kh hgh ⊢
  clear hg jlt
  go_loopw [25] (fun i wr => ∃ k : Nat, k ≤ 4 ∧ i = .int .i64 (k : Int) ∧ GAt w wr w.heap.size (w.heap.size + 1) (w.heap.size + 1 + 1) (w.heap.size + 1 + 1 + 1) (w.heap.size + 1 + 1 + 1 + 1) s (cntC s k) (4 + 2 * k) ∧ Blk wr gh (headV I Q O A T D R Z C) 29) (fun i _ => 4 - (intOf i).toNat)
  case atStart => exact ⟨0, by decide, rfl, j, kh⟩
  case round =>
    clear j kh
    obtain ⟨k, hk, rfl, j, kh⟩ := hrel
    by_cases h4 : k < 4
    · have h4' : (k : Int) < 4 := by omega
      have hat := cnt_at s k h4
      obtain ⟨v, hv⟩ : ∃ v, val s (4 + 2 * k) 2 = v := ⟨_, rfl⟩
      have HN : Hid ((cntC s k).setIfInBounds k (.int .i64 v) = cntC s (k + 1)) := by unfold Hid; rw [← hv]; exact cnt_set s k h4
      have HV2 : Hid (val s (4 + 2 * k) 2 = v) := hv
      have hsz : 4 + 2 * k + 2 ≤ s.size := by omega
      have HM : Hid (4 + 2 * k + 2 = 4 + 2 * (k + 1)) := by unfold Hid; omega
      clear hv
      go_wp2_with (go_at_call 27; go_must (refine (gNext j v (4 + 2 * (k + 1)) hs hsz HV2.out HM.out).mono ?_); rintro e w4 ⟨rfl, j1, m1⟩; replace j := j1; replace kh := m1.1 _ _ _ (by omega) kh; clear j1 m1; have hcell : w4.cell? ⟨w.heap.size + 1 + 1 + 1, k, none⟩ = some (.int .i64 0) := (j.cnt.cell k).trans hat; have hfro := j.cnt.frozen k)
      go_roundw
      case rel => exact ⟨k + 1, by omega, by go_num, GAt.put j k (.int .i64 v) _ HN.out, kh.other (by omega) k _⟩
      case measure => simp [intOf]; omega
    · have h4' : k = 4 := by omega
      subst h4'
      clear h4 hk hsp
      obtain ⟨n0, hn0⟩ : ∃ n, n = val s 4 2 := ⟨_, rfl⟩
      obtain ⟨n1, hn1⟩ : ∃ n, n = val s 6 2 := ⟨_, rfl⟩
      obtain ⟨n2, hn2⟩ : ∃ n, n = val s 8 2 := ⟨_, rfl⟩
      obtain ⟨n3, hn3⟩ : ∃ n, n = val s 10 2 := ⟨_, rfl⟩
      have HC : Hid (cntC s 4 = cntV n0 n1 n2 n3) := by unfold Hid; rw [hn0, hn1, hn2, hn3]; rfl
      rw [HC.out] at j
      clear hn0 hn1 hn2 hn3
      obtain ⟨c0, c1, c2, c3⟩ := Blk.four j.cnt
      obtain ⟨o0, o1, o2, o3⟩ := Blk.four j.out
      obtain ⟨p0, p1, p2, p3⟩ := Blk.open4 j.out
      obtain ⟨d0, d1, d2, d3, d4, d5, d6, d7, d8⟩ := Blk.nine kh
      obtain ⟨r0, r1, r2, r3, r4, r5, r6, r7, r8⟩ := Blk.nine j.res
      obtain ⟨f0, f1, f2, f3, f4, f5, f6, f7, f8⟩ := Blk.open9 j.res
      go_wp2
      go_region
      have q := put4_other (Blk.put9 j.res I Q O A T D R Z C) (b0 := w.heap.size + 1) (g := w.heap.size + 1 + 1) (by omega) n0 n1 n2 n3
      have q' := Blk.put4 (put9_other j.out (g := w.heap.size + 1) (by omega) I Q O A T D R Z C) n0 n1 n2 n3
      have qb := put4_below (put9_below j.below j.new.1 I Q O A T D R Z C) j.new.2.1 n0 n1 n2 n3
      revert q q' qb
      generalize (((((((((((((wr.setCell ⟨w.heap.size + 1, 0, none⟩ (.int .i64 I)).setCell ⟨w.heap.size + 1, 1, none⟩ (.bool Q)).setCell ⟨w.heap.size + 1, 2, none⟩ (.int .i64 O)).setCell ⟨w.heap.size + 1, 3, none⟩ (.bool A)).setCell ⟨w.heap.size + 1, 4, none⟩ (.bool T)).setCell ⟨w.heap.size + 1, 5, none⟩ (.bool D)).setCell ⟨w.heap.size + 1, 6, none⟩ (.bool R)).setCell ⟨w.heap.size + 1, 7, none⟩ (.int .i64 Z)).setCell ⟨w.heap.size + 1, 8, none⟩ (.int .i64 C)).setCell ⟨w.heap.size + 1 + 1, 0, none⟩ (.int .i64 n0)).setCell ⟨w.heap.size + 1 + 1, 1, none⟩ (.int .i64 n1)).setCell ⟨w.heap.size + 1 + 1, 2, none⟩ (.int .i64 n2)).setCell ⟨w.heap.size + 1 + 1, 3, none⟩ (.int .i64 n3)) = W
      intro q q' qb
      replace q := q.drew (w' := W.drew) ⟨1, rfl⟩
      replace q' := q'.drew (w' := W.drew) ⟨1, rfl⟩
      replace qb := next qb (below_drew (w' := W.drew) ⟨1, rfl⟩)
      obtain ⟨q0, q1, q2, q3, q4, q5, q6, q7, q8⟩ := Blk.nine q
      obtain ⟨m0, m1, m2, m3⟩ := Blk.four q'
      go_wp2
      rw [HC.out]
      refine bodyPost_ret (v := .tuple #[.agg (headV I Q O A T D R Z C), .agg (cntV n0 n1 n2 n3), .int .i64 0]) (by simp [results, Try.results11, go_sem, q0, q1, q2, q3, q4, q5, q6, q7, q8, m0, m1, m2, m3, headV, cntV]) rfl ⟨rfl, qb⟩

/-- What Get gives. -/
def getT (s : ByteArray) : Value := if 12 ≤ s.size then .tuple #[.agg (headW (val s 0 2) (val s 2 2)), .agg (cntC s 4), .int .i64 0] else .tuple #[.agg headZ, .agg (cntV 0 0 0 0), .int .i64 600]
theorem get_any (s : ByteArray) (w : World) (hs : s.size ≤ maxLen) : Calls Try.prog 11 #[.string s] w fun e w' => e = .returned (getT s) ∧ Below w.heap.size w w' := by
  unfold getT
  split
  · rename_i h; exact get_yes s w hs h
  · rename_i h; exact get_no s w hs (by omega)
/-- What Put gives. -/
def putT (id : Int) (qr : Bool) (op : Int) (aa tc rd ra : Bool) (z rc a b c d : Int) : Value := if mayH id op z rc a b c d then .tuple #[.string (putS id (wordH qr op aa tc rd ra z rc) a b c d 4), .int .i64 0] else .tuple #[.string ⟨#[]⟩, .int .i64 600]
theorem put_any (id : Int) (qr : Bool) (op : Int) (aa tc rd ra : Bool) (z rc a b c d : Int) (w : World) :
    Calls Try.prog 16 #[.agg (headV id qr op aa tc rd ra z rc), .agg (cntV a b c d)] w fun e w' => e = .returned (putT id qr op aa tc rd ra z rc a b c d) ∧ Below w.heap.size w w' := by
  unfold putT
  split
  · rename_i h; exact put_yes id qr op aa tc rd ra z rc a b c d w h
  · rename_i h; exact put_no id qr op aa tc rd ra z rc a b c d w (by simpa using h)

end Go.Proofs.Ytdogjbblnjjaaab
