/- What Get of package head gives, for every argument: its parts. -/
import Derived.Test.YtdogjbblnjjaaabXP7
namespace Go.Proofs.Ytdogjbblnjjaaab
open Go.RowKit

/-- Between two worlds one block is written; all else that lay there lies as it lay. -/
def Moves (w w' : World) (ga : Nat) : Prop := (∀ b B t, b ≠ ga → Blk w b B t → Blk w' b B t) ∧ (∀ w0 : World, w0.heap.size ≤ ga → Below w0.heap.size w0 w → Below w0.heap.size w0 w')

theorem next_any (s : ByteArray) (k gs ga : Nat) (w : World) (hs : s.size ≤ maxLen) (ks : Blk w gs #[.string s] 9) (ka : Blk w ga #[.int .i64 (k : Int)] 3) (h : k + 2 ≤ s.size) :
    Calls Try.prog 27 #[.pointer (some ⟨gs, 0, none⟩), .pointer (some ⟨ga, 0, none⟩)] w fun e w' => e = .returned (.int .i64 (val s k 2)) ∧ Blk w' ga #[.int .i64 ((k + 2 : Nat) : Int)] 3 ∧ Moves w w' ga := by
  have c0 : w.cell? ⟨gs, 0, none⟩ = some (.string s) := ks.cell 0
  have c1 : w.cell? ⟨ga, 0, none⟩ = some (.int .i64 (k : Int)) := ka.cell 0
  have hu := u16_yes s k w hs h
  rw [← val_two s k h] at hu
  obtain ⟨v, hv⟩ : ∃ v, v = val s k 2 := ⟨_, rfl⟩
  rw [← hv] at hu ⊢
  clear hv
  go_enter Try.func27, Try.ntmps27
  go_wp2_with (go_at_call 28; go_must (refine hu.mono ?_); rintro e w1 ⟨rfl, b1⟩; have k1 := ka.drew b1; have c2 : w1.cell? ⟨ga, 0, none⟩ = some (.int .i64 (k : Int)) := k1.cell 0; have f2 := k1.frozen 0)
  go_ret
  refine ⟨rfl, ?_, fun b B t hb kb => (kb.drew b1).other hb 0 _, fun w0 h0 hw => (next hw (below_drew b1)).setCell h0 _⟩
  have := k1.set 0 (.int .i64 ((k : Int) + 2))
  exact this

/-- The counts of a message so far. -/
def cntC (s : ByteArray) : Nat → Array Value
  | 0 => cntV 0 0 0 0
  | 1 => cntV (val s 4 2) 0 0 0
  | 2 => cntV (val s 4 2) (val s 6 2) 0 0
  | 3 => cntV (val s 4 2) (val s 6 2) (val s 8 2) 0
  | _ => cntV (val s 4 2) (val s 6 2) (val s 8 2) (val s 10 2)
theorem cnt_set (s : ByteArray) (k : Nat) (h : k < 4) : (cntC s k).setIfInBounds k (.int .i64 (val s (4 + 2 * k) 2)) = cntC s (k + 1) := by
  have : k = 0 ∨ k = 1 ∨ k = 2 ∨ k = 3 := by omega
  rcases this with rfl | rfl | rfl | rfl <;> rfl
theorem cnt_at (s : ByteArray) (k : Nat) (h : k < 4) : (cntC s k)[k]? = some (.int .i64 0) := by
  have : k = 0 ∨ k = 1 ∨ k = 2 ∨ k = 3 := by omega
  rcases this with rfl | rfl | rfl | rfl <;> rfl

set_option maxRecDepth 20000 in
set_option maxHeartbeats 4000000 in
theorem get_no (s : ByteArray) (w : World) (_hs : s.size ≤ maxLen) (h : s.size < 12) :
    Calls Try.prog 11 #[.string s] w fun e w' => e = .returned (.tuple #[.agg headZ, .agg (cntV 0 0 0 0), .int .i64 600]) ∧ Below w.heap.size w w' := by
  have h' : (s.size : Int) < 12 := by omega
  go_enter Try.func11, Try.ntmps11
  go_wp2
  go_region
  go_wp2
  refine bodyPost_ret (v := .tuple #[.agg headZ, .agg (cntV 0 0 0 0), .int .i64 600]) (by simp [results, Try.results11, go_sem, headZ, headV, cntV]) rfl ⟨rfl, next (lay (lay (lay (lay (Below.refl _ _) _) _) _) _) (below_drew ⟨1, rfl⟩)⟩

/-- What Get holds while it goes on: its argument, its two results' places, the counts so far, the place in s. -/
structure GAt (w0 w : World) (gs gr gq gc ga : Nat) (s : ByteArray) (C : Array Value) (k : Nat) : Prop where
  str : Blk w gs #[.string s] 9
  res : Blk w gr headZ 29
  out : Blk w gq (cntV 0 0 0 0) 47
  cnt : Blk w gc C 47
  pos : Blk w ga #[.int .i64 (k : Int)] 3
  below : Below w0.heap.size w0 w
  ne : (gs ≠ ga ∧ gr ≠ ga ∧ gq ≠ ga ∧ gc ≠ ga) ∧ (gs ≠ gc ∧ gr ≠ gc ∧ gq ≠ gc ∧ ga ≠ gc)
  new : w0.heap.size ≤ gr ∧ w0.heap.size ≤ gq ∧ w0.heap.size ≤ gc ∧ w0.heap.size ≤ ga

theorem GAt.next {w0 w w' : World} {gs gr gq gc ga : Nat} {s : ByteArray} {C : Array Value} {k m : Nat} (j : GAt w0 w gs gr gq gc ga s C k) (ha : Blk w' ga #[.int .i64 (m : Int)] 3) (hm : Moves w w' ga) : GAt w0 w' gs gr gq gc ga s C m :=
  ⟨hm.1 _ _ _ j.ne.1.1 j.str, hm.1 _ _ _ j.ne.1.2.1 j.res, hm.1 _ _ _ j.ne.1.2.2.1 j.out, hm.1 _ _ _ j.ne.1.2.2.2 j.cnt, ha, hm.2 _ j.new.2.2.2 j.below, j.ne, j.new⟩
theorem GAt.past {w0 w w' : World} {gs gr gq gc ga : Nat} {s : ByteArray} {C : Array Value} {k : Nat} (j : GAt w0 w gs gr gq gc ga s C k) (hb : Below w.heap.size w w') : GAt w0 w' gs gr gq gc ga s C k :=
  ⟨j.str.below hb, j.res.below hb, j.out.below hb, j.cnt.below hb, j.pos.below hb, Go.Proofs.Ytdogjbblnjjaaab.next j.below hb, j.ne, j.new⟩
theorem GAt.put {w0 w : World} {gs gr gq gc ga : Nat} {s : ByteArray} {C : Array Value} {k : Nat} (j : GAt w0 w gs gr gq gc ga s C k) (i : Nat) (v : Value) (C' : Array Value) (hC : C.setIfInBounds i v = C') : GAt w0 (w.setCell ⟨gc, i, none⟩ v) gs gr gq gc ga s C' k :=
  ⟨j.str.other j.ne.2.1 i v, j.res.other j.ne.2.2.1 i v, j.out.other j.ne.2.2.2.1 i v, hC ▸ j.cnt.set i v, j.pos.other j.ne.2.2.2.2 i v, j.below.setCell j.new.2.2.1 v, j.ne, j.new⟩

theorem gNext {w0 w : World} {gs gr gq gc ga : Nat} {s : ByteArray} {C : Array Value} {k : Nat} (j : GAt w0 w gs gr gq gc ga s C k) (v : Int) (m : Nat) (hs : s.size ≤ maxLen) (h : k + 2 ≤ s.size) (hv : val s k 2 = v) (hm : k + 2 = m) :
    Calls Try.prog 27 #[.pointer (some ⟨gs, 0, none⟩), .pointer (some ⟨ga, 0, none⟩)] w fun e w' => e = .returned (.int .i64 v) ∧ GAt w0 w' gs gr gq gc ga s C m ∧ Moves w w' ga := by
  subst hv
  subst hm
  exact (next_any s k gs ga w hs j.str j.pos h).mono fun e w' ⟨he, ha, hm⟩ => ⟨he, j.next ha hm, hm⟩

/-- The four cells of counts. -/
theorem Blk.four {w : World} {g : Nat} {a b c d : Int} {t : TypeId} (k : Blk w g (cntV a b c d) t) :
    w.cell? ⟨g, 0, none⟩ = some (.int .i64 a) ∧ w.cell? ⟨g, 1, none⟩ = some (.int .i64 b) ∧ w.cell? ⟨g, 2, none⟩ = some (.int .i64 c) ∧ w.cell? ⟨g, 3, none⟩ = some (.int .i64 d) :=
  ⟨k.cell 0, k.cell 1, k.cell 2, k.cell 3⟩
theorem Blk.open4 {w : World} {g : Nat} {C : Array Value} {t : TypeId} (k : Blk w g C t) :
    w.frozen? ⟨g, 0, none⟩ = false ∧ w.frozen? ⟨g, 1, none⟩ = false ∧ w.frozen? ⟨g, 2, none⟩ = false ∧ w.frozen? ⟨g, 3, none⟩ = false :=
  ⟨k.frozen 0, k.frozen 1, k.frozen 2, k.frozen 3⟩
/-- Counts stored cell by cell. -/
theorem Blk.put4 {w : World} {g : Nat} {a' b' c' d' : Int} {t : TypeId} (k : Blk w g (cntV a' b' c' d') t) (a b c d : Int) :
    Blk ((((w.setCell ⟨g, 0, none⟩ (.int .i64 a)).setCell ⟨g, 1, none⟩ (.int .i64 b)).setCell ⟨g, 2, none⟩ (.int .i64 c)).setCell ⟨g, 3, none⟩ (.int .i64 d)) g (cntV a b c d) t := by
  have q0 : Blk (w.setCell ⟨g, 0, none⟩ (.int .i64 a)) g (cntV a b' c' d') t := k.set 0 _
  have q1 : Blk ((w.setCell ⟨g, 0, none⟩ (.int .i64 a)).setCell ⟨g, 1, none⟩ (.int .i64 b)) g (cntV a b c' d') t := q0.set 1 _
  have q2 : Blk (((w.setCell ⟨g, 0, none⟩ (.int .i64 a)).setCell ⟨g, 1, none⟩ (.int .i64 b)).setCell ⟨g, 2, none⟩ (.int .i64 c)) g (cntV a b c d') t := q1.set 2 _
  have q3 : Blk ((((w.setCell ⟨g, 0, none⟩ (.int .i64 a)).setCell ⟨g, 1, none⟩ (.int .i64 b)).setCell ⟨g, 2, none⟩ (.int .i64 c)).setCell ⟨g, 3, none⟩ (.int .i64 d)) g (cntV a b c d) t := q2.set 3 _
  exact q3
theorem put4_other {w : World} {g b0 : Nat} {C : Array Value} {t : TypeId} (k : Blk w b0 C t) (h : b0 ≠ g) (a b c d : Int) :
    Blk ((((w.setCell ⟨g, 0, none⟩ (.int .i64 a)).setCell ⟨g, 1, none⟩ (.int .i64 b)).setCell ⟨g, 2, none⟩ (.int .i64 c)).setCell ⟨g, 3, none⟩ (.int .i64 d)) b0 C t :=
  (((k.other h 0 _).other h 1 _).other h 2 _).other h 3 _
theorem put4_below {w0 w : World} {g : Nat} (k : Below w0.heap.size w0 w) (h : w0.heap.size ≤ g) (a b c d : Int) :
    Below w0.heap.size w0 ((((w.setCell ⟨g, 0, none⟩ (.int .i64 a)).setCell ⟨g, 1, none⟩ (.int .i64 b)).setCell ⟨g, 2, none⟩ (.int .i64 c)).setCell ⟨g, 3, none⟩ (.int .i64 d)) :=
  (((k.setCell (p := ⟨g, 0, none⟩) h _).setCell (p := ⟨g, 1, none⟩) h _).setCell (p := ⟨g, 2, none⟩) h _).setCell (p := ⟨g, 3, none⟩) h _

end Go.Proofs.Ytdogjbblnjjaaab

/- What Get of package head gives, for every argument. -/
namespace Go.Proofs.Ytdogjbblnjjaaab
open Go.RowKit

theorem val2_lt (s : ByteArray) (k : Nat) : 0 ≤ val s k 2 ∧ val s k 2 < 65536 := val_lt s k 2

/-- The world in which Get begins. -/
theorem get_start (s : ByteArray) (w : World) : GAt w (((((w.alloc (.cells #[.string s] 9)).alloc (.cells headZ 29)).alloc (.cells (cntV 0 0 0 0) 47)).alloc (.cells (cntV 0 0 0 0) 47)).alloc (.cells #[.int .i64 0] 3)) w.heap.size (w.heap.size + 1) (w.heap.size + 1 + 1) (w.heap.size + 1 + 1 + 1) (w.heap.size + 1 + 1 + 1 + 1) s (cntC s 0) 0 := by
  have z1 : (w.alloc (.cells #[.string s] 9)).heap.size = w.heap.size + 1 := by simp
  have z2 : ((w.alloc (.cells #[.string s] 9)).alloc (.cells headZ 29)).heap.size = w.heap.size + 1 + 1 := by simp
  have z3 : (((w.alloc (.cells #[.string s] 9)).alloc (.cells headZ 29)).alloc (.cells (cntV 0 0 0 0) 47)).heap.size = w.heap.size + 1 + 1 + 1 := by simp
  have z4 : ((((w.alloc (.cells #[.string s] 9)).alloc (.cells headZ 29)).alloc (.cells (cntV 0 0 0 0) 47)).alloc (.cells (cntV 0 0 0 0) 47)).heap.size = w.heap.size + 1 + 1 + 1 + 1 := by simp
  refine ⟨((((Blk.new w _ _).alloc _).alloc _).alloc _).alloc _, ?_, ?_, ?_, ?_, lay (lay (lay (lay (lay (Below.refl _ _) _) _) _) _) _, by omega, by omega⟩
  · have := (((Blk.new (w.alloc (.cells #[.string s] 9)) headZ 29).alloc (.cells (cntV 0 0 0 0) 47)).alloc (.cells (cntV 0 0 0 0) 47)).alloc (.cells #[.int .i64 0] 3)
    rw [z1] at this; exact this
  · have := ((Blk.new ((w.alloc (.cells #[.string s] 9)).alloc (.cells headZ 29)) (cntV 0 0 0 0) 47).alloc (.cells (cntV 0 0 0 0) 47)).alloc (.cells #[.int .i64 0] 3)
    rw [z2] at this; exact this
  · have := (Blk.new (((w.alloc (.cells #[.string s] 9)).alloc (.cells headZ 29)).alloc (.cells (cntV 0 0 0 0) 47)) (cntV 0 0 0 0) 47).alloc (.cells #[.int .i64 0] 3)
    rw [z3] at this; exact this
  · have := Blk.new ((((w.alloc (.cells #[.string s] 9)).alloc (.cells headZ 29)).alloc (.cells (cntV 0 0 0 0) 47)).alloc (.cells (cntV 0 0 0 0) 47)) #[.int .i64 0] 3
    rw [z4] at this; exact this

set_option maxRecDepth 20000 in
set_option maxHeartbeats 8000000 in
theorem get_yes (s : ByteArray) (w : World) (hs : s.size ≤ maxLen) (h : 12 ≤ s.size) :
    Calls Try.prog 11 #[.string s] w fun e w' => e = .returned (.tuple #[.agg (headW (val s 0 2) (val s 2 2)), .agg (cntC s 4), .int .i64 0]) ∧ Below w.heap.size w w' := by
  have h' : decide ((s.size : Int) < 12) = false := by simp; omega
  obtain ⟨I, hI⟩ : ∃ v, val s 0 2 = v := ⟨_, rfl⟩
  obtain ⟨V, hV⟩ : ∃ v, val s 2 2 = v := ⟨_, rfl⟩
  have hv := val2_lt s 2
  rw [hV] at hv
  have hsp := fun u => hsplit_any V u hv.1 hv.2
  obtain ⟨Q, O, A, T, D, R, Z, C, hH⟩ : ∃ Q O A T D R Z C, ∀ id, headW id V = headV id Q O A T D R Z C := ⟨_, _, _, _, _, _, _, _, fun _ => rfl⟩
  rw [hI, hV, hH I]
  have HI : Hid (val s 0 2 = I) := hI
  have HV : Hid (val s 2 2 = V) := hV
  have wv : IntKind.u16.wrap V = V := wraps_u16 V hv.1 hv.2
  simp only [hH] at hsp
  clear hI hV hH
  have j := get_start s w
  have hmf : ∀ (fn : Fn) (first cap : Array Value) (w : World), (Instr.makeFunc fn first cap).run Try.prog w = .ok (.func fn first cap) w := fun _ _ _ _ => rfl
  have t1 : True := trivial
  unfold headV at hsp
  go_enter Try.func11, Try.ntmps11
  go_wp2_with (first
    | (go_at_call 27; have _t := t1; go_must (refine (gNext j I 2 hs (by omega) HI.out rfl).mono ?_); rintro e w1 ⟨rfl, j1, m1⟩; replace j := j1; clear j1 m1 t1 _t)
    | (go_at_call 27; go_must (refine (gNext j V 4 hs (by omega) HV.out rfl).mono ?_); rintro e w2 ⟨rfl, j1, m1⟩; replace j := j1; clear j1 m1)
    | (go_at_call 29; go_must (refine (hsp _).mono ?_); rintro e w3 ⟨rfl, b3⟩; replace j := GAt.past j b3; have jlt := Blk.lt j.pos; clear b3))
  have kh := Blk.new w3 (headV I Q O A T D R Z C) 29
  replace j := GAt.past j ((Below.refl _ _).alloc (Nat.le_refl _) (.cells (headV I Q O A T D R Z C) 29))
  have hgh : w.heap.size + 1 + 1 + 1 + 1 < w3.heap.size := jlt
  obtain ⟨gh, hg⟩ : ∃ gh, gh = w3.heap.size := ⟨_, rfl⟩
  rw [← hg] at kh hgh ⊢
  clear hg jlt
  go_loopw [25] (fun i wr => ∃ k : Nat, k ≤ 4 ∧ i = .int .i64 (k : Int) ∧ GAt w wr w.heap.size (w.heap.size + 1) (w.heap.size + 1 + 1) (w.heap.size + 1 + 1 + 1) (w.heap.size + 1 + 1 + 1 + 1) s (cntC s k) (4 + 2 * k) ∧ Blk wr gh (headV I Q O A T D R Z C) 29) (fun i _ => 4 - (intOf i).toNat)
  case atStart => exact ⟨0, by decide, rfl, j, kh⟩
  case round =>
    clear j kh
    obtain ⟨k, hk, rfl, j, kh⟩ := hrel
    by_cases h4 : k < 4
    · have h4' : (k : Int) < 4 := by omega
      have hat := cnt_at s k h4
      obtain ⟨v, hv⟩ : ∃ v, val s (4 + 2 * k) 2 = v := ⟨_, rfl⟩
      have HN : Hid ((cntC s k).setIfInBounds k (.int .i64 v) = cntC s (k + 1)) := by unfold Hid; rw [← hv]; exact cnt_set s k h4
      have HV2 : Hid (val s (4 + 2 * k) 2 = v) := hv
      have hsz : 4 + 2 * k + 2 ≤ s.size := by omega
      have HM : Hid (4 + 2 * k + 2 = 4 + 2 * (k + 1)) := by unfold Hid; omega
      clear hv
      go_wp2_with (go_at_call 27; go_must (refine (gNext j v (4 + 2 * (k + 1)) hs hsz HV2.out HM.out).mono ?_); rintro e w4 ⟨rfl, j1, m1⟩; replace j := j1; replace kh := m1.1 _ _ _ (by omega) kh; clear j1 m1; have hcell : w4.cell? ⟨w.heap.size + 1 + 1 + 1, k, none⟩ = some (.int .i64 0) := (j.cnt.cell k).trans hat; have hfro := j.cnt.frozen k)
      go_roundw
      case rel => exact ⟨k + 1, by omega, by go_num, GAt.put j k (.int .i64 v) _ HN.out, kh.other (by omega) k _⟩
      case measure => simp [intOf]; omega
    · have h4' : k = 4 := by omega
      subst h4'
      clear h4 hk hsp
      obtain ⟨n0, hn0⟩ : ∃ n, n = val s 4 2 := ⟨_, rfl⟩
      obtain ⟨n1, hn1⟩ : ∃ n, n = val s 6 2 := ⟨_, rfl⟩
      obtain ⟨n2, hn2⟩ : ∃ n, n = val s 8 2 := ⟨_, rfl⟩
      obtain ⟨n3, hn3⟩ : ∃ n, n = val s 10 2 := ⟨_, rfl⟩
      have HC : Hid (cntC s 4 = cntV n0 n1 n2 n3) := by unfold Hid; rw [hn0, hn1, hn2, hn3]; rfl
      rw [HC.out] at j
      clear hn0 hn1 hn2 hn3
      obtain ⟨c0, c1, c2, c3⟩ := Blk.four j.cnt
      obtain ⟨o0, o1, o2, o3⟩ := Blk.four j.out
      obtain ⟨p0, p1, p2, p3⟩ := Blk.open4 j.out
      obtain ⟨d0, d1, d2, d3, d4, d5, d6, d7, d8⟩ := Blk.nine kh
      obtain ⟨r0, r1, r2, r3, r4, r5, r6, r7, r8⟩ := Blk.nine j.res
      obtain ⟨f0, f1, f2, f3, f4, f5, f6, f7, f8⟩ := Blk.open9 j.res
      go_wp2
      go_region
      have q := put4_other (Blk.put9 j.res I Q O A T D R Z C) (b0 := w.heap.size + 1) (g := w.heap.size + 1 + 1) (by omega) n0 n1 n2 n3
      have q' := Blk.put4 (put9_other j.out (g := w.heap.size + 1) (by omega) I Q O A T D R Z C) n0 n1 n2 n3
      have qb := put4_below (put9_below j.below j.new.1 I Q O A T D R Z C) j.new.2.1 n0 n1 n2 n3
      revert q q' qb
      generalize (((((((((((((wr.setCell ⟨w.heap.size + 1, 0, none⟩ (.int .i64 I)).setCell ⟨w.heap.size + 1, 1, none⟩ (.bool Q)).setCell ⟨w.heap.size + 1, 2, none⟩ (.int .i64 O)).setCell ⟨w.heap.size + 1, 3, none⟩ (.bool A)).setCell ⟨w.heap.size + 1, 4, none⟩ (.bool T)).setCell ⟨w.heap.size + 1, 5, none⟩ (.bool D)).setCell ⟨w.heap.size + 1, 6, none⟩ (.bool R)).setCell ⟨w.heap.size + 1, 7, none⟩ (.int .i64 Z)).setCell ⟨w.heap.size + 1, 8, none⟩ (.int .i64 C)).setCell ⟨w.heap.size + 1 + 1, 0, none⟩ (.int .i64 n0)).setCell ⟨w.heap.size + 1 + 1, 1, none⟩ (.int .i64 n1)).setCell ⟨w.heap.size + 1 + 1, 2, none⟩ (.int .i64 n2)).setCell ⟨w.heap.size + 1 + 1, 3, none⟩ (.int .i64 n3)) = W
      intro q q' qb
      replace q := q.drew (w' := W.drew) ⟨1, rfl⟩
      replace q' := q'.drew (w' := W.drew) ⟨1, rfl⟩
      replace qb := next qb (below_drew (w' := W.drew) ⟨1, rfl⟩)
      obtain ⟨q0, q1, q2, q3, q4, q5, q6, q7, q8⟩ := Blk.nine q
      obtain ⟨m0, m1, m2, m3⟩ := Blk.four q'
      go_wp2
      rw [HC.out]
      refine bodyPost_ret (v := .tuple #[.agg (headV I Q O A T D R Z C), .agg (cntV n0 n1 n2 n3), .int .i64 0]) (by simp [results, Try.results11, go_sem, q0, q1, q2, q3, q4, q5, q6, q7, q8, m0, m1, m2, m3, headV, cntV]) rfl ⟨rfl, qb⟩

/-- What Get gives. -/
def getT (s : ByteArray) : Value := if 12 ≤ s.size then .tuple #[.agg (headW (val s 0 2) (val s 2 2)), .agg (cntC s 4), .int .i64 0] else .tuple #[.agg headZ, .agg (cntV 0 0 0 0), .int .i64 600]
theorem get_any (s : ByteArray) (w : World) (hs : s.size ≤ maxLen) : Calls Try.prog 11 #[.string s] w fun e w' => e = .returned (getT s) ∧ Below w.heap.size w w' := by
  unfold getT
  split
  · rename_i h; exact get_yes s w hs h
  · rename_i h; exact get_no s w hs (by omega)
/-- What Put gives. -/
def putT (id : Int) (qr : Bool) (op : Int) (aa tc rd ra : Bool) (z rc a b c d : Int) : Value := if mayH id op z rc a b c d then .tuple #[.string (putS id (wordH qr op aa tc rd ra z rc) a b c d 4), .int .i64 0] else .tuple #[.string ⟨#[]⟩, .int .i64 600]
theorem put_any (id : Int) (qr : Bool) (op : Int) (aa tc rd ra : Bool) (z rc a b c d : Int) (w : World) :
    Calls Try.prog 16 #[.agg (headV id qr op aa tc rd ra z rc), .agg (cntV a b c d)] w fun e w' => e = .returned (putT id qr op aa tc rd ra z rc a b c d) ∧ Below w.heap.size w w' := by
  unfold putT
  split
  · rename_i h; exact put_yes id qr op aa tc rd ra z rc a b c d w h
  · rename_i h; exact put_no id qr op aa tc rd ra z rc a b c d w (by simpa using h)

end Go.Proofs.Ytdogjbblnjjaaab

/- What awake gives: true. -/
namespace Go.Proofs.Ytdogjbblnjjaaab
open Go.RowKit

theorem eq4' (n : Nat) (a b c d a' b' c' d' : Int) (u : World) : (Op.equalIn (n + 2) 47 (.agg #[.int .i64 a, .int .i64 b, .int .i64 c, .int .i64 d]) (.agg #[.int .i64 a', .int .i64 b', .int .i64 c', .int .i64 d'])).run Try.prog u = .ok ((a == a') && (b == b') && (c == c') && (d == d')) u := by
  have hi : ∀ (x y : Int) (u : World), (Op.equalIn (n + 1) 3 (.int .i64 x) (.int .i64 y)).run Try.prog u = .ok (x == y) u := fun x y u => run_equalIn_int u n 3 .i64 .i64 x y Try.underlying3
  rw [Op.equalIn]
  simp only [Sem.run_bind, run_underlying Try.underlying47, Result.andThen_ok, Std.Legacy.Range.forIn_eq_forIn_range', Std.Legacy.Range.size, List.range', List.forIn_cons, List.forIn_nil]
  cases h1 : a == a' <;> cases h2 : b == b' <;> cases h3 : c == c' <;> cases h4 : d == d' <;> simp [go_sem, part, sizeOf, size3, hi, h1, h2, h3, h4]
/-- Whether two rows of four counts are the same. -/
theorem eq4 (a b c d a' b' c' d' : Int) (u : World) : (Op.equalIn 10000 47 (.agg #[.int .i64 a, .int .i64 b, .int .i64 c, .int .i64 d]) (.agg #[.int .i64 a', .int .i64 b', .int .i64 c', .int .i64 d'])).run Try.prog u = .ok ((a == a') && (b == b') && (c == c') && (d == d')) u := eq4' 9998 a b c d a' b' c' d' u

theorem max9 {n : Nat} (h : n ≤ 100) : n ≤ maxLen := by unfold maxLen; omega

/-- The bytes of the header that awake puts. -/
def awS : ByteArray := ⟨#[1, 2, 145, 83, 0, 1, 0, 2, 0, 3, 0, 4]⟩
theorem aw1 (w : World) : Calls Try.prog 16 #[.agg (headV 258 true 2 false false true false 5 3), .agg (cntV 1 2 3 4)] w fun e w' => e = .returned (.tuple #[.string awS, .int .i64 0]) ∧ Below w.heap.size w w' := by
  have h := put_yes 258 true 2 false false true false 5 3 1 2 3 4 w (by decide)
  rw [show putS 258 (wordH true 2 false false true false 5 3) 1 2 3 4 4 = awS from by apply ByteArray.ext; decide] at h
  exact h
theorem aw2 (w : World) : Calls Try.prog 11 #[.string awS] w fun e w' => e = .returned (.tuple #[.agg (headV 258 true 2 false false true false 5 3), .agg (cntV 1 2 3 4), .int .i64 0]) ∧ Below w.heap.size w w' := by
  have h := get_yes awS w (max9 (by decide)) (by decide)
  have v0 : val awS 0 2 = 258 := by decide
  have v1 : val awS 2 2 = 37203 := by decide
  have v2 : val awS 4 2 = 1 := by decide
  have v3 : val awS 6 2 = 2 := by decide
  have v4 : val awS 8 2 = 3 := by decide
  have v5 : val awS 10 2 = 4 := by decide
  have hc : cntC awS 4 = cntV (val awS 4 2) (val awS 6 2) (val awS 8 2) (val awS 10 2) := rfl
  rw [hc, v0, v1, v2, v3, v4, v5] at h
  exact h
theorem aw3 (w : World) : Calls Try.prog 16 #[.agg (headV 0 false 16 false false false false 0 0), .agg (cntV 0 0 0 0)] w fun e w' => e = .returned (.tuple #[.string ⟨#[]⟩, .int .i64 600]) ∧ Below w.heap.size w w' := put_no 0 false 16 false false false false 0 0 0 0 0 0 w (by decide)
theorem aw4 (w : World) : Calls Try.prog 11 #[.string ⟨#[97]⟩] w fun e w' => e = .returned (.tuple #[.agg (headV 0 false 0 false false false false 0 0), .agg (cntV 0 0 0 0), .int .i64 600]) ∧ Below w.heap.size w w' := get_no ⟨#[97]⟩ w (max9 (by decide)) (by decide)


end Go.Proofs.Ytdogjbblnjjaaab
