/- What Get of package head gives, for every argument: its parts. -/
import Derived.Test.YtbffnicfibfceaaXP3
import Derived.ChangeSlices
import Derived.SliceStrings
import Derived.Carry
import Derived.ProofKit
import Derived.OpenShut
import Derived.ShutString
import Derived.Test.YtbffnicfibfceaaXP2
namespace Go.Proofs.Ytbffnicfibfceaa
open Go.RowKit

/-- Between two worlds one block is written; all else that lay there lies as it lay. -/
def Moves (w w' : World) (ga : Nat) : Prop := (∀ b B t, b ≠ ga → Blk w b B t → Blk w' b B t) ∧ (∀ w0 : World, w0.heap.size ≤ ga → Below w0.heap.size w0 w → Below w0.heap.size w0 w')

theorem next_any (s : ByteArray) (k gs ga : Nat) (w : World) (hs : s.size ≤ maxLen) (ks : Blk w gs #[.string s] 9) (ka : Blk w ga #[.int .i64 (k : Int)] 3) (h : k + 2 ≤ s.size) :
    Calls Try.prog 36 #[.pointer (some ⟨gs, 0, none⟩), .pointer (some ⟨ga, 0, none⟩)] w fun e w' => e = .returned (.int .i64 (val s k 2)) ∧ Blk w' ga #[.int .i64 ((k + 2 : Nat) : Int)] 3 ∧ Moves w w' ga := by
  have c0 : w.cell? ⟨gs, 0, none⟩ = some (.string s) := ks.cell 0
  have c1 : w.cell? ⟨ga, 0, none⟩ = some (.int .i64 (k : Int)) := ka.cell 0
  have hu := u16_yes s k w hs h
  rw [← val_two s k h] at hu
  obtain ⟨v, hv⟩ : ∃ v, v = val s k 2 := ⟨_, rfl⟩
  rw [← hv] at hu ⊢
  clear hv
  go_enter Try.func36, Try.ntmps36
  go_wp2_with (go_at_call 37; go_must (refine hu.mono ?_); rintro e w1 ⟨rfl, b1⟩; have k1 := ka.drew b1; have c2 : w1.cell? ⟨ga, 0, none⟩ = some (.int .i64 (k : Int)) := k1.cell 0; have f2 := k1.frozen 0)
  go_ret
  refine ⟨rfl, ?_, fun b B t hb kb => (kb.drew b1).other hb 0 _, fun w0 h0 hw => (next hw (below_drew b1)).setCell h0 _⟩
  have := k1.set 0 (.int .i64 ((k : Int) + 2))
  exact this

/-- The counts of a message so far. -/
def cntC (s : ByteArray) : Nat → Array Value
  | 0 => cntV 0 0 0 0
  | 1 => cntV (val s 4 2) 0 0 0
  | 2 => cntV (val s 4 2) (val s 6 2) 0 0
  | 3 => cntV (val s 4 2) (val s 6 2) (val s 8 2) 0
  | _ => cntV (val s 4 2) (val s 6 2) (val s 8 2) (val s 10 2)
theorem cnt_set (s : ByteArray) (k : Nat) (h : k < 4) : (cntC s k).setIfInBounds k (.int .i64 (val s (4 + 2 * k) 2)) = cntC s (k + 1) := by
  have : k = 0 ∨ k = 1 ∨ k = 2 ∨ k = 3 := by omega
  rcases this with rfl | rfl | rfl | rfl <;> rfl
theorem cnt_at (s : ByteArray) (k : Nat) (h : k < 4) : (cntC s k)[k]? = some (.int .i64 0) := by
  have : k = 0 ∨ k = 1 ∨ k = 2 ∨ k = 3 := by omega
  rcases this with rfl | rfl | rfl | rfl <;> rfl

set_option maxRecDepth 20000 in
set_option maxHeartbeats 4000000 in
theorem get_no (s : ByteArray) (w : World) (_hs : s.size ≤ maxLen) (h : s.size < 12) :
    Calls Try.prog 23 #[.string s] w fun e w' => e = .returned (.tuple #[.agg headZ, .agg (cntV 0 0 0 0), .int .i64 600]) ∧ Below w.heap.size w w' := by
  have h' : (s.size : Int) < 12 := by omega
  go_enter Try.func23, Try.ntmps23
  go_wp2
  go_region
  go_wp2
  refine bodyPost_ret (v := .tuple #[.agg headZ, .agg (cntV 0 0 0 0), .int .i64 600]) (by simp [results, Try.results23, go_sem, headZ, headV, cntV]) rfl ⟨rfl, next (lay (lay (lay (lay (Below.refl _ _) _) _) _) _) (below_drew ⟨1, rfl⟩)⟩

/-- What Get holds while it goes on: its argument, its two results' places, the counts so far, the place in s. -/
structure GAt (w0 w : World) (gs gr gq gc ga : Nat) (s : ByteArray) (C : Array Value) (k : Nat) : Prop where
  str : Blk w gs #[.string s] 9
  res : Blk w gr headZ 23
  out : Blk w gq (cntV 0 0 0 0) 48
  cnt : Blk w gc C 48
  pos : Blk w ga #[.int .i64 (k : Int)] 3
  below : Below w0.heap.size w0 w
  ne : (gs ≠ ga ∧ gr ≠ ga ∧ gq ≠ ga ∧ gc ≠ ga) ∧ (gs ≠ gc ∧ gr ≠ gc ∧ gq ≠ gc ∧ ga ≠ gc)
  new : w0.heap.size ≤ gr ∧ w0.heap.size ≤ gq ∧ w0.heap.size ≤ gc ∧ w0.heap.size ≤ ga

theorem GAt.next {w0 w w' : World} {gs gr gq gc ga : Nat} {s : ByteArray} {C : Array Value} {k m : Nat} (j : GAt w0 w gs gr gq gc ga s C k) (ha : Blk w' ga #[.int .i64 (m : Int)] 3) (hm : Moves w w' ga) : GAt w0 w' gs gr gq gc ga s C m :=
  ⟨hm.1 _ _ _ j.ne.1.1 j.str, hm.1 _ _ _ j.ne.1.2.1 j.res, hm.1 _ _ _ j.ne.1.2.2.1 j.out, hm.1 _ _ _ j.ne.1.2.2.2 j.cnt, ha, hm.2 _ j.new.2.2.2 j.below, j.ne, j.new⟩
theorem GAt.past {w0 w w' : World} {gs gr gq gc ga : Nat} {s : ByteArray} {C : Array Value} {k : Nat} (j : GAt w0 w gs gr gq gc ga s C k) (hb : Below w.heap.size w w') : GAt w0 w' gs gr gq gc ga s C k :=
  ⟨j.str.below hb, j.res.below hb, j.out.below hb, j.cnt.below hb, j.pos.below hb, Go.Proofs.Ytbffnicfibfceaa.next j.below hb, j.ne, j.new⟩
theorem GAt.put {w0 w : World} {gs gr gq gc ga : Nat} {s : ByteArray} {C : Array Value} {k : Nat} (j : GAt w0 w gs gr gq gc ga s C k) (i : Nat) (v : Value) (C' : Array Value) (hC : C.setIfInBounds i v = C') : GAt w0 (w.setCell ⟨gc, i, none⟩ v) gs gr gq gc ga s C' k :=
  ⟨j.str.other j.ne.2.1 i v, j.res.other j.ne.2.2.1 i v, j.out.other j.ne.2.2.2.1 i v, hC ▸ j.cnt.set i v, j.pos.other j.ne.2.2.2.2 i v, j.below.setCell j.new.2.2.1 v, j.ne, j.new⟩

theorem gNext {w0 w : World} {gs gr gq gc ga : Nat} {s : ByteArray} {C : Array Value} {k : Nat} (j : GAt w0 w gs gr gq gc ga s C k) (v : Int) (m : Nat) (hs : s.size ≤ maxLen) (h : k + 2 ≤ s.size) (hv : val s k 2 = v) (hm : k + 2 = m) :
    Calls Try.prog 36 #[.pointer (some ⟨gs, 0, none⟩), .pointer (some ⟨ga, 0, none⟩)] w fun e w' => e = .returned (.int .i64 v) ∧ GAt w0 w' gs gr gq gc ga s C m ∧ Moves w w' ga := by
  subst hv
  subst hm
  exact (next_any s k gs ga w hs j.str j.pos h).mono fun e w' ⟨he, ha, hm⟩ => ⟨he, j.next ha hm, hm⟩

/-- The four cells of counts. -/
theorem Blk.four {w : World} {g : Nat} {a b c d : Int} {t : TypeId} (k : Blk w g (cntV a b c d) t) :
    w.cell? ⟨g, 0, none⟩ = some (.int .i64 a) ∧ w.cell? ⟨g, 1, none⟩ = some (.int .i64 b) ∧ w.cell? ⟨g, 2, none⟩ = some (.int .i64 c) ∧ w.cell? ⟨g, 3, none⟩ = some (.int .i64 d) :=
  ⟨k.cell 0, k.cell 1, k.cell 2, k.cell 3⟩
theorem Blk.open4 {w : World} {g : Nat} {C : Array Value} {t : TypeId} (k : Blk w g C t) :
    w.frozen? ⟨g, 0, none⟩ = false ∧ w.frozen? ⟨g, 1, none⟩ = false ∧ w.frozen? ⟨g, 2, none⟩ = false ∧ w.frozen? ⟨g, 3, none⟩ = false :=
  ⟨k.frozen 0, k.frozen 1, k.frozen 2, k.frozen 3⟩
/-- Counts stored cell by cell. -/
theorem Blk.put4 {w : World} {g : Nat} {a' b' c' d' : Int} {t : TypeId} (k : Blk w g (cntV a' b' c' d') t) (a b c d : Int) :
    Blk ((((w.setCell ⟨g, 0, none⟩ (.int .i64 a)).setCell ⟨g, 1, none⟩ (.int .i64 b)).setCell ⟨g, 2, none⟩ (.int .i64 c)).setCell ⟨g, 3, none⟩ (.int .i64 d)) g (cntV a b c d) t := by
  have q0 : Blk (w.setCell ⟨g, 0, none⟩ (.int .i64 a)) g (cntV a b' c' d') t := k.set 0 _
  have q1 : Blk ((w.setCell ⟨g, 0, none⟩ (.int .i64 a)).setCell ⟨g, 1, none⟩ (.int .i64 b)) g (cntV a b c' d') t := q0.set 1 _
  have q2 : Blk (((w.setCell ⟨g, 0, none⟩ (.int .i64 a)).setCell ⟨g, 1, none⟩ (.int .i64 b)).setCell ⟨g, 2, none⟩ (.int .i64 c)) g (cntV a b c d') t := q1.set 2 _
  have q3 : Blk ((((w.setCell ⟨g, 0, none⟩ (.int .i64 a)).setCell ⟨g, 1, none⟩ (.int .i64 b)).setCell ⟨g, 2, none⟩ (.int .i64 c)).setCell ⟨g, 3, none⟩ (.int .i64 d)) g (cntV a b c d) t := q2.set 3 _
  exact q3
theorem put4_other {w : World} {g b0 : Nat} {C : Array Value} {t : TypeId} (k : Blk w b0 C t) (h : b0 ≠ g) (a b c d : Int) :
    Blk ((((w.setCell ⟨g, 0, none⟩ (.int .i64 a)).setCell ⟨g, 1, none⟩ (.int .i64 b)).setCell ⟨g, 2, none⟩ (.int .i64 c)).setCell ⟨g, 3, none⟩ (.int .i64 d)) b0 C t :=
  (((k.other h 0 _).other h 1 _).other h 2 _).other h 3 _
theorem put4_below {w0 w : World} {g : Nat} (k : Below w0.heap.size w0 w) (h : w0.heap.size ≤ g) (a b c d : Int) :
    Below w0.heap.size w0 ((((w.setCell ⟨g, 0, none⟩ (.int .i64 a)).setCell ⟨g, 1, none⟩ (.int .i64 b)).setCell ⟨g, 2, none⟩ (.int .i64 c)).setCell ⟨g, 3, none⟩ (.int .i64 d)) :=
  (((k.setCell (p := ⟨g, 0, none⟩) h _).setCell (p := ⟨g, 1, none⟩) h _).setCell (p := ⟨g, 2, none⟩) h _).setCell (p := ⟨g, 3, none⟩) h _

end Go.Proofs.Ytbffnicfibfceaa

/- What Get of package head gives, for every argument. -/
namespace Go.Proofs.Ytbffnicfibfceaa
open Go.RowKit

theorem val2_lt (s : ByteArray) (k : Nat) : 0 ≤ val s k 2 ∧ val s k 2 < 65536 := val_lt s k 2

/-- The world in which Get begins. -/
theorem get_start (s : ByteArray) (w : World) : GAt w (((((w.alloc (.cells #[.string s] 9)).alloc (.cells headZ 23)).alloc (.cells (cntV 0 0 0 0) 48)).alloc (.cells (cntV 0 0 0 0) 48)).alloc (.cells #[.int .i64 0] 3)) w.heap.size (w.heap.size + 1) (w.heap.size + 1 + 1) (w.heap.size + 1 + 1 + 1) (w.heap.size + 1 + 1 + 1 + 1) s (cntC s 0) 0 := by
  have z1 : (w.alloc (.cells #[.string s] 9)).heap.size = w.heap.size + 1 := by simp
  have z2 : ((w.alloc (.cells #[.string s] 9)).alloc (.cells headZ 23)).heap.size = w.heap.size + 1 + 1 := by simp
  have z3 : (((w.alloc (.cells #[.string s] 9)).alloc (.cells headZ 23)).alloc (.cells (cntV 0 0 0 0) 48)).heap.size = w.heap.size + 1 + 1 + 1 := by simp
  have z4 : ((((w.alloc (.cells #[.string s] 9)).alloc (.cells headZ 23)).alloc (.cells (cntV 0 0 0 0) 48)).alloc (.cells (cntV 0 0 0 0) 48)).heap.size = w.heap.size + 1 + 1 + 1 + 1 := by simp
  refine ⟨((((Blk.new w _ _).alloc _).alloc _).alloc _).alloc _, ?_, ?_, ?_, ?_, lay (lay (lay (lay (lay (Below.refl _ _) _) _) _) _) _, by omega, by omega⟩
  · have := (((Blk.new (w.alloc (.cells #[.string s] 9)) headZ 23).alloc (.cells (cntV 0 0 0 0) 48)).alloc (.cells (cntV 0 0 0 0) 48)).alloc (.cells #[.int .i64 0] 3)
    rw [z1] at this; exact this
  · have := ((Blk.new ((w.alloc (.cells #[.string s] 9)).alloc (.cells headZ 23)) (cntV 0 0 0 0) 48).alloc (.cells (cntV 0 0 0 0) 48)).alloc (.cells #[.int .i64 0] 3)
    rw [z2] at this; exact this
  · have := (Blk.new (((w.alloc (.cells #[.string s] 9)).alloc (.cells headZ 23)).alloc (.cells (cntV 0 0 0 0) 48)) (cntV 0 0 0 0) 48).alloc (.cells #[.int .i64 0] 3)
    rw [z3] at this; exact this
  · have := Blk.new ((((w.alloc (.cells #[.string s] 9)).alloc (.cells headZ 23)).alloc (.cells (cntV 0 0 0 0) 48)).alloc (.cells (cntV 0 0 0 0) 48)) #[.int .i64 0] 3
    rw [z4] at this; exact this

set_option maxRecDepth 20000 in
set_option maxHeartbeats 8000000 in
theorem get_yes (s : ByteArray) (w : World) (hs : s.size ≤ maxLen) (h : 12 ≤ s.size) :
    Calls Try.prog 23 #[.string s] w fun e w' => e = .returned (.tuple #[.agg (headW (val s 0 2) (val s 2 2)), .agg (cntC s 4), .int .i64 0]) ∧ Below w.heap.size w w' := by
  have h' : decide ((s.size : Int) < 12) = false := by simp; omega
  obtain ⟨I, hI⟩ : ∃ v, val s 0 2 = v := ⟨_, rfl⟩
  obtain ⟨V, hV⟩ : ∃ v, val s 2 2 = v := ⟨_, rfl⟩
  have hv := val2_lt s 2
  rw [hV] at hv
  have hsp := fun u => hsplit_any V u hv.1 hv.2
  obtain ⟨Q, O, A, T, D, R, Z, C, hH⟩ : ∃ Q O A T D R Z C, ∀ id, headW id V = headV id Q O A T D R Z C := ⟨_, _, _, _, _, _, _, _, fun _ => rfl⟩
  rw [hI, hV, hH I]
  have HI : Hid (val s 0 2 = I) := hI
  have HV : Hid (val s 2 2 = V) := hV
  have wv : IntKind.u16.wrap V = V := wraps_u16 V hv.1 hv.2
  simp only [hH] at hsp
  clear hI hV hH
  have j := get_start s w
  have hmf : ∀ (fn : Fn) (first cap : Array Value) (w : World), (Instr.makeFunc fn first cap).run Try.prog w = .ok (.func fn first cap) w := fun _ _ _ _ => rfl
  have t1 : True := trivial
  unfold headV at hsp
  go_enter Try.func23, Try.ntmps23
  go_wp2_with (first
    | (go_at_call 36; have _t := t1; go_must (refine (gNext j I 2 hs (by omega) HI.out rfl).mono ?_); rintro e w1 ⟨rfl, j1, m1⟩; replace j := j1; clear j1 m1 t1 _t)
    | (go_at_call 36; go_must (refine (gNext j V 4 hs (by omega) HV.out rfl).mono ?_); rintro e w2 ⟨rfl, j1, m1⟩; replace j := j1; clear j1 m1)
    | (go_at_call 38; go_must (refine (hsp _).mono ?_); rintro e w3 ⟨rfl, b3⟩; replace j := GAt.past j b3; have jlt := Blk.lt j.pos; clear b3))
  have kh := Blk.new w3 (headV I Q O A T D R Z C) 23
  replace j := GAt.past j ((Below.refl _ _).alloc (Nat.le_refl _) (.cells (headV I Q O A T D R Z C) 23))
  have hgh : w.heap.size + 1 + 1 + 1 + 1 < w3.heap.size := jlt
  obtain ⟨gh, hg⟩ : ∃ gh, gh = w3.heap.size := ⟨_, rfl⟩
  rw [← hg] at kh hgh ⊢
  clear hg jlt
  go_loopw [25] (fun i wr => ∃ k : Nat, k ≤ 4 ∧ i = .int .i64 (k : Int) ∧ GAt w wr w.heap.size (w.heap.size + 1) (w.heap.size + 1 + 1) (w.heap.size + 1 + 1 + 1) (w.heap.size + 1 + 1 + 1 + 1) s (cntC s k) (4 + 2 * k) ∧ Blk wr gh (headV I Q O A T D R Z C) 23) (fun i _ => 4 - (intOf i).toNat)
  case atStart => exact ⟨0, by decide, rfl, j, kh⟩
  case round =>
    clear j kh
    obtain ⟨k, hk, rfl, j, kh⟩ := hrel
    by_cases h4 : k < 4
    · have h4' : (k : Int) < 4 := by omega
      have hat := cnt_at s k h4
      obtain ⟨v, hv⟩ : ∃ v, val s (4 + 2 * k) 2 = v := ⟨_, rfl⟩
      have HN : Hid ((cntC s k).setIfInBounds k (.int .i64 v) = cntC s (k + 1)) := by unfold Hid; rw [← hv]; exact cnt_set s k h4
      have HV2 : Hid (val s (4 + 2 * k) 2 = v) := hv
      have hsz : 4 + 2 * k + 2 ≤ s.size := by omega
      have HM : Hid (4 + 2 * k + 2 = 4 + 2 * (k + 1)) := by unfold Hid; omega
      clear hv
      go_wp2_with (go_at_call 36; go_must (refine (gNext j v (4 + 2 * (k + 1)) hs hsz HV2.out HM.out).mono ?_); rintro e w4 ⟨rfl, j1, m1⟩; replace j := j1; replace kh := m1.1 _ _ _ (by omega) kh; clear j1 m1; have hcell : w4.cell? ⟨w.heap.size + 1 + 1 + 1, k, none⟩ = some (.int .i64 0) := (j.cnt.cell k).trans hat; have hfro := j.cnt.frozen k)
      go_roundw
      case rel => exact ⟨k + 1, by omega, by go_num, GAt.put j k (.int .i64 v) _ HN.out, kh.other (by omega) k _⟩
      case measure => simp [intOf]; omega
    · have h4' : k = 4 := by omega
      subst h4'
      clear h4 hk hsp
      obtain ⟨n0, hn0⟩ : ∃ n, n = val s 4 2 := ⟨_, rfl⟩
      obtain ⟨n1, hn1⟩ : ∃ n, n = val s 6 2 := ⟨_, rfl⟩
      obtain ⟨n2, hn2⟩ : ∃ n, n = val s 8 2 := ⟨_, rfl⟩
      obtain ⟨n3, hn3⟩ : ∃ n, n = val s 10 2 := ⟨_, rfl⟩
      have HC : Hid (cntC s 4 = cntV n0 n1 n2 n3) := by unfold Hid; rw [hn0, hn1, hn2, hn3]; rfl
      rw [HC.out] at j
      clear hn0 hn1 hn2 hn3
      obtain ⟨c0, c1, c2, c3⟩ := Blk.four j.cnt
      obtain ⟨o0, o1, o2, o3⟩ := Blk.four j.out
      obtain ⟨p0, p1, p2, p3⟩ := Blk.open4 j.out
      obtain ⟨d0, d1, d2, d3, d4, d5, d6, d7, d8⟩ := Blk.nine kh
      obtain ⟨r0, r1, r2, r3, r4, r5, r6, r7, r8⟩ := Blk.nine j.res
      obtain ⟨f0, f1, f2, f3, f4, f5, f6, f7, f8⟩ := Blk.open9 j.res
      go_wp2
      go_region
      have q := put4_other (Blk.put9 j.res I Q O A T D R Z C) (b0 := w.heap.size + 1) (g := w.heap.size + 1 + 1) (by omega) n0 n1 n2 n3
      have q' := Blk.put4 (put9_other j.out (g := w.heap.size + 1) (by omega) I Q O A T D R Z C) n0 n1 n2 n3
      have qb := put4_below (put9_below j.below j.new.1 I Q O A T D R Z C) j.new.2.1 n0 n1 n2 n3
      revert q q' qb
      generalize (((((((((((((wr.setCell ⟨w.heap.size + 1, 0, none⟩ (.int .i64 I)).setCell ⟨w.heap.size + 1, 1, none⟩ (.bool Q)).setCell ⟨w.heap.size + 1, 2, none⟩ (.int .i64 O)).setCell ⟨w.heap.size + 1, 3, none⟩ (.bool A)).setCell ⟨w.heap.size + 1, 4, none⟩ (.bool T)).setCell ⟨w.heap.size + 1, 5, none⟩ (.bool D)).setCell ⟨w.heap.size + 1, 6, none⟩ (.bool R)).setCell ⟨w.heap.size + 1, 7, none⟩ (.int .i64 Z)).setCell ⟨w.heap.size + 1, 8, none⟩ (.int .i64 C)).setCell ⟨w.heap.size + 1 + 1, 0, none⟩ (.int .i64 n0)).setCell ⟨w.heap.size + 1 + 1, 1, none⟩ (.int .i64 n1)).setCell ⟨w.heap.size + 1 + 1, 2, none⟩ (.int .i64 n2)).setCell ⟨w.heap.size + 1 + 1, 3, none⟩ (.int .i64 n3)) = W
      intro q q' qb
      replace q := q.drew (w' := W.drew) ⟨1, rfl⟩
      replace q' := q'.drew (w' := W.drew) ⟨1, rfl⟩
      replace qb := next qb (below_drew (w' := W.drew) ⟨1, rfl⟩)
      obtain ⟨q0, q1, q2, q3, q4, q5, q6, q7, q8⟩ := Blk.nine q
      obtain ⟨m0, m1, m2, m3⟩ := Blk.four q'
      go_wp2
      rw [HC.out]
      refine bodyPost_ret (v := .tuple #[.agg (headV I Q O A T D R Z C), .agg (cntV n0 n1 n2 n3), .int .i64 0]) (by simp [results, Try.results23, go_sem, q0, q1, q2, q3, q4, q5, q6, q7, q8, m0, m1, m2, m3, headV, cntV]) rfl ⟨rfl, qb⟩

/-- What Get gives. -/
def getT (s : ByteArray) : Value := if 12 ≤ s.size then .tuple #[.agg (headW (val s 0 2) (val s 2 2)), .agg (cntC s 4), .int .i64 0] else .tuple #[.agg headZ, .agg (cntV 0 0 0 0), .int .i64 600]
theorem get_any (s : ByteArray) (w : World) (hs : s.size ≤ maxLen) : Calls Try.prog 23 #[.string s] w fun e w' => e = .returned (getT s) ∧ Below w.heap.size w w' := by
  unfold getT
  split
  · rename_i h; exact get_yes s w hs h
  · rename_i h; exact get_no s w hs (by omega)
/-- What Put gives. -/
def putT (id : Int) (qr : Bool) (op : Int) (aa tc rd ra : Bool) (z rc a b c d : Int) : Value := if mayH id op z rc a b c d then .tuple #[.string (putS id (wordH qr op aa tc rd ra z rc) a b c d 4), .int .i64 0] else .tuple #[.string ⟨#[]⟩, .int .i64 600]
end Go.Proofs.Ytbffnicfibfceaa

/- What awake gives: true. -/
namespace Go.Proofs.Ytbffnicfibfceaa
open Go.RowKit

theorem eq4' (n : Nat) (a b c d a' b' c' d' : Int) (u : World) : (Op.equalIn (n + 2) 48 (.agg #[.int .i64 a, .int .i64 b, .int .i64 c, .int .i64 d]) (.agg #[.int .i64 a', .int .i64 b', .int .i64 c', .int .i64 d'])).run Try.prog u = .ok ((a == a') && (b == b') && (c == c') && (d == d')) u := by
  have hi : ∀ (x y : Int) (u : World), (Op.equalIn (n + 1) 3 (.int .i64 x) (.int .i64 y)).run Try.prog u = .ok (x == y) u := fun x y u => run_equalIn_int u n 3 .i64 .i64 x y Try.underlying3
  rw [Op.equalIn]
  simp only [Sem.run_bind, run_underlying Try.underlying48, Result.andThen_ok, Std.Legacy.Range.forIn_eq_forIn_range', Std.Legacy.Range.size, List.range', List.forIn_cons, List.forIn_nil]
  cases h1 : a == a' <;> cases h2 : b == b' <;> cases h3 : c == c' <;> cases h4 : d == d' <;> simp [go_sem, part, sizeOf, size3, hi, h1, h2, h3, h4]
/-- Whether two rows of four counts are the same. -/
theorem eq4 (a b c d a' b' c' d' : Int) (u : World) : (Op.equalIn 10000 48 (.agg #[.int .i64 a, .int .i64 b, .int .i64 c, .int .i64 d]) (.agg #[.int .i64 a', .int .i64 b', .int .i64 c', .int .i64 d'])).run Try.prog u = .ok ((a == a') && (b == b') && (c == c') && (d == d')) u := eq4' 9998 a b c d a' b' c' d' u

theorem max9 {n : Nat} (h : n ≤ 100) : n ≤ maxLen := by unfold maxLen; omega

/-- The bytes of the header that awake puts. -/
def awS : ByteArray := ⟨#[1, 2, 145, 83, 0, 1, 0, 2, 0, 3, 0, 4]⟩
theorem aw2 (w : World) : Calls Try.prog 23 #[.string awS] w fun e w' => e = .returned (.tuple #[.agg (headV 258 true 2 false false true false 5 3), .agg (cntV 1 2 3 4), .int .i64 0]) ∧ Below w.heap.size w w' := by
  have h := get_yes awS w (max9 (by decide)) (by decide)
  have v0 : val awS 0 2 = 258 := by decide
  have v1 : val awS 2 2 = 37203 := by decide
  have v2 : val awS 4 2 = 1 := by decide
  have v3 : val awS 6 2 = 2 := by decide
  have v4 : val awS 8 2 = 3 := by decide
  have v5 : val awS 10 2 = 4 := by decide
  have hc : cntC awS 4 = cntV (val awS 4 2) (val awS 6 2) (val awS 8 2) (val awS 10 2) := rfl
  rw [hc, v0, v1, v2, v3, v4, v5] at h
  exact h
theorem aw4 (w : World) : Calls Try.prog 23 #[.string ⟨#[97]⟩] w fun e w' => e = .returned (.tuple #[.agg (headV 0 false 0 false false false false 0 0), .agg (cntV 0 0 0 0), .int .i64 600]) ∧ Below w.heap.size w w' := get_no ⟨#[97]⟩ w (max9 (by decide)) (by decide)


end Go.Proofs.Ytbffnicfibfceaa

/- Headers there and back, plainly; an api.Head as it comes in. -/
namespace Go.Proofs.Ytbffnicfibfceaa
open Go.ChangeShapes Go.WideShapes Go.ChangeAt Go.RowKit
open Go.ChangeMaps (open_string shut_string)


theorem bI_beq (q : Bool) : (bI q == 1) = q := by cases q <;> rfl
theorem bI_bit (y : Int) : bI (y % 2 == 1) = y % 2 := by
  have : y % 2 = 0 ∨ y % 2 = 1 := by omega
  rcases this with h | h <;> rw [h] <;> rfl

/-- The word of a header's parts has just these parts. -/
theorem head_back (id : Int) (qr : Bool) (op : Int) (aa tc rd ra : Bool) (z rc : Int) (ho : fitI 16 op = true) (hz : fitI 8 z = true) (hr : fitI 16 rc = true) :
    headW id (wordH qr op aa tc rd ra z rc) = headV id qr op aa tc rd ra z rc := by
  have O := fit_iff.1 ho
  have Z := fit_iff.1 hz
  have R := fit_iff.1 hr
  have q1 := bI_lt qr
  have q2 := bI_lt aa
  have q3 := bI_lt tc
  have q4 := bI_lt rd
  have q5 := bI_lt ra
  obtain ⟨v, hv⟩ : ∃ v, v = wordH qr op aa tc rd ra z rc := ⟨_, rfl⟩
  rw [← hv]
  unfold wordH at hv
  have e1 : v / 32768 % 2 = bI qr := by omega
  have e2 : v / 2048 % 16 = op := by omega
  have e3 : v / 1024 % 2 = bI aa := by omega
  have e4 : v / 512 % 2 = bI tc := by omega
  have e5 : v / 256 % 2 = bI rd := by omega
  have e6 : v / 128 % 2 = bI ra := by omega
  have e7 : v / 16 % 8 = z := by omega
  have e8 : v / 1 % 16 = rc := by omega
  unfold headW
  rw [e1, e2, e3, e4, e5, e6, e7, e8, bI_beq, bI_beq, bI_beq, bI_beq, bI_beq]
/-- The parts of a word make it. -/
theorem word_back (v : Int) (h0 : 0 ≤ v) (h1 : v < 65536) : wordH (v / 32768 % 2 == 1) (v / 2048 % 16) (v / 1024 % 2 == 1) (v / 512 % 2 == 1) (v / 256 % 2 == 1) (v / 128 % 2 == 1) (v / 16 % 8) (v / 1 % 16) = v := by
  unfold wordH
  rw [bI_bit, bI_bit, bI_bit, bI_bit, bI_bit]
  omega

theorem list12 (id v a b c d : Int) : (putS id v a b c d 4).data.toList = [oct id 256, oct id 1, oct v 256, oct v 1, oct a 256, oct a 1, oct b 256, oct b 1, oct c 256, oct c 1, oct d 256, oct d 1] := by
  show (be2 id ++ be2 v ++ be2 a ++ be2 b ++ be2 c ++ be2 d).data.toList = _
  rw [app_list, app_list, app_list, app_list, app_list]
  rfl
theorem val_of {s : ByteArray} {k : Nat} {a b : UInt8} {rest : List UInt8} (h : s.data.toList.drop k = a :: b :: rest) : val s k 2 = two a b := by
  obtain ⟨_, e0⟩ := drop_get h 0 (by simp)
  obtain ⟨h1, e1⟩ := drop_get h 1 (by simp)
  have f0 : s[k] = a := e0
  rw [val_two s k (by omega), f0, e1]
  rfl
theorem oct_two (a b : UInt8) : oct (two a b) 256 = a ∧ oct (two a b) 1 = b := by
  have := a.toNat_lt
  have := b.toNat_lt
  have e1 : (two a b) / 256 % 256 = (a.toNat : Int) := by unfold two; omega
  have e2 : (two a b) / 1 % 256 = (b.toNat : Int) := by unfold two; omega
  unfold oct
  rw [e1, e2]
  exact ⟨by simp, by simp⟩
/-- What was put is told. -/
theorem put_vals (id v a b c d : Int) (s : ByteArray) : val (putS id v a b c d 4 ++ s) 0 2 = id % 65536 ∧ val (putS id v a b c d 4 ++ s) 2 2 = v % 65536 ∧ val (putS id v a b c d 4 ++ s) 4 2 = a % 65536 ∧ val (putS id v a b c d 4 ++ s) 6 2 = b % 65536 ∧ val (putS id v a b c d 4 ++ s) 8 2 = c % 65536 ∧ val (putS id v a b c d 4 ++ s) 10 2 = d % 65536 := by
  have hl : (putS id v a b c d 4 ++ s).data.toList = [oct id 256, oct id 1, oct v 256, oct v 1, oct a 256, oct a 1, oct b 256, oct b 1, oct c 256, oct c 1, oct d 256, oct d 1] ++ s.data.toList := by rw [app_list, list12]
  rw [← two_be id, ← two_be v, ← two_be a, ← two_be b, ← two_be c, ← two_be d]
  exact ⟨val_of (by rw [hl]; rfl), val_of (by rw [hl]; rfl), val_of (by rw [hl]; rfl), val_of (by rw [hl]; rfl), val_of (by rw [hl]; rfl), val_of (by rw [hl]; rfl)⟩
/-- What was told is put. -/
theorem put_back (s : ByteArray) (h : 12 ≤ s.size) : putS (val s 0 2) (val s 2 2) (val s 4 2) (val s 6 2) (val s 8 2) (val s 10 2) 4 = s.extract 0 12 := by
  have hlen : 12 ≤ s.data.toList.length := by rw [data_len]; exact h
  obtain ⟨l, hl⟩ : ∃ l, s.data.toList = l := ⟨_, rfl⟩
  rw [hl] at hlen
  match l, hlen, hl with
  | x0 :: x1 :: x2 :: x3 :: x4 :: x5 :: x6 :: x7 :: x8 :: x9 :: x10 :: x11 :: r, _, hl =>
    have v0 : val s 0 2 = two x0 x1 := val_of (by rw [hl]; rfl)
    have v1 : val s 2 2 = two x2 x3 := val_of (by rw [hl]; rfl)
    have v2 : val s 4 2 = two x4 x5 := val_of (by rw [hl]; rfl)
    have v3 : val s 6 2 = two x6 x7 := val_of (by rw [hl]; rfl)
    have v4 : val s 8 2 = two x8 x9 := val_of (by rw [hl]; rfl)
    have v5 : val s 10 2 = two x10 x11 := val_of (by rw [hl]; rfl)
    apply ByteArray.ext
    apply Array.toList_inj.1
    rw [v0, v1, v2, v3, v4, v5, list12, ext_to, hl, (oct_two x0 x1).1, (oct_two x0 x1).2, (oct_two x2 x3).1, (oct_two x2 x3).2, (oct_two x4 x5).1, (oct_two x4 x5).2, (oct_two x6 x7).1, (oct_two x6 x7).2, (oct_two x8 x9).1, (oct_two x8 x9).2, (oct_two x10 x11).1, (oct_two x10 x11).2]
    rfl

theorem int_cells : Try.prog.cellsOf 3 = 1 := by kernel_rfl
theorem bool_cells : Try.prog.cellsOf 4 = 1 := by kernel_rfl
theorem head_cells : Try.prog.cellsOf 23 = 9 := by kernel_rfl

set_option maxRecDepth 100000 in
/-- An api.Head as it comes in. -/
theorem open_head {H : Type} {enc : TypeId × Value → H} {W : World} {r : Reach} {b0 : Nat} {v : Value} {d : DataW H} {p : List MemPlace} (hval : Value.okWide Try.prog W r b0 23 v) (h0 : DataW.Trod enc Try.prog W 0 (fun _ => true) true 23 v d p) :
    ∃ (id : Int) (qr : Bool) (op : Int) (aa tc rd ra : Bool) (z rc : Int), v = .agg (headV id qr op aa tc rd ra z rc) ∧ p = [] := by
  obtain ⟨cs, rfl, hsz⟩ := okWide_struct Try.underlying23 hval
  obtain ⟨fuel, hf⟩ := h0
  obtain ⟨xs, n, _, hx, hl, hlen, hfs⟩ := DataW.trod_struct Try.underlying23 hf
  obtain ⟨l, rfl⟩ : ∃ l : List Value, cs = l.toArray := ⟨cs.toList, by simp⟩
  have hl9 : l.length = 9 := by rw [head_cells] at hsz; simpa using hsz
  match l, hl9 with
  | [c0, c1, c2, c3, c4, c5, c6, c7, c8], _ =>
  match xs, hlen with
  | [y0, y1, y2, y3, y4, y5, y6, y7, y8], _ =>
    have t0 := hfs 0 _ rfl
    have t1 := hfs 1 _ rfl
    have t2 := hfs 2 _ rfl
    have t3 := hfs 3 _ rfl
    have t4 := hfs 4 _ rfl
    have t5 := hfs 5 _ rfl
    have t6 := hfs 6 _ rfl
    have t7 := hfs 7 _ rfl
    have t8 := hfs 8 _ rfl
    simp [bool_cells, int_cells, Value.cells] at t0 t1 t2 t3 t4 t5 t6 t7 t8
    obtain ⟨id, e0, x0, _⟩ := DataW.trod_int Try.underlying3 t0
    obtain ⟨qr, e1, x1⟩ := DataW.trod_bool Try.underlying4 t1
    obtain ⟨op, e2, x2, _⟩ := DataW.trod_int Try.underlying3 t2
    obtain ⟨aa, e3, x3⟩ := DataW.trod_bool Try.underlying4 t3
    obtain ⟨tc, e4, x4⟩ := DataW.trod_bool Try.underlying4 t4
    obtain ⟨rd, e5, x5⟩ := DataW.trod_bool Try.underlying4 t5
    obtain ⟨ra, e6, x6⟩ := DataW.trod_bool Try.underlying4 t6
    obtain ⟨z, e7, x7, _⟩ := DataW.trod_int Try.underlying3 t7
    obtain ⟨rc, e8, x8, _⟩ := DataW.trod_int Try.underlying3 t8
    simp at e0 e1 e2 e3 e4 e5 e6 e7 e8
    subst e0 e1 e2 e3 e4 e5 e6 e7 e8
    refine ⟨id, qr, op, aa, tc, rd, ra, z, rc, rfl, ?_⟩
    have := (Prod.mk.inj hx).2
    rw [this, x0, x1, x2, x3, x4, x5, x6, x7, x8]
    rfl

end Go.Proofs.Ytbffnicfibfceaa

/- Rows of strings that come in; rows beside a Writer. -/
namespace Go.Proofs.Ytbffnicfibfceaa
open Go.ChangeShapes Go.WideShapes Go.ChangeAt Go.RowKit
open Go.ChangeMaps (open_string shut_string)
open Pl


theorem one_cell (w : World) (x : ByteArray) : ∀ j (hj : j < [x].length), (w.alloc (.cells #[.string x] 9)).cell? ((⟨w.heap.size, 0, none⟩ : Addr).add j) = some (.string [x][j]) := by
  intro j hj
  have := World.news_of_block (heap_alloc_new w (.cells #[.string x] 9)) j (.string [x][j])
  have hj0 : j = 0 := by simpa using hj
  subst hj0
  exact this (by simp)
theorem row_some {w : World} {base e z n c : Nat} {y : Option Addr} {xs : List Value} (h : w.ownsRow base e z (.slice y n c) n xs) (hn : 0 < n) : ∃ g, y = some ⟨g, 0, none⟩ := by
  rcases h.2 with ⟨_, h2⟩ | ⟨g, cap, cur, h1, _⟩
  · omega
  · simp at h1; exact ⟨g, h1.1⟩
theorem str_beq (a b : ByteArray) : (a.toList == b.toList) = decide (a = b) := by
  rw [ByteArray.toList_eq, ByteArray.toList_eq, Bool.eq_iff_iff]
  simp only [beq_iff_eq, decide_eq_true_eq]
  exact ⟨fun h => by apply ByteArray.ext; apply Array.ext'; exact h, fun h => by rw [h]⟩

/-- The names that fit: what is written takes this many bytes. -/
theorem nam_fits {B : List UInt8} {ms : Marks} {n : List UInt8} (hn : isName n = true) (hB : B.length + 255 ≤ 4096) : namE B ms n = 0 ∧ (namB B ms n).length = B.length + sizW ms n ∧ namB B ms n = outW B ms n ∧ namM B ms n = marW B ms n := by
  have h1 := splN_size hn ms
  have h2 := (name_some hn).1
  obtain ⟨a, b, c⟩ := nam_yes (B := B) (ms := ms) hn (by omega)
  exact ⟨a, by rw [b, outW_len hn], b, c⟩
theorem siz_le {ms : Marks} {n : List UInt8} (hn : isName n = true) : 1 ≤ sizW ms n ∧ sizW ms n ≤ n.length := by
  refine ⟨?_, splN_size hn ms⟩
  unfold sizW
  rcases splN_end hn ms with ⟨_, _, h⟩ | ⟨q, _, h⟩
  · rw [h]; simp
  · rw [h]; simp [ptrB]
/-- A name that is not the root has a place behind its writing. -/
theorem mar_has {B : List UInt8} {ms : Marks} {n : List UInt8} (hn : isName n = true) (h0 : n ≠ [0]) : ∃ q, plc (marW B ms n) n = some q := by
  cases hp : plc ms n with
  | some q => exact ⟨q, plc_keep hp⟩
  | none =>
    have hl := name_ne hn
    have h0' : n[0].toNat ≠ 0 := fun e => h0 (by have := nat_root (nat_start hn) hl e; simpa using this)
    obtain ⟨_, hlt⟩ := w_miss (w_start hn ms) hl h0' (by simpa using hp)
    refine ⟨B.length + 0, ?_⟩
    unfold marW newM
    rw [plc_app, hp]
    obtain ⟨f, hf⟩ : ∃ f, n.length = f + 1 := ⟨n.length - 1, by omega⟩
    rw [hf, sts, if_pos hlt]
    simp [mkM, plc]

end Go.Proofs.Ytbffnicfibfceaa

/- Names that were written are read again: plain facts on bytes, with no word of the program. -/
namespace Go.Proofs.Ytbffnicfibfceaa.Pl

/-- The bytes from p on read as r, in at most so many steps; b: the place behind. -/
def Rd (l : List UInt8) : Nat → Nat → Nat → List UInt8 → Nat → Prop
  | 0, _, _, _, _ => False
  | d + 1, p, g, r, b => p < l.length ∧
    (((l.getD p 0).toNat = 0 ∧ r = [0] ∧ b = p + 1) ∨
     ((l.getD p 0).toNat ≠ 0 ∧ (l.getD p 0).toNat ≤ 63 ∧ p + 1 + (l.getD p 0).toNat ≤ l.length ∧ ∃ r', r = (l.drop p).take (1 + (l.getD p 0).toNat) ++ r' ∧ Rd l d (p + 1 + (l.getD p 0).toNat) g r' b) ∨
     (191 < (l.getD p 0).toNat ∧ p + 2 ≤ l.length ∧ ptrAt l p < g ∧ b = p + 2 ∧ ∃ b', Rd l d (ptrAt l p) (ptrAt l p) r b'))

theorem rd_gives {l : List UInt8} : ∀ (d p g : Nat) (r : List UInt8) (b : Nat) (o : List UInt8) (x : Option Nat) (R : Option (List UInt8 × Nat)), Rd l d p g r b → o.length + r.length ≤ 255 → RAt l p g o x R → R = some (o ++ r, x.getD b) := by
  intro d
  induction d with
  | zero => intro p g r b o x R h; exact absurd h (by simp [Rd])
  | succ d ih =>
    intro p g r b o x R h hl hr
    obtain ⟨hp, h⟩ := h
    rw [getD_get hp] at h
    rcases h with ⟨h0, rfl, rfl⟩ | ⟨h0, h1, h2, r', rfl, h3⟩ | ⟨h0, h1, h2, rfl, b', h3⟩
    · exact r_zero hr hp h0 (by simp at hl; omega)
    · have hll := lab_len (l := l) (p := p) h2
      rw [List.length_append, hll] at hl
      have := ih _ _ _ _ _ _ _ h3 (by rw [List.length_append, hll]; omega) (r_lab hr hp h0 h1 h2 (by omega))
      rw [this, List.append_assoc]
    · have := ih _ _ _ _ _ _ _ h3 hl (r_ptr hr hp h0 h1 h2)
      rw [this]; rfl

theorem rd_name {l : List UInt8} {d p : Nat} {r : List UInt8} {b : Nat} (h : Rd l d p p r b) (hl : r.length ≤ 255) : nameOf l p = some (r, b) := by
  have := rd_gives d p p r b [] none _ h (by simpa using hl) (r_start l p)
  simpa using this

theorem getD_app {l e : List UInt8} {p : Nat} (h : p < l.length) : (l ++ e).getD p 0 = l.getD p 0 := by
  rw [List.getD_eq_getElem?_getD, List.getD_eq_getElem?_getD, List.getElem?_append_left h]
theorem take_app {l e : List UInt8} {p k : Nat} (h : p + k ≤ l.length) : ((l ++ e).drop p).take k = (l.drop p).take k := by
  rw [List.drop_append_of_le_length (by omega), List.take_append_of_le_length (by rw [List.length_drop]; omega)]
theorem ptr_mono {l e : List UInt8} {p : Nat} (h : p + 2 ≤ l.length) : ptrAt (l ++ e) p = ptrAt l p := by
  unfold ptrAt; rw [getD_app (by omega), getD_app (by omega)]
theorem rd_app {l : List UInt8} (e : List UInt8) : ∀ (d p g : Nat) (r : List UInt8) (b : Nat), Rd l d p g r b → Rd (l ++ e) d p g r b := by
  intro d
  induction d with
  | zero => intro p g r b h; exact h
  | succ d ih =>
    intro p g r b h
    obtain ⟨hp, h⟩ := h
    refine ⟨by rw [List.length_append]; omega, ?_⟩
    rw [getD_app hp]
    rcases h with h | ⟨h0, h1, h2, r', rfl, h3⟩ | ⟨h0, h1, h2, rfl, b', h3⟩
    · exact .inl h
    · exact .inr (.inl ⟨h0, h1, by rw [List.length_append]; omega, r', by rw [take_app (by omega)], ih _ _ _ _ h3⟩)
    · rw [ptr_mono h1]
      exact .inr (.inr ⟨h0, by rw [List.length_append]; omega, h2, rfl, b', ih _ _ _ _ h3⟩)
theorem rd_g {l : List UInt8} : ∀ (d p g g' : Nat) (r : List UInt8) (b : Nat), g ≤ g' → Rd l d p g r b → Rd l d p g' r b := by
  intro d
  induction d with
  | zero => intro p g g' r b _ h; exact h
  | succ d ih =>
    intro p g g' r b hg h
    obtain ⟨hp, h⟩ := h
    refine ⟨hp, ?_⟩
    rcases h with h | ⟨h0, h1, h2, r', rfl, h3⟩ | ⟨h0, h1, h2, rfl, b', h3⟩
    · exact .inl h
    · exact .inr (.inl ⟨h0, h1, h2, r', rfl, ih _ _ _ _ _ hg h3⟩)
    · exact .inr (.inr ⟨h0, h1, by omega, rfl, b', h3⟩)

/-- The first e bytes of n stand in l at P. -/
def Copied (l : List UInt8) (P : Nat) (n : List UInt8) (e : Nat) : Prop := e ≤ n.length ∧ P + e ≤ l.length ∧ (l.drop P).take e = n.take e
theorem copied_at {l : List UInt8} {P : Nat} {n : List UInt8} {e p k : Nat} (h : Copied l P n e) (hp : p + k ≤ e) : (l.drop (P + p)).take k = (n.drop p).take k := by
  have h1 := congrArg (fun x => (x.drop p).take k) h.2.2
  simp only [List.drop_take, List.drop_drop, List.take_take] at h1
  rw [show min k (e - p) = k from by omega] at h1
  exact h1
theorem copied_get {l : List UInt8} {P : Nat} {n : List UInt8} {e p : Nat} (h : Copied l P n e) (hp : p < e) : l.getD (P + p) 0 = n.getD p 0 := by
  have h1 := copied_at (p := p) (k := 1) h (by omega)
  have hl := h.2.1
  have hn := h.1
  rw [drop_at l (P + p) (by omega), drop_at n p (by omega)] at h1
  simp only [List.take_succ_cons, List.take_zero, List.cons.injEq, and_true] at h1
  rw [getD_get (by omega), getD_get (by omega), h1]

/-- Labels that stand somewhere, and an end that reads as the rest: the whole name is read. -/
theorem rd_labels {l : List UInt8} {P g b e : Nat} {n : List UInt8} {ms : Marks} (hc : Copied l P n e) {d0 : Nat} (he : Rd l d0 (P + e) g (n.drop e) b) : ∀ (f p : Nat), n.length ≤ f + p → NAt n p → (spl f ms n p).1 = e → ∃ d, Rd l d (P + p) g (n.drop p) b := by
  intro f
  induction f with
  | zero => intro p hf hn; have := nat_lt hn; omega
  | succ f ih =>
    intro p hf hn hs
    have hp := nat_lt hn
    rw [spl, getD_get hp] at hs
    by_cases h0 : n[p].toNat = 0
    · rw [if_pos h0] at hs
      simp only at hs
      subst hs
      exact ⟨d0, he⟩
    · rw [if_neg h0] at hs
      cases hq : plc ms (n.drop p) with
      | some q =>
        rw [hq] at hs
        simp only at hs
        subst hs
        exact ⟨d0, he⟩
      | none =>
        rw [hq] at hs
        simp only at hs
        obtain ⟨h1, h2, h3⟩ := nat_step hn hp h0
        obtain ⟨d, hd⟩ := ih (p + 1 + n[p].toNat) (by omega) h3 hs
        have hge := spl_ge f ms n (p + 1 + n[p].toNat)
        rw [hs] at hge
        have hgd : l.getD (P + p) 0 = n[p] := by rw [copied_get hc (by omega), getD_get hp]
        have hcl := hc.2.1
        refine ⟨d + 1, by omega, .inr (.inl ?_)⟩
        rw [hgd]
        refine ⟨h0, h1, by omega, n.drop (p + 1 + n[p].toNat), ?_, by rw [show P + p + 1 + n[p].toNat = P + (p + 1 + n[p].toNat) from by omega]; exact hd⟩
        rw [copied_at hc (by omega)]
        have := List.take_append_drop (1 + n[p].toNat) (n.drop p)
        rw [List.drop_drop, show p + (1 + n[p].toNat) = p + 1 + n[p].toNat from by omega] at this
        exact this.symm

theorem ptr_here (a r : List UInt8) (q : Nat) (hq : q < 16384) : ptrAt (a ++ (ptrB q ++ r)) a.length = q := by
  unfold ptrAt
  have h0 : (a ++ (ptrB q ++ r)).getD a.length 0 = UInt8.ofNat (192 + q / 256) := by rw [List.getD_eq_getElem?_getD, List.getElem?_append_right (by omega)]; simp [ptrB]
  have h1 : (a ++ (ptrB q ++ r)).getD (a.length + 1) 0 = UInt8.ofNat (q % 256) := by rw [List.getD_eq_getElem?_getD, List.getElem?_append_right (by omega)]; simp [ptrB]
  rw [h0, h1, toNat_of (by omega), toNat_of (by omega)]
  omega
/-- A pointer to what reads as r reads as r. -/
theorem rd_ptr {a r t : List UInt8} {q d b g : Nat} (hq : q < 16384) (hg : q < g) (h : Rd (a ++ (ptrB q ++ t)) d q q r b) : Rd (a ++ (ptrB q ++ t)) (d + 1) a.length g r (a.length + 2) := by
  refine ⟨by simp [ptrB], .inr (.inr ?_)⟩
  have h0 : (a ++ (ptrB q ++ t)).getD a.length 0 = UInt8.ofNat (192 + q / 256) := by rw [List.getD_eq_getElem?_getD, List.getElem?_append_right (by omega)]; simp [ptrB]
  rw [h0, toNat_of (by omega), ptr_here a t q hq]
  exact ⟨by omega, by simp [ptrB], hg, rfl, b, h⟩
theorem rd_zero {a t : List UInt8} {g : Nat} : Rd (a ++ (0 :: t)) 1 a.length g [0] (a.length + 1) := by
  refine ⟨by simp, .inl ?_⟩
  rw [List.getD_eq_getElem?_getD, List.getElem?_append_right (by omega)]
  simp

/-- A name that stands whole. -/
theorem rd_whole {n : List UInt8} (hn : isName n = true) (a t : List UInt8) (g : Nat) : ∃ d, Rd (a ++ (n ++ t)) d a.length g n (a.length + n.length) := by
  have hl := name_ne hn
  have hat := splN_at hn []
  rcases splN_end hn [] with ⟨h1, h0, h2⟩ | ⟨q, hq, _⟩
  · obtain ⟨E, hE⟩ : ∃ E, E = (splN [] n).1 := ⟨_, rfl⟩
    simp only [← hE] at h1 h0 hat
    have hz := nat_zero hat h1 h0
    have hr := nat_root hat h1 h0
    have hn2 : n = n.take E ++ [0] := by rw [← hr, List.take_append_drop]
    have hend : Rd (a ++ (n ++ t)) 1 (a.length + E) g (n.drop E) (a.length + n.length) := by
      have e1 : a ++ (n ++ t) = (a ++ n.take E) ++ (0 :: t) := by
        have : n ++ t = n.take E ++ [0] ++ t := by rw [← hn2]
        rw [this]; simp
      have e2 : (a ++ n.take E).length = a.length + E := by rw [List.length_append, List.length_take]; omega
      have := rd_zero (a := a ++ n.take E) (t := t) (g := g)
      rw [e2] at this
      rw [e1, hr, ← hz]
      exact this
    have hc : Copied (a ++ (n ++ t)) a.length n E := by
      refine ⟨by omega, by simp; omega, ?_⟩
      rw [List.drop_left, List.take_append_of_le_length (by omega)]
    obtain ⟨d, hd⟩ := rd_labels (ms := []) hc hend n.length 0 (by omega) (nat_start hn) hE.symm
    exact ⟨d, by simpa using hd⟩
  · simp [plc] at hq
theorem name_whole {n : List UInt8} (hn : isName n = true) (a t : List UInt8) : nameOf (a ++ (n ++ t)) a.length = some (n, a.length + n.length) := by
  obtain ⟨d, hd⟩ := rd_whole hn a t a.length
  exact rd_name hd (name_some hn).1
/-- A pointer to a name that stands whole at the head. -/
theorem name_ptr0 {n : List UInt8} (hn : isName n = true) (u t : List UInt8) : nameOf (n ++ u ++ (ptrB 0 ++ t)) (n.length + u.length) = some (n, n.length + u.length + 2) := by
  obtain ⟨d, hd⟩ := rd_whole hn [] (u ++ (ptrB 0 ++ t)) 0
  have hl := name_ne hn
  have e : (n ++ u).length = n.length + u.length := by rw [List.length_append]
  have h2 : Rd (n ++ u ++ (ptrB 0 ++ t)) d 0 0 n n.length := by
    have : n ++ u ++ (ptrB 0 ++ t) = [] ++ (n ++ (u ++ (ptrB 0 ++ t))) := by simp
    rw [this]
    simpa using hd
  have h3 := rd_ptr (a := n ++ u) (t := t) (q := 0) (g := n.length + u.length) (by decide) (by omega) h2
  rw [e] at h3
  exact rd_name h3 (name_some hn).1

end Go.Proofs.Ytbffnicfibfceaa.Pl

/- What a Writer has written is read again: plain facts on bytes, with no word of the program. -/
namespace Go.Proofs.Ytbffnicfibfceaa.Pl

/-- Each rest reads at its place asx itself. -/
def MInv (B : List UInt8) (ms : Marks) : Prop := ∀ r q, (r, q) ∈ ms → q < B.length ∧ ∃ d b, Rd B d q q r b

theorem sts_spl {ms : Marks} {n : List UInt8} {E : Nat} : ∀ (f p q : Nat), n.length ≤ f + p → NAt n p → (spl f ms n p).1 = E → q ∈ sts f n p E → ∃ f', n.length ≤ f' + q ∧ NAt n q ∧ (spl f' ms n q).1 = E := by
  intro f
  induction f with
  | zero => intro p q _ _ _ hq; simp [sts] at hq
  | succ f ih =>
    intro p q hf hn hs hq
    have hp := nat_lt hn
    rw [sts] at hq
    split at hq
    · rename_i hlt
      rcases List.mem_cons.1 hq with rfl | hq
      · exact ⟨f + 1, hf, hn, hs⟩
      · rw [getD_get hp] at hq
        rw [spl, getD_get hp] at hs
        by_cases h0 : n[p].toNat = 0
        · rw [if_pos h0] at hs; simp only at hs; omega
        · rw [if_neg h0] at hs
          cases hpl : plc ms (n.drop p) with
          | some x => rw [hpl] at hs; simp only at hs; omega
          | none =>
            rw [hpl] at hs
            exact ih _ _ (by omega) (nat_step hn hp h0).2.2 hs hq
    · simp at hq

theorem write_end {B : List UInt8} {ms : Marks} {n : List UInt8} (hn : isName n = true) (hm : MInv B ms) (hB : B.length ≤ 16384) (g : Nat) (hg : B.length ≤ g) : ∃ d, Rd (outW B ms n) d (B.length + (splN ms n).1) g (n.drop (splN ms n).1) (B.length + sizW ms n) := by
  have hat := splN_at hn ms
  have hlt := nat_lt hat
  have hl : (B ++ n.take (splN ms n).1).length = B.length + (splN ms n).1 := by rw [List.length_append, List.length_take]; omega
  rcases splN_end hn ms with ⟨h1, h0, h2⟩ | ⟨q, hq, h2⟩
  · have hr := nat_root hat h1 h0
    have e : outW B ms n = (B ++ n.take (splN ms n).1) ++ (0 :: []) := by unfold outW; rw [h2]; simp
    have := rd_zero (a := B ++ n.take (splN ms n).1) (t := []) (g := g)
    rw [hl] at this
    refine ⟨1, ?_⟩
    rw [e, hr]
    unfold sizW
    rw [h2]
    exact this
  · obtain ⟨hqB, d, b, hd⟩ := hm _ _ (plc_mem hq)
    have e : outW B ms n = (B ++ n.take (splN ms n).1) ++ (ptrB q ++ []) := by unfold outW; rw [h2]; simp
    have hd2 : Rd ((B ++ n.take (splN ms n).1) ++ (ptrB q ++ [])) d q q (n.drop (splN ms n).1) b := by
      have := rd_app (n.take (splN ms n).1 ++ (ptrB q ++ [])) d q q _ b hd
      rw [← List.append_assoc] at this
      exact this
    have := rd_ptr (a := B ++ n.take (splN ms n).1) (t := []) (g := g) (by omega) (by omega) hd2
    rw [hl] at this
    refine ⟨d + 1, ?_⟩
    rw [e]
    unfold sizW
    rw [h2]
    exact this
theorem write_copied {B : List UInt8} {ms : Marks} {n : List UInt8} (hn : isName n = true) : Copied (outW B ms n) B.length n (splN ms n).1 := by
  have hlt := nat_lt (splN_at hn ms)
  refine ⟨by omega, ?_, ?_⟩
  · unfold outW; rw [List.length_append, List.length_append, List.length_take]; omega
  · unfold outW; rw [List.drop_left, List.take_append_of_le_length (by rw [List.length_take]; omega), List.take_take, Nat.min_self]
theorem write_rest {B : List UInt8} {ms : Marks} {n : List UInt8} (hn : isName n = true) (hm : MInv B ms) (hB : B.length ≤ 16384) (q : Nat) (hq : q ∈ sts n.length n 0 (splN ms n).1) : ∃ d, Rd (outW B ms n) d (B.length + q) (B.length + q) (n.drop q) (B.length + sizW ms n) := by
  obtain ⟨f', h1, h2, h3⟩ := sts_spl n.length 0 q (by omega) (nat_start hn) rfl hq
  obtain ⟨d0, he⟩ := write_end hn hm hB (B.length + q) (by omega)
  exact rd_labels (write_copied hn) he f' q h1 h2 h3
theorem write_name {B : List UInt8} {ms : Marks} {n : List UInt8} (hn : isName n = true) (hm : MInv B ms) (hB : B.length ≤ 16384) : ∃ d, Rd (outW B ms n) d B.length B.length n (B.length + sizW ms n) := by
  obtain ⟨d0, he⟩ := write_end hn hm hB B.length (Nat.le_refl _)
  obtain ⟨d, hd⟩ := rd_labels (ms := ms) (write_copied hn) he n.length 0 (by omega) (nat_start hn) rfl
  exact ⟨d, by simpa using hd⟩
theorem write_inv {B : List UInt8} {ms : Marks} {n : List UInt8} (hn : isName n = true) (hm : MInv B ms) (hB : B.length ≤ 16384) : MInv (outW B ms n) (marW B ms n) := by
  intro r q hq
  have hlt := nat_lt (splN_at hn ms)
  unfold marW at hq
  rcases List.mem_append.1 hq with hq | hq
  · obtain ⟨h1, d, b, hd⟩ := hm r q hq
    refine ⟨by unfold outW; rw [List.length_append]; omega, d, b, ?_⟩
    unfold outW
    exact rd_app _ d q q r b hd
  · simp only [newM, mkM, List.mem_map, Prod.mk.injEq] at hq
    obtain ⟨p, hp, rfl, rfl⟩ := hq
    obtain ⟨d, hd⟩ := write_rest hn hm hB p hp
    have := (splN_miss hn ms p hp).2.1
    refine ⟨by unfold outW; rw [List.length_append, List.length_append, List.length_take]; omega, d, _, hd⟩

/-- Names were written at 'asx', one behind the other. -/
def Bk (B : List UInt8) (ms : Marks) (asx : List Nat) (ks : List (List UInt8)) : Prop :=
  MInv B ms ∧ asx.length = ks.length ∧ ∀ i, i < ks.length → isName (ks.getD i []) = true ∧ ∃ d, Rd B d (asx.getD i 0) (asx.getD i 0) (ks.getD i []) ((asx ++ [B.length]).getD (i + 1) 0)
theorem bk_start (B : List UInt8) : Bk B [] [] [] := ⟨fun r q h => by simp at h, rfl, fun i h => by simp at h⟩
theorem getD_lt {α : Type} (a b : List α) (i : Nat) (d : α) (h : i < a.length) : (a ++ b).getD i d = a.getD i d := by
  rw [List.getD_eq_getElem?_getD, List.getD_eq_getElem?_getD, List.getElem?_append_left h]
theorem getD_at {α : Type} (a b : List α) (i : Nat) (d : α) (h : i = a.length) : (a ++ b).getD i d = b.getD 0 d := by
  rw [List.getD_eq_getElem?_getD, List.getD_eq_getElem?_getD, List.getElem?_append_right (by omega), h, Nat.sub_self]
theorem bk_next {B : List UInt8} {ms : Marks} {asx : List Nat} {ks : List (List UInt8)} {n : List UInt8} (h : Bk B ms asx ks) (hn : isName n = true) (hB : B.length ≤ 16384) (hl : (outW B ms n).length = B.length + sizW ms n) : Bk (outW B ms n) (marW B ms n) (asx ++ [B.length]) (ks ++ [n]) := by
  obtain ⟨h1, h2, h3⟩ := h
  refine ⟨write_inv hn h1 hB, by simp [h2], fun i hi => ?_⟩
  rw [List.length_append] at hi
  by_cases e : i < ks.length
  · obtain ⟨a, d, b⟩ := h3 i e
    rw [getD_lt ks _ i _ e, getD_lt asx _ i _ (by omega), getD_lt (asx ++ [B.length]) _ (i + 1) _ (by rw [List.length_append]; simp; omega)]
    refine ⟨a, d, ?_⟩
    unfold outW
    exact rd_app _ _ _ _ _ _ b
  · have ei : i = ks.length := by simp at hi; omega
    rw [getD_at ks _ i _ ei, getD_at asx _ i _ (by omega), getD_at (asx ++ [B.length]) _ (i + 1) _ (by rw [List.length_append]; simp; omega)]
    obtain ⟨d, hd⟩ := write_name hn h1 hB
    refine ⟨hn, d, ?_⟩
    rw [hl]
    exact hd
theorem bk_read {B : List UInt8} {ms : Marks} {asx : List Nat} {ks : List (List UInt8)} (h : Bk B ms asx ks) {i : Nat} (hi : i < ks.length) : nameOf B (asx.getD i 0) = some (ks.getD i [], (asx ++ [B.length]).getD (i + 1) 0) := by
  obtain ⟨h1, d, h2⟩ := h.2.2 i hi
  exact rd_name h2 (name_some h1).1

end Go.Proofs.Ytbffnicfibfceaa.Pl

/- Messages, plainly: which may be, how they are written, how they are read. -/
namespace Go.Proofs.Ytbffnicfibfceaa
open Go.RowKit
open Pl

/-- A question. -/
structure Qn where
  n : ByteArray
  t : Int
  c : Int
/-- A record. -/
structure Rc where
  n : ByteArray
  t : Int
  c : Int
  l : Int
  d : ByteArray
/-- A header. -/
structure Hd where
  id : Int
  qr : Bool
  op : Int
  aa : Bool
  tc : Bool
  rd : Bool
  ra : Bool
  z : Int
  rc : Int
/-- A message. -/
structure Ms where
  h : Hd
  qs : List Qn
  an : List Rc
  ns : List Rc
  ar : List Rc

/-- Which may be. -/
def mayQ (q : Qn) : Bool := isName q.n.data.toList && (decide (1 ≤ q.t) && decide (q.t ≤ 65535)) && inB 65535 q.c
def mayR (r : Rc) : Bool := isName r.n.data.toList && inB 65535 r.c && inB 4294967295 r.l && mayD r.t r.d.data.toList
def mayHd (h : Hd) : Bool := mayH h.id h.op h.z h.rc 0 0 0 0
def few {α : Type} (f : α → Bool) (xs : List α) : Bool := decide (xs.length ≤ 64) && xs.all f
def mayM (m : Ms) : Bool := mayHd m.h && (few mayQ m.qs && few mayR m.an && few mayR m.ns && few mayR m.ar)

/-- What is written so far: the bytes, the rests. -/
abbrev St := List UInt8 × Marks
def stN (st : St) (n : ByteArray) : Option St := if namE st.1 st.2 n.data.toList = 0 then some (namB st.1 st.2 n.data.toList, namM st.1 st.2 n.data.toList) else none
def stR (st : St) (s : ByteArray) : Option St := if rawE st.1 s = 0 then some (rawB st.1 s, st.2) else none
/-- What stands behind a name. -/
def qB (q : Qn) : ByteArray := be2 q.t ++ be2 q.c
def rB (r : Rc) : ByteArray := be2 r.t ++ be2 r.c ++ be4 r.l ++ be2 (r.d.size : Int)
def stQ (st : St) (q : Qn) : Option St := (stN st q.n).bind fun a => stR a (qB q)
def stC (st : St) (r : Rc) : Option St := (stN st r.n).bind fun a => stR a (rB r ++ r.d)
def stAll {α : Type} (f : St → α → Option St) (o : Option St) (xs : List α) : Option St := xs.foldl (fun o x => o.bind fun a => f a x) o
def headS (m : Ms) : ByteArray := putS m.h.id (wordH m.h.qr m.h.op m.h.aa m.h.tc m.h.rd m.h.ra m.h.z m.h.rc) (m.qs.length : Int) (m.an.length : Int) (m.ns.length : Int) (m.ar.length : Int) 4
def putSt (m : Ms) : Option St := stAll stC (stAll stC (stAll stC (stAll stQ (some ((headS m).data.toList, [])) m.qs) m.an) m.ns) m.ar
/-- What Put gives. -/
def stV : Option St → Value
  | some st => .tuple #[.string ⟨st.1.toArray⟩, .int .i64 0]
  | none => .tuple #[.string ⟨#[]⟩, .int .i64 701]
def putV (m : Ms) : Value := if mayM m = true then stV (putSt m) else .tuple #[.string ⟨#[]⟩, .int .i64 700]

theorem stAll_none {α : Type} (f : St → α → Option St) (xs : List α) : stAll f none xs = none := by
  unfold stAll
  induction xs with
  | nil => rfl
  | cons x xs ih => exact ih
theorem stAll_cons {α : Type} (f : St → α → Option St) (o : Option St) (x : α) (xs : List α) : stAll f o (x :: xs) = stAll f (o.bind fun a => f a x) xs := rfl
theorem stAll_app {α : Type} (f : St → α → Option St) (o : Option St) (a b : List α) : stAll f o (a ++ b) = stAll f (stAll f o a) b := by unfold stAll; rw [List.foldl_append]
theorem stAll_snoc {α : Type} (f : St → α → Option St) (o : Option St) (xs : List α) (k : Nat) (h : k < xs.length) : stAll f o (xs.take (k + 1)) = (stAll f o (xs.take k)).bind fun a => f a xs[k] := by
  rw [List.take_succ_eq_append_getElem h, stAll_app]; rfl

/-- How it is read. -/
def getQ (s : ByteArray) (p : Nat) : Option (Qn × Nat) := match nameOf s.data.toList p with
  | none => none
  | some (n, a) => if a + 4 ≤ s.size ∧ val s a 2 ≠ 0 then some (⟨⟨n.toArray⟩, val s a 2, val s (a + 2) 2⟩, a + 4) else none
def getR (s : ByteArray) (p : Nat) : Option (Rc × Nat) := match nameOf s.data.toList p with
  | none => none
  | some (n, a) => if a + 10 + (val s (a + 8) 2).toNat ≤ s.size then
      (match dataOf s.data.toList (a + 10) (val s (a + 8) 2).toNat (val s a 2) with
       | none => none
       | some d => some (⟨⟨n.toArray⟩, val s a 2, val s (a + 2) 2, val s (a + 4) 4, ⟨d.toArray⟩⟩, a + 10 + (val s (a + 8) 2).toNat)) else none
/-- So many, one behind the other. -/
def getAll {α : Type} (f : Nat → Option (α × Nat)) (p : Nat) : Nat → Option (List α × Nat)
  | 0 => some ([], p)
  | k + 1 => match getAll f p k with
    | none => none
    | some (xs, a) => match f a with
      | none => none
      | some (x, b) => some (xs ++ [x], b)
theorem getAll_none {α : Type} {f : Nat → Option (α × Nat)} {p j : Nat} (h : getAll f p j = none) : ∀ k, j ≤ k → getAll f p k = none := by
  intro k
  induction k with
  | zero => intro hk; rw [show (0 : Nat) = j from by omega]; exact h
  | succ k ih =>
    intro hk
    by_cases e : j = k + 1
    · rw [← e]; exact h
    · rw [getAll, ih (by omega)]
theorem getAll_next {α : Type} {f : Nat → Option (α × Nat)} {p k a b : Nat} {xs : List α} {x : α} (h : getAll f p k = some (xs, a)) (hf : f a = some (x, b)) : getAll f p (k + 1) = some (xs ++ [x], b) := by rw [getAll, h]; simp only [hf]
theorem getAll_stop {α : Type} {f : Nat → Option (α × Nat)} {p k a : Nat} {xs : List α} (h : getAll f p k = some (xs, a)) (hf : f a = none) : getAll f p (k + 1) = none := by rw [getAll, h]; simp only [hf]
theorem getAll_len {α : Type} {f : Nat → Option (α × Nat)} {p : Nat} : ∀ {k a : Nat} {xs : List α}, getAll f p k = some (xs, a) → xs.length = k := by
  intro k
  induction k with
  | zero => intro a xs h; simp [getAll] at h; rw [h.1]; rfl
  | succ k ih =>
    intro a xs h
    rw [getAll] at h
    cases h1 : getAll f p k with
    | none => rw [h1] at h; simp at h
    | some z =>
      obtain ⟨ys, b⟩ := z
      rw [h1] at h
      simp only at h
      cases h2 : f b with
      | none => rw [h2] at h; simp at h
      | some z =>
        obtain ⟨x, c⟩ := z
        rw [h2] at h
        simp at h
        rw [← h.1, List.length_append, ih h1]; rfl

/-- The header that stands in s. -/
def hdOf (s : ByteArray) : Hd := ⟨val s 0 2, val s 2 2 / 32768 % 2 == 1, val s 2 2 / 2048 % 16, val s 2 2 / 1024 % 2 == 1, val s 2 2 / 512 % 2 == 1, val s 2 2 / 256 % 2 == 1, val s 2 2 / 128 % 2 == 1, val s 2 2 / 16 % 8, val s 2 2 / 1 % 16⟩
/-- The counts that stand in s. -/
def cnt (s : ByteArray) (i : Nat) : Nat := (val s (4 + 2 * i) 2).toNat
/-- One part, if there are not too many. -/
def part {α : Type} (f : Nat → Option (α × Nat)) (k p : Nat) : Option (List α × Nat) := if k ≤ 64 then getAll f p k else none
/-- The four parts, and the place behind them. -/
def parts (s : ByteArray) : Option ((List Qn × List Rc × List Rc × List Rc) × Nat) :=
  match part (getQ s) (cnt s 0) 12 with
  | none => none
  | some (qs, a) => match part (getR s) (cnt s 1) a with
    | none => none
    | some (an, b) => match part (getR s) (cnt s 2) b with
      | none => none
      | some (ns, c) => match part (getR s) (cnt s 3) c with
        | none => none
        | some (ar, d) => some ((qs, an, ns, ar), d)
def getM (s : ByteArray) : Option Ms :=
  if 12 ≤ s.size then match parts s with
    | none => none
    | some ((qs, an, ns, ar), d) => if d = s.size then some ⟨hdOf s, qs, an, ns, ar⟩ else none
  else none

theorem arr_list (s : ByteArray) : (⟨s.data.toList.toArray⟩ : ByteArray) = s := by cases s; simp
theorem list_arr (l : List UInt8) : (⟨l.toArray⟩ : ByteArray).data.toList = l := by simp

end Go.Proofs.Ytbffnicfibfceaa
