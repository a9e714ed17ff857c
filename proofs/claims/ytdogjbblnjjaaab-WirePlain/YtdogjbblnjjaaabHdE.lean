/- What Get of package head gives, for every argument: its parts. -/
import Derived.Test.YtdogjbblnjjaaabHdD
namespace Go.Proofs.Ytdogjbblnjjaaab
open Go.RowKit

/-- Between two worlds one block is written; all else that lay there lies as it lay. -/
def Moves (w w' : World) (ga : Nat) : Prop := (∀ b B t, b ≠ ga → Blk w b B t → Blk w' b B t) ∧ (∀ w0 : World, w0.heap.size ≤ ga → Below w0.heap.size w0 w → Below w0.heap.size w0 w')

theorem next_any (s : ByteArray) (k gs ga : Nat) (w : World) (hs : s.size ≤ maxLen) (ks : Blk w gs #[.string s] 9) (ka : Blk w ga #[.int .i64 (k : Int)] 3) (h : k + 2 ≤ s.size) :
    Calls Try.prog 27 #[.pointer (some ⟨gs, 0, none⟩), .pointer (some ⟨ga, 0, none⟩)] w fun e w' => e = .returned (.int .i64 (val s k 2)) ∧ Blk w' ga #[.int .i64 ((k + 2 : Nat) : Int)] 3 ∧ Moves w w' ga := by
  have c0 : w.cell? ⟨gs, 0, none⟩ = some (.string s) := ks.cell 0
  have c1 : w.cell? ⟨ga, 0, none⟩ = some (.int .i64 (k : Int)) := ka.cell 0
  have hu := u16_yes s k w hs h
  rw [← val_two s k h] at hu
  obtain ⟨v, hv⟩ : ∃ v, v = val s k 2 := ⟨_, rfl⟩
  rw [← hv] at hu ⊢
  clear hv
  go_enter Try.func27, Try.ntmps27
  go_wp2_with (go_at_call 28; go_must (refine hu.mono ?_); rintro e w1 ⟨rfl, b1⟩; have k1 := ka.drew b1; have c2 : w1.cell? ⟨ga, 0, none⟩ = some (.int .i64 (k : Int)) := k1.cell 0; have f2 := k1.frozen 0)
  go_ret
  refine ⟨rfl, ?_, fun b B t hb kb => (kb.drew b1).other hb 0 _, fun w0 h0 hw => (next hw (below_drew b1)).setCell h0 _⟩
  have := k1.set 0 (.int .i64 ((k : Int) + 2))
  exact this

/-- The counts of a message so far. -/
def cntC (s : ByteArray) : Nat → Array Value
  | 0 => cntV 0 0 0 0
  | 1 => cntV (val s 4 2) 0 0 0
  | 2 => cntV (val s 4 2) (val s 6 2) 0 0
  | 3 => cntV (val s 4 2) (val s 6 2) (val s 8 2) 0
  | _ => cntV (val s 4 2) (val s 6 2) (val s 8 2) (val s 10 2)
theorem cnt_set (s : ByteArray) (k : Nat) (h : k < 4) : (cntC s k).setIfInBounds k (.int .i64 (val s (4 + 2 * k) 2)) = cntC s (k + 1) := by
  have : k = 0 ∨ k = 1 ∨ k = 2 ∨ k = 3 := by omega
  rcases this with rfl | rfl | rfl | rfl <;> rfl
theorem cnt_at (s : ByteArray) (k : Nat) (h : k < 4) : (cntC s k)[k]? = some (.int .i64 0) := by
  have : k = 0 ∨ k = 1 ∨ k = 2 ∨ k = 3 := by omega
  rcases this with rfl | rfl | rfl | rfl <;> rfl

set_option maxRecDepth 20000 in
set_option maxHeartbeats 4000000 in
theorem get_no (s : ByteArray) (w : World) (_hs : s.size ≤ maxLen) (h : s.size < 12) :
    Calls Try.prog 11 #[.string s] w fun e w' => e = .returned (.tuple #[.agg headZ, .agg (cntV 0 0 0 0), .int .i64 600]) ∧ Below w.heap.size w w' := by
  have h' : (s.size : Int) < 12 := by omega
  go_enter Try.func11, Try.ntmps11
  go_wp2
  go_region
  go_wp2
  refine bodyPost_ret (v := .tuple #[.agg headZ, .agg (cntV 0 0 0 0), .int .i64 600]) (by simp [results, Try.results11, go_sem, headZ, headV, cntV]) rfl ⟨rfl, next (lay (lay (lay (lay (Below.refl _ _) _) _) _) _) (below_drew ⟨1, rfl⟩)⟩

/-- What Get holds while it goes on: its argument, its two results' places, the counts so far, the place in s. -/
structure GAt (w0 w : World) (gs gr gq gc ga : Nat) (s : ByteArray) (C : Array Value) (k : Nat) : Prop where
  str : Blk w gs #[.string s] 9
  res : Blk w gr headZ 29
  out : Blk w gq (cntV 0 0 0 0) 47
  cnt : Blk w gc C 47
  pos : Blk w ga #[.int .i64 (k : Int)] 3
  below : Below w0.heap.size w0 w
  ne : (gs ≠ ga ∧ gr ≠ ga ∧ gq ≠ ga ∧ gc ≠ ga) ∧ (gs ≠ gc ∧ gr ≠ gc ∧ gq ≠ gc ∧ ga ≠ gc)
  new : w0.heap.size ≤ gr ∧ w0.heap.size ≤ gq ∧ w0.heap.size ≤ gc ∧ w0.heap.size ≤ ga

theorem GAt.next {w0 w w' : World} {gs gr gq gc ga : Nat} {s : ByteArray} {C : Array Value} {k m : Nat} (j : GAt w0 w gs gr gq gc ga s C k) (ha : Blk w' ga #[.int .i64 (m : Int)] 3) (hm : Moves w w' ga) : GAt w0 w' gs gr gq gc ga s C m :=
  ⟨hm.1 _ _ _ j.ne.1.1 j.str, hm.1 _ _ _ j.ne.1.2.1 j.res, hm.1 _ _ _ j.ne.1.2.2.1 j.out, hm.1 _ _ _ j.ne.1.2.2.2 j.cnt, ha, hm.2 _ j.new.2.2.2 j.below, j.ne, j.new⟩
theorem GAt.past {w0 w w' : World} {gs gr gq gc ga : Nat} {s : ByteArray} {C : Array Value} {k : Nat} (j : GAt w0 w gs gr gq gc ga s C k) (hb : Below w.heap.size w w') : GAt w0 w' gs gr gq gc ga s C k :=
  ⟨j.str.below hb, j.res.below hb, j.out.below hb, j.cnt.below hb, j.pos.below hb, Go.Proofs.Ytdogjbblnjjaaab.next j.below hb, j.ne, j.new⟩
theorem GAt.put {w0 w : World} {gs gr gq gc ga : Nat} {s : ByteArray} {C : Array Value} {k : Nat} (j : GAt w0 w gs gr gq gc ga s C k) (i : Nat) (v : Value) (C' : Array Value) (hC : C.setIfInBounds i v = C') : GAt w0 (w.setCell ⟨gc, i, none⟩ v) gs gr gq gc ga s C' k :=
  ⟨j.str.other j.ne.2.1 i v, j.res.other j.ne.2.2.1 i v, j.out.other j.ne.2.2.2.1 i v, hC ▸ j.cnt.set i v, j.pos.other j.ne.2.2.2.2 i v, j.below.setCell j.new.2.2.1 v, j.ne, j.new⟩

theorem gNext {w0 w : World} {gs gr gq gc ga : Nat} {s : ByteArray} {C : Array Value} {k : Nat} (j : GAt w0 w gs gr gq gc ga s C k) (v : Int) (m : Nat) (hs : s.size ≤ maxLen) (h : k + 2 ≤ s.size) (hv : val s k 2 = v) (hm : k + 2 = m) :
    Calls Try.prog 27 #[.pointer (some ⟨gs, 0, none⟩), .pointer (some ⟨ga, 0, none⟩)] w fun e w' => e = .returned (.int .i64 v) ∧ GAt w0 w' gs gr gq gc ga s C m ∧ Moves w w' ga := by
  subst hv
  subst hm
  exact (next_any s k gs ga w hs j.str j.pos h).mono fun e w' ⟨he, ha, hm⟩ => ⟨he, j.next ha hm, hm⟩

/-- The four cells of counts. -/
theorem Blk.four {w : World} {g : Nat} {a b c d : Int} {t : TypeId} (k : Blk w g (cntV a b c d) t) :
    w.cell? ⟨g, 0, none⟩ = some (.int .i64 a) ∧ w.cell? ⟨g, 1, none⟩ = some (.int .i64 b) ∧ w.cell? ⟨g, 2, none⟩ = some (.int .i64 c) ∧ w.cell? ⟨g, 3, none⟩ = some (.int .i64 d) :=
  ⟨k.cell 0, k.cell 1, k.cell 2, k.cell 3⟩
theorem Blk.open4 {w : World} {g : Nat} {C : Array Value} {t : TypeId} (k : Blk w g C t) :
    w.frozen? ⟨g, 0, none⟩ = false ∧ w.frozen? ⟨g, 1, none⟩ = false ∧ w.frozen? ⟨g, 2, none⟩ = false ∧ w.frozen? ⟨g, 3, none⟩ = false :=
  ⟨k.frozen 0, k.frozen 1, k.frozen 2, k.frozen 3⟩
/-- Counts stored cell by cell. -/
theorem Blk.put4 {w : World} {g : Nat} {a' b' c' d' : Int} {t : TypeId} (k : Blk w g (cntV a' b' c' d') t) (a b c d : Int) :
    Blk ((((w.setCell ⟨g, 0, none⟩ (.int .i64 a)).setCell ⟨g, 1, none⟩ (.int .i64 b)).setCell ⟨g, 2, none⟩ (.int .i64 c)).setCell ⟨g, 3, none⟩ (.int .i64 d)) g (cntV a b c d) t := by
  have q0 : Blk (w.setCell ⟨g, 0, none⟩ (.int .i64 a)) g (cntV a b' c' d') t := k.set 0 _
  have q1 : Blk ((w.setCell ⟨g, 0, none⟩ (.int .i64 a)).setCell ⟨g, 1, none⟩ (.int .i64 b)) g (cntV a b c' d') t := q0.set 1 _
  have q2 : Blk (((w.setCell ⟨g, 0, none⟩ (.int .i64 a)).setCell ⟨g, 1, none⟩ (.int .i64 b)).setCell ⟨g, 2, none⟩ (.int .i64 c)) g (cntV a b c d') t := q1.set 2 _
  have q3 : Blk ((((w.setCell ⟨g, 0, none⟩ (.int .i64 a)).setCell ⟨g, 1, none⟩ (.int .i64 b)).setCell ⟨g, 2, none⟩ (.int .i64 c)).setCell ⟨g, 3, none⟩ (.int .i64 d)) g (cntV a b c d) t := q2.set 3 _
  exact q3
theorem put4_other {w : World} {g b0 : Nat} {C : Array Value} {t : TypeId} (k : Blk w b0 C t) (h : b0 ≠ g) (a b c d : Int) :
    Blk ((((w.setCell ⟨g, 0, none⟩ (.int .i64 a)).setCell ⟨g, 1, none⟩ (.int .i64 b)).setCell ⟨g, 2, none⟩ (.int .i64 c)).setCell ⟨g, 3, none⟩ (.int .i64 d)) b0 C t :=
  (((k.other h 0 _).other h 1 _).other h 2 _).other h 3 _
theorem put4_below {w0 w : World} {g : Nat} (k : Below w0.heap.size w0 w) (h : w0.heap.size ≤ g) (a b c d : Int) :
    Below w0.heap.size w0 ((((w.setCell ⟨g, 0, none⟩ (.int .i64 a)).setCell ⟨g, 1, none⟩ (.int .i64 b)).setCell ⟨g, 2, none⟩ (.int .i64 c)).setCell ⟨g, 3, none⟩ (.int .i64 d)) :=
  (((k.setCell (p := ⟨g, 0, none⟩) h _).setCell (p := ⟨g, 1, none⟩) h _).setCell (p := ⟨g, 2, none⟩) h _).setCell (p := ⟨g, 3, none⟩) h _

end Go.Proofs.Ytdogjbblnjjaaab
