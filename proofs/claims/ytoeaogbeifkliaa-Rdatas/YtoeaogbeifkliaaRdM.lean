/- What the document's Unsoa gives. -/
import Derived.Test.YtoeaogbeifkliaaRdL
namespace Go.Proofs.Ytoeaogbeifkliaa
open Go.RowKit
open Pl

/-- What Unsoa gives. -/
def unsoaT (s : ByteArray) : Value :=
  match soaL s.data.toList with
  | none => .tuple #[.agg soaZ, .int .i64 400]
  | some (a, b) => .tuple #[.agg (soaV (s.extract 0 a) ((s.extract a s.size).extract 0 b) (val s (a + b) 4) (val s (a + b + 4) 4) (val s (a + b + 8) 4) (val s (a + b + 12) 4) (val s (a + b + 16) 4)), .int .i64 0]
theorem unsoaT_none {s : ByteArray} (h : soaL s.data.toList = none) : unsoaT s = .tuple #[.agg soaZ, .int .i64 400] := by unfold unsoaT; rw [h]
theorem unsoaT_some {s : ByteArray} {a b : Nat} (h : soaL s.data.toList = some (a, b)) : unsoaT s = .tuple #[.agg (soaV (s.extract 0 a) ((s.extract a s.size).extract 0 b) (val s (a + b) 4) (val s (a + b + 4) 4) (val s (a + b + 8) 4) (val s (a + b + 12) 4) (val s (a + b + 16) 4)), .int .i64 0] := by unfold unsoaT; rw [h]

theorem unsoa_any (s : ByteArray) (w : World) (hs : s.size ≤ maxLen) : Calls Try.prog 21 #[.string s] w fun e w' => e = .returned (unsoaT s) ∧ Below w.heap.size w w' := by
  cases h : soaL s.data.toList with
  | none => rw [unsoaT_none h]; exact unsoa_no s w hs h
  | some ab =>
    obtain ⟨a, b⟩ := ab
    rw [unsoaT_some h]
    exact unsoa_yes s a b (a + b) w hs h rfl

theorem mid_ext (s : ByteArray) (a b : Nat) (_h : a + b ≤ s.size) : s.extract a (a + b) = (s.extract a s.size).extract 0 b := by
  apply ByteArray.ext; apply Array.toList_inj.1
  rw [ext_to, ext_from, ext_list, show a + b - a = b from by omega]

theorem num_at4 (s : ByteArray) (k : Nat) (x : Int) (hs : s.size ≤ maxLen) (hx : x = (k : Int)) (h : k + 4 ≤ s.size) (u : World) :
    Calls Try.prog 34 #[.string s, .int .i64 x, .int .i64 4] u fun e w' => e = .returned (.tuple #[.int .i64 (val s k 4), .int .i64 (x + 4), .int .i64 0]) ∧ w' = u := by
  subst hx
  exact refNum_yes s k 4 u hs (by decide) h

set_option maxRecDepth 20000 in
set_option maxHeartbeats 4000000 in
theorem refUnsoa_any (s : ByteArray) (w : World) (hs : s.size ≤ maxLen) : Calls Try.prog 22 #[.string s] w fun e w' => e = .returned (unsoaT s) ∧ Below w.heap.size w w' := by
  have hb : Below w.heap.size w w := Below.refl _ _
  cases h : soaL s.data.toList with
  | none =>
    rw [unsoaT_none h]
    have hm : mayD 6 s.data.toList = false := by rw [may_6, h]; rfl
    go_enter Try.func22, Try.ntmps22
    go_wp2_with (go_at_call 18; go_must (refine (dataMay_as 6 s false _ hs hm).mono ?_); rintro e w1 ⟨rfl, b1⟩; have z4 := (Blk.new w soaZ 23).below b1; replace hb := next (lay hb _) b1; obtain ⟨f0, f1, f2, f3, f4, f5, f6⟩ := Blk.seven z4; obtain ⟨e0, e1, e2, e3, e4, e5, e6⟩ := Blk.open7 z4; clear b1)
    have q := ((((((z4.set 0 (.string ⟨#[]⟩)).set 1 (.string ⟨#[]⟩)).set 2 (.int .i64 0)).set 3 (.int .i64 0)).set 4 (.int .i64 0)).set 5 (.int .i64 0)).set 6 (.int .i64 0)
    have hgb := Nat.le_refl w.heap.size
    have qb := ((((((hb.setCell (p := ⟨w.heap.size, 0, none⟩) hgb (.string ⟨#[]⟩)).setCell (p := ⟨w.heap.size, 1, none⟩) hgb (.string ⟨#[]⟩)).setCell (p := ⟨w.heap.size, 2, none⟩) hgb (.int .i64 0)).setCell (p := ⟨w.heap.size, 3, none⟩) hgb (.int .i64 0)).setCell (p := ⟨w.heap.size, 4, none⟩) hgb (.int .i64 0)).setCell (p := ⟨w.heap.size, 5, none⟩) hgb (.int .i64 0)).setCell (p := ⟨w.heap.size, 6, none⟩) hgb (.int .i64 0)
    obtain ⟨q0, q1, q2, q3, q4, q5, q6⟩ := Blk.seven (h := ⟨#[]⟩) (m := ⟨#[]⟩) (a := 0) (b := 0) (c := 0) (d := 0) (e := 0) q
    refine bodyPost_ret (v := .tuple #[.agg soaZ, .int .i64 400]) (by simp [results, Try.results22, go_sem, q0, q1, q2, q3, q4, q5, q6, soaV, soaZ]) rfl ⟨rfl, qb⟩
  | some ab =>
    obtain ⟨a, b⟩ := ab
    rw [unsoaT_some h]
    have hm : mayD 6 s.data.toList = true := by rw [may_6, h]; rfl
    obtain ⟨h1, h2, h3⟩ := soa_some h
    have ca := cut_some h1
    have cb := cut_some h2
    rw [data_len] at h3 ca
    rw [List.length_drop, data_len] at cb
    have k0 := fun u => whole_any s 0 u (by omega) (Nat.zero_le _)
    have k1 := fun u => whole_any s a u (by omega) ca.2.1
    rw [show wholeI s.data.toList 0 = (a : Int) from by rw [whole_some (k := 0) (e := a) (by rw [List.drop_zero]; exact h1)]; omega] at k0
    rw [whole_some h2] at k1
    have hc1 := cut_to s a (a : Int) rfl ca.2.1
    have hc2 : ∀ u : World, (Instr.slice 9 (.string s) (some (.int .i64 (a : Int))) (some (.int .i64 ((a : Int) + (b : Int)))) none).run Try.prog u = .ok (.string ((s.extract a s.size).extract 0 b)) u := fun u => by
      have := run_slice_string (P := Try.prog) u 9 s .i64 .i64 (a : Int) ((a : Int) + (b : Int)) Try.underlying9 (by omega) (by omega) (by omega)
      rw [this, show ((a : Int) + (b : Int)).toNat = a + b from by omega, ← mid_ext s a b (by omega)]; rfl
    have n0 := num_at4 s (a + b) ((a : Int) + (b : Int)) hs (by omega) (by omega)
    have n1 := num_at4 s (a + b + 4) ((a : Int) + (b : Int) + 4) hs (by omega) (by omega)
    have n2 := num_at4 s (a + b + 8) ((a : Int) + (b : Int) + 8) hs (by omega) (by omega)
    have n3 := num_at4 s (a + b + 12) ((a : Int) + (b : Int) + 12) hs (by omega) (by omega)
    have n4 := num_at4 s (a + b + 16) ((a : Int) + (b : Int) + 16) hs (by omega) (by omega)
    have hsz : a + b + 20 ≤ 1000 := by omega
    obtain ⟨H, hH⟩ : ∃ H, H = s.extract 0 a := ⟨_, rfl⟩
    obtain ⟨M, hM⟩ : ∃ M, M = (s.extract a s.size).extract 0 b := ⟨_, rfl⟩
    rw [← hH] at hc1 ⊢
    rw [← hM] at hc2 ⊢
    obtain ⟨v0, e0⟩ : ∃ v, v = val s (a + b) 4 := ⟨_, rfl⟩
    obtain ⟨v1, e1⟩ : ∃ v, v = val s (a + b + 4) 4 := ⟨_, rfl⟩
    obtain ⟨v2, e2⟩ : ∃ v, v = val s (a + b + 8) 4 := ⟨_, rfl⟩
    obtain ⟨v3, e3⟩ : ∃ v, v = val s (a + b + 12) 4 := ⟨_, rfl⟩
    obtain ⟨v4, e4⟩ : ∃ v, v = val s (a + b + 16) 4 := ⟨_, rfl⟩
    rw [← e0] at n0 ⊢
    rw [← e1] at n1 ⊢
    rw [← e2] at n2 ⊢
    rw [← e3] at n3 ⊢
    rw [← e4] at n4 ⊢
    clear hH hM e0 e1 e2 e3 e4 h h1 h2 h3 ca cb
    have t0 : True := trivial
    have t1 : True := trivial
    have t2 : True := trivial
    have t3 : True := trivial
    have t4 : True := trivial
    go_enter Try.func22, Try.ntmps22
    go_wp2_with (first
      | (go_at_call 18; go_must (refine (dataMay_as 6 s true _ hs hm).mono ?_); rintro e w1 ⟨rfl, b1⟩; have kb := (Blk.new w soaZ 23).below b1; replace hb := next (lay hb _) b1; clear b1)
      | (go_at_call_of 40 (#[Value.string s, Value.int IntKind.i64 0]); go_must (refine (k0 _).mono ?_); rintro e w2 ⟨rfl, b1⟩; replace kb := kb.below b1; replace hb := next hb b1; clear b1)
      | (go_at_call 40; go_must (refine (k1 _).mono ?_); rintro e w3 ⟨rfl, b1⟩; replace kb := kb.below b1; replace hb := next hb b1; clear b1))
    have klt := kb.lt
    obtain ⟨f0, f1, f2, f3, f4, f5, f6⟩ := Blk.seven kb
    obtain ⟨e0, e1, e2, e3, e4, e5, e6⟩ := Blk.open7 kb
    go_region_held3 (fun _ => True) (trivial) (fail)
    go_wp2_with (first
      | (go_at_call 34; have _t := t0; go_must (refine (n0 _).mono ?_); rintro e w' ⟨rfl, hw⟩; obtain rfl := hw.symm; clear t0 _t)
      | (go_at_call 34; have _t := t1; go_must (refine (n1 _).mono ?_); rintro e w' ⟨rfl, hw⟩; obtain rfl := hw.symm; clear t1 _t)
      | (go_at_call 34; have _t := t2; go_must (refine (n2 _).mono ?_); rintro e w' ⟨rfl, hw⟩; obtain rfl := hw.symm; clear t2 _t)
      | (go_at_call 34; have _t := t3; go_must (refine (n3 _).mono ?_); rintro e w' ⟨rfl, hw⟩; obtain rfl := hw.symm; clear t3 _t)
      | (go_at_call 34; have _t := t4; go_must (refine (n4 _).mono ?_); rintro e w' ⟨rfl, hw⟩; obtain rfl := hw.symm; clear t4 _t))
    have q : Blk (((((((((w3.setCell ⟨w.heap.size, 0, none⟩ (.string H)).setCell ⟨w.heap.size, 1, none⟩ (.string M)).setCell ⟨w.heap.size, 2, none⟩ (.int .i64 v0)).setCell ⟨w.heap.size, 3, none⟩ (.int .i64 v1)).setCell ⟨w.heap.size, 4, none⟩ (.int .i64 v2)).setCell ⟨w.heap.size, 5, none⟩ (.int .i64 v3)).setCell ⟨w.heap.size, 6, none⟩ (.int .i64 v4)).alloc (.cells #[.string H, .string M, .int .i64 v0, .int .i64 v1, .int .i64 v2, .int .i64 v3, .int .i64 v4] 23)).drew) w.heap.size (soaV H M v0 v1 v2 v3 v4) 23 := ((((((((kb.set 0 (.string H)).set 1 (.string M)).set 2 (.int .i64 v0)).set 3 (.int .i64 v1)).set 4 (.int .i64 v2)).set 5 (.int .i64 v3)).set 6 (.int .i64 v4)).alloc _).drew ⟨1, rfl⟩
    have qb : Below w.heap.size w (((((((((w3.setCell ⟨w.heap.size, 0, none⟩ (.string H)).setCell ⟨w.heap.size, 1, none⟩ (.string M)).setCell ⟨w.heap.size, 2, none⟩ (.int .i64 v0)).setCell ⟨w.heap.size, 3, none⟩ (.int .i64 v1)).setCell ⟨w.heap.size, 4, none⟩ (.int .i64 v2)).setCell ⟨w.heap.size, 5, none⟩ (.int .i64 v3)).setCell ⟨w.heap.size, 6, none⟩ (.int .i64 v4)).alloc (.cells #[.string H, .string M, .int .i64 v0, .int .i64 v1, .int .i64 v2, .int .i64 v3, .int .i64 v4] 23)).drew) := next (lay (((((((hb.setCell (p := ⟨w.heap.size, 0, none⟩) (Nat.le_refl w.heap.size) (.string H)).setCell (p := ⟨w.heap.size, 1, none⟩) (Nat.le_refl w.heap.size) (.string M)).setCell (p := ⟨w.heap.size, 2, none⟩) (Nat.le_refl w.heap.size) (.int .i64 v0)).setCell (p := ⟨w.heap.size, 3, none⟩) (Nat.le_refl w.heap.size) (.int .i64 v1)).setCell (p := ⟨w.heap.size, 4, none⟩) (Nat.le_refl w.heap.size) (.int .i64 v2)).setCell (p := ⟨w.heap.size, 5, none⟩) (Nat.le_refl w.heap.size) (.int .i64 v3)).setCell (p := ⟨w.heap.size, 6, none⟩) (Nat.le_refl w.heap.size) (.int .i64 v4)) _) (below_drew ⟨1, rfl⟩)
    revert q qb
    generalize ((((((((w3.setCell ⟨w.heap.size, 0, none⟩ (.string H)).setCell ⟨w.heap.size, 1, none⟩ (.string M)).setCell ⟨w.heap.size, 2, none⟩ (.int .i64 v0)).setCell ⟨w.heap.size, 3, none⟩ (.int .i64 v1)).setCell ⟨w.heap.size, 4, none⟩ (.int .i64 v2)).setCell ⟨w.heap.size, 5, none⟩ (.int .i64 v3)).setCell ⟨w.heap.size, 6, none⟩ (.int .i64 v4)).alloc (.cells #[.string H, .string M, .int .i64 v0, .int .i64 v1, .int .i64 v2, .int .i64 v3, .int .i64 v4] 23)).drew = W
    intro q qb
    obtain ⟨q0, q1, q2, q3, q4, q5, q6⟩ := Blk.seven q
    refine bodyPost_ret (v := .tuple #[.agg (soaV H M v0 v1 v2 v3 v4), .int .i64 0]) (by simp [results, Try.results22, go_sem, q0, q1, q2, q3, q4, q5, q6, soaV]) rfl ⟨rfl, qb⟩

end Go.Proofs.Ytoeaogbeifkliaa
