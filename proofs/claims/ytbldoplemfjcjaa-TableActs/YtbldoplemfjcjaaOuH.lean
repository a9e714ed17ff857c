/- What is due of a row, and what is not: split. -/
import Derived.Test.YtbldoplemfjcjaaOuG
namespace Go.Proofs.Ytbldoplemfjcjaa
open Go.RowKit
open Pl
namespace Ou

theorem take_filter {α : Type} (p : α → Bool) (l : List α) (j : Nat) (h : j < l.length) : (l.take (j + 1)).filter p = (l.take j).filter p ++ (if p l[j] then [l[j]] else []) := by
  rw [List.take_succ_eq_append_getElem h, List.filter_append, List.filter_cons]
  rfl
theorem tF_single (t : Tn) : tF [t] = tnC t := by simp [tF]
/-- How far a row is split. -/
structure SP (w0 w : World) (v : Value) (n : Nat) (xs : List Tn) (d r : Value) (A B : List Tn) (ma mb : Nat) : Prop where
  src : Row w v n (tF xs)
  a : w.ownsRow w0.heap.size 73 9 d ma (tF A)
  b : w.ownsRow w0.heap.size 73 9 r mb (tF B)
  apart : d.ownBlock = none ∨ d.ownBlock ≠ r.ownBlock
  bel : Below w0.heap.size w0 w
theorem SP.below {w0 w w' : World} {v : Value} {n : Nat} {xs : List Tn} {d r : Value} {A B : List Tn} {ma mb : Nat} (h : SP w0 w v n xs d r A B ma mb) (hb : Below w.heap.size w w') : SP w0 w' v n xs d r A B ma mb :=
  ⟨h.src.below hb, own_past h.a hb, own_past h.b hb, h.apart, next h.bel hb⟩
theorem SP.app_a {w0 w w' : World} {v : Value} {n : Nat} {xs : List Tn} {d r d' : Value} {A B : List Tn} {ma mb : Nat} (h : SP w0 w v n xs d r A B ma mb) (hs : Row w' v n (tF xs)) (t : Tn) (ho : w'.ownsRow w0.heap.size 73 9 d' (ma + 1) (tF A ++ tnC t)) (hg : w.grownBy w' d.ownBlock) (hk : ∀ k, d'.ownBlock = some k → d.ownBlock = some k ∨ w.heap.size ≤ k) : SP w0 w' v n xs d' r (A ++ [t]) B (ma + 1) mb := by
  have hap : ∀ k, r.ownBlock = some k → d.ownBlock ≠ some k := fun k hk e => by
    rcases h.apart with h1 | h1
    · rw [h1] at e; cases e
    · exact h1 (e.trans hk.symm)
  refine ⟨hs, by rw [tF_app, tF_single]; exact ho, ?_, ?_, h.bel.grown hg h.bel.size (fun k e => (h.a.lt k e).1)⟩
  · exact (Turn.of_grown (S := fun k => d.ownBlock = some k) hg (fun k e => e)).row h.b hap
  · cases e : d'.ownBlock with
    | none => exact .inl rfl
    | some k =>
      refine .inr (fun e2 => ?_)
      rcases hk k e with e3 | e3
      · exact hap k e2.symm e3
      · have := (h.b.lt k e2.symm).2; omega
theorem SP.app_b {w0 w w' : World} {v : Value} {n : Nat} {xs : List Tn} {d r r' : Value} {A B : List Tn} {ma mb : Nat} (h : SP w0 w v n xs d r A B ma mb) (hs : Row w' v n (tF xs)) (t : Tn) (ho : w'.ownsRow w0.heap.size 73 9 r' (mb + 1) (tF B ++ tnC t)) (hg : w.grownBy w' r.ownBlock) (hk : ∀ k, r'.ownBlock = some k → r.ownBlock = some k ∨ w.heap.size ≤ k) : SP w0 w' v n xs d r' A (B ++ [t]) ma (mb + 1) := by
  have hap : ∀ k, d.ownBlock = some k → r.ownBlock ≠ some k := fun k hk e => by
    rcases h.apart with h1 | h1
    · rw [h1] at hk; cases hk
    · exact h1 (hk.trans e.symm)
  refine ⟨hs, ?_, by rw [tF_app, tF_single]; exact ho, ?_, h.bel.grown hg h.bel.size (fun k e => (h.b.lt k e).1)⟩
  · exact (Turn.of_grown (S := fun k => r.ownBlock = some k) hg (fun k e => e)).row h.a hap
  · cases e : d.ownBlock with
    | none => exact .inl rfl
    | some k =>
      refine .inr (fun e2 => ?_)
      rcases hk k e2.symm with e3 | e3
      · exact hap k e e3
      · have := (h.a.lt k e).2; omega
/-- What lies ahead of the call's own blocks lies as it lay. -/
theorem src_grown {w0 w w' : World} {v : Value} {n : Nat} {xs : List Tn} {d r : Value} {A B : List Tn} {ma mb : Nat} (h : SP w0 w v n xs d r A B ma mb) (hold : Row w0 v n (tF xs)) {o : Option Nat} (hg : w.grownBy w' o) (ho : ∀ k, o = some k → w0.heap.size ≤ k) : Row w' v n (tF xs) := by
  refine hold.below (h.bel.grown hg h.bel.size ho)

set_option maxRecDepth 20000 in
set_option maxHeartbeats 2000000 in
theorem split_any (v : Value) (xs : List Tn) (n : Nat) (now : Int) (w : World) (hN : n = xs.length) (h : Row w v n (tF xs)) (hn : n ≤ 1000) :
    Calls Try.prog 32 #[v, .int .i64 now] w fun e w' => ∃ d r, e = .returned (.tuple #[d, r]) ∧ w'.ownsRow w.heap.size 73 9 d (xs.filter (dueB now)).length (tF (xs.filter (dueB now))) ∧ w'.ownsRow w.heap.size 73 9 r (xs.filter fun t => !dueB now t).length (tF (xs.filter fun t => !dueB now t)) ∧ Below w.heap.size w w' := by
  obtain ⟨i0, hi, hz0, hz1, hz2⟩ := info_parts infoT
  obtain ⟨y, c, rfl⟩ := row_slice h
  have HN : Hid (n = xs.length) := hN
  have HR : Hid (Row w (.slice y n c) n (tF xs)) := h
  have HS0 : Hid (SP w w (.slice y n c) n xs (.slice none 0 0) (.slice none 0 0) [] [] 0 0) := ⟨h, World.ownsRow_nil _ _ _ _, World.ownsRow_nil _ _ _ _, .inl rfl, Below.refl _ _⟩
  clear hN h
  go_enter Try.func32, Try.ntmps32
  go_wp2
  go_loopw [4, 5, 10] (fun d r i wr => ∃ (j ma mb : Nat) (y1 y2 : Option Addr) (c1 c2 : Nat), j ≤ n ∧ ma ≤ j ∧ mb ≤ j ∧ d = .slice y1 ma c1 ∧ r = .slice y2 mb c2 ∧ i = .int .i64 (j : Int) ∧ Hid (SP w wr (.slice y n c) n xs (.slice y1 ma c1) (.slice y2 mb c2) ((xs.take j).filter (dueB now)) ((xs.take j).filter fun t => !dueB now t) ma mb ∧ ((xs.take j).filter (dueB now)).length = ma ∧ ((xs.take j).filter fun t => !dueB now t).length = mb)) (fun _ _ i _ => n - (intOf i).toNat)
  case atStart => exact ⟨0, 0, 0, none, none, 0, 0, Nat.zero_le _, Nat.le_refl _, Nat.le_refl _, rfl, rfl, rfl, HS0.out, rfl, rfl⟩
  case round =>
    obtain ⟨j, ma, mb, y1, y2, c1, c2, hj, hma, hmb, rfl, rfl, rfl, HS⟩ := hrel
    clear HS0
    by_cases hjn : j < n
    · have hjn' : (j : Int) < (n : Int) := by omega
      have hju : j < xs.length := by have := HN.out; omega
      obtain ⟨g, o, cap, hx, hc⟩ := row_at HS.out.1.src (by omega)
      simp only [Value.slice.injEq] at hx
      obtain ⟨rfl, -, rfl⟩ := hx
      obtain ⟨⟨tp, ⟨tj, ti, ta, tc, tg, tn, tt, tu⟩⟩, hp⟩ : ∃ p, p = xs[j] := ⟨_, rfl⟩
      have hfl := fun i hi => tF_map xs j hju i hi
      rw [← hp] at hfl
      have d0 := hc (j * 9 + 0) _ (hfl 0 (by omega))
      have d1 := hc (j * 9 + 1) _ (hfl 1 (by omega))
      have d2 := hc (j * 9 + 2) _ (hfl 2 (by omega))
      have d3 := hc (j * 9 + 3) _ (hfl 3 (by omega))
      have d4 := hc (j * 9 + 4) _ (hfl 4 (by omega))
      have d5 := hc (j * 9 + 5) _ (hfl 5 (by omega))
      have d6 := hc (j * 9 + 6) _ (hfl 6 (by omega))
      have d7 := hc (j * 9 + 7) _ (hfl 7 (by omega))
      have d8 := hc (j * 9 + 8) _ (hfl 8 (by omega))
      simp only [Nat.add_zero, ← Nat.add_assoc] at d0 d1 d2 d3 d4 d5 d6 d7 d8
      have HP : Hid ((⟨tp, ⟨tj, ti, ta, tc, tg, tn, tt, tu⟩⟩ : Tn) = xs[j]) := hp
      clear hc hp hfl
      by_cases hdue : tu ≤ now
      · have HF : Hid ((xs.take (j + 1)).filter (dueB now) = ((xs.take j).filter (dueB now)) ++ [(⟨tp, ⟨tj, ti, ta, tc, tg, tn, tt, tu⟩⟩ : Tn)] ∧ ((xs.take (j + 1)).filter fun t => !dueB now t) = ((xs.take j).filter fun t => !dueB now t)) := by
          have hd : dueB now xs[j] = true := by rw [← HP.out]; unfold dueB; simpa using hdue
          have e1 := take_filter (dueB now) xs j hju
          have e2 := take_filter (fun t => !dueB now t) xs j hju
          rw [hd] at e1 e2
          rw [← HP.out] at e1 e2
          simp at e1 e2
          exact ⟨e1, by simpa using e2⟩
        have HS2 : Hid (SP w ((wr.alloc (.cells #[.int .i64 (tp : Int), .int .i64 tj, .int .i64 ti, .int .i64 ta, .string tc, .string tg, .string tn, .int .i64 tt, .int .i64 tu] 73)).alloc (.cells #[.int .i64 (tp : Int), .int .i64 tj, .int .i64 ti, .int .i64 ta, .string tc, .string tg, .string tn, .int .i64 tt, .int .i64 tu] 73)) (.slice (some ⟨g, o, none⟩) n c) n xs (.slice y1 ma c1) (.slice y2 mb c2) ((xs.take j).filter (dueB now)) ((xs.take j).filter fun t => !dueB now t) ma mb ∧ ((xs.take j).filter (dueB now)).length = ma ∧ ((xs.take j).filter fun t => !dueB now t).length = mb) := ⟨HS.out.1.below (lay (lay (Below.refl _ _) _) _), HS.out.2⟩
        have hrow2 := Row.of_blk (Blk.new (wr.alloc (.cells #[.int .i64 (tp : Int), .int .i64 tj, .int .i64 ti, .int .i64 ta, .string tc, .string tg, .string tn, .int .i64 tt, .int .i64 tu] 73)) #[.int .i64 (tp : Int), .int .i64 tj, .int .i64 ti, .int .i64 ta, .string tc, .string tg, .string tn, .int .i64 tt, .int .i64 tu] 73) (xs := tnC (⟨tp, ⟨tj, ti, ta, tc, tg, tn, tt, tu⟩⟩ : Tn)) rfl 1 1
        have hz2' : (wr.alloc (.cells #[.int .i64 (tp : Int), .int .i64 tj, .int .i64 ti, .int .i64 ta, .string tc, .string tg, .string tn, .int .i64 tt, .int .i64 tu] 73)).heap.size = wr.heap.size + 1 := by simp
        rw [hz2'] at hrow2
        have hown := HS2.out.1.a
        have hown2 := HS2.out.1.bel.size
        go_wp2_with (at_builtin; refine wpList_appG _ rfl (.tmp 19) (.tmp 21) 70 73 i0 _ 9 96 Try.underlying70 hi hz0 hz1 hz2 rfl (by decide) rfl w.heap.size _ ma (tF ((xs.take j).filter (dueB now))) rfl hown _ 1 (tnC (⟨tp, ⟨tj, ti, ta, tc, tg, tn, tt, tu⟩⟩ : Tn)) rfl hrow2 rfl (by rw [← tF_single]; exact tF_one _) (by omega) (by unfold maxLen; omega) hown2 ?_; intro v3 w5 h1 h3 h4; obtain ⟨y3, c3, rfl⟩ := row_shape h1; have hsrc := src_grown HS2.out.1 HR.out h3 (fun k e => (hown.lt k e).1); have HS5 := HS2.out.1.app_a hsrc (⟨tp, ⟨tj, ti, ta, tc, tg, tn, tt, tu⟩⟩ : Tn) h1 h3 h4)
        have HS6 : Hid (SP w w5 (.slice (some ⟨g, o, none⟩) n c) n xs (.slice y3 (ma + 1) c3) (.slice y2 mb c2) ((xs.take (j + 1)).filter (dueB now)) ((xs.take (j + 1)).filter fun t => !dueB now t) (ma + 1) mb ∧ ((xs.take (j + 1)).filter (dueB now)).length = ma + 1 ∧ ((xs.take (j + 1)).filter fun t => !dueB now t).length = mb) := by unfold Hid; rw [HF.out.1, HF.out.2]; exact ⟨HS5, by rw [List.length_append, HS.out.2.1]; rfl, HS.out.2.2⟩
        clear hsrc HS5 h1 h3 h4 hown hrow2 HS HS2 hown2
        go_roundw
        case rel => exact ⟨j + 1, ma + 1, mb, y3, y2, c3, c2, by omega, by omega, by omega, rfl, rfl, by go_num, HS6⟩
        case measure => simp [intOf]; omega
      · have hdue2 : decide (tu ≤ now) = false := by simpa using hdue
        have HF : Hid ((xs.take (j + 1)).filter (dueB now) = ((xs.take j).filter (dueB now)) ∧ ((xs.take (j + 1)).filter fun t => !dueB now t) = ((xs.take j).filter fun t => !dueB now t) ++ [(⟨tp, ⟨tj, ti, ta, tc, tg, tn, tt, tu⟩⟩ : Tn)]) := by
          have hd : dueB now xs[j] = false := by rw [← HP.out]; unfold dueB; simpa using hdue
          have e1 := take_filter (dueB now) xs j hju
          have e2 := take_filter (fun t => !dueB now t) xs j hju
          rw [hd] at e1 e2
          rw [← HP.out] at e1 e2
          simp at e1 e2
          exact ⟨by simpa using e1, e2⟩
        have HS2 : Hid (SP w ((wr.alloc (.cells #[.int .i64 (tp : Int), .int .i64 tj, .int .i64 ti, .int .i64 ta, .string tc, .string tg, .string tn, .int .i64 tt, .int .i64 tu] 73)).alloc (.cells #[.int .i64 (tp : Int), .int .i64 tj, .int .i64 ti, .int .i64 ta, .string tc, .string tg, .string tn, .int .i64 tt, .int .i64 tu] 73)) (.slice (some ⟨g, o, none⟩) n c) n xs (.slice y1 ma c1) (.slice y2 mb c2) ((xs.take j).filter (dueB now)) ((xs.take j).filter fun t => !dueB now t) ma mb ∧ ((xs.take j).filter (dueB now)).length = ma ∧ ((xs.take j).filter fun t => !dueB now t).length = mb) := ⟨HS.out.1.below (lay (lay (Below.refl _ _) _) _), HS.out.2⟩
        have hrow2 := Row.of_blk (Blk.new (wr.alloc (.cells #[.int .i64 (tp : Int), .int .i64 tj, .int .i64 ti, .int .i64 ta, .string tc, .string tg, .string tn, .int .i64 tt, .int .i64 tu] 73)) #[.int .i64 (tp : Int), .int .i64 tj, .int .i64 ti, .int .i64 ta, .string tc, .string tg, .string tn, .int .i64 tt, .int .i64 tu] 73) (xs := tnC (⟨tp, ⟨tj, ti, ta, tc, tg, tn, tt, tu⟩⟩ : Tn)) rfl 1 1
        have hz2' : (wr.alloc (.cells #[.int .i64 (tp : Int), .int .i64 tj, .int .i64 ti, .int .i64 ta, .string tc, .string tg, .string tn, .int .i64 tt, .int .i64 tu] 73)).heap.size = wr.heap.size + 1 := by simp
        rw [hz2'] at hrow2
        have hown := HS2.out.1.b
        have hown2 := HS2.out.1.bel.size
        go_wp2_with (at_builtin; refine wpList_appG _ rfl (.tmp 23) (.tmp 25) 70 73 i0 _ 9 96 Try.underlying70 hi hz0 hz1 hz2 rfl (by decide) rfl w.heap.size _ mb (tF ((xs.take j).filter fun t => !dueB now t)) rfl hown _ 1 (tnC (⟨tp, ⟨tj, ti, ta, tc, tg, tn, tt, tu⟩⟩ : Tn)) rfl hrow2 rfl (by rw [← tF_single]; exact tF_one _) (by omega) (by unfold maxLen; omega) hown2 ?_; intro v3 w5 h1 h3 h4; obtain ⟨y3, c3, rfl⟩ := row_shape h1; have hsrc := src_grown HS2.out.1 HR.out h3 (fun k e => (hown.lt k e).1); have HS5 := HS2.out.1.app_b hsrc (⟨tp, ⟨tj, ti, ta, tc, tg, tn, tt, tu⟩⟩ : Tn) h1 h3 h4)
        have HS6 : Hid (SP w w5 (.slice (some ⟨g, o, none⟩) n c) n xs (.slice y1 ma c1) (.slice y3 (mb + 1) c3) ((xs.take (j + 1)).filter (dueB now)) ((xs.take (j + 1)).filter fun t => !dueB now t) ma (mb + 1) ∧ ((xs.take (j + 1)).filter (dueB now)).length = ma ∧ ((xs.take (j + 1)).filter fun t => !dueB now t).length = mb + 1) := by unfold Hid; rw [HF.out.1, HF.out.2]; exact ⟨HS5, HS.out.2.1, by rw [List.length_append, HS.out.2.2]; rfl⟩
        clear hsrc HS5 h1 h3 h4 hown hrow2 HS HS2 hown2
        go_roundw
        case rel => exact ⟨j + 1, ma, mb + 1, y1, y3, c1, c3, by omega, by omega, by omega, rfl, rfl, by go_num, HS6⟩
        case measure => simp [intOf]; omega
    · have hjn' : decide (j < n) = false := by simpa using hjn
      have HE : Hid (SP w wr (.slice y n c) n xs (.slice y1 ma c1) (.slice y2 mb c2) (xs.filter (dueB now)) (xs.filter fun t => !dueB now t) ma mb ∧ (xs.filter (dueB now)).length = ma ∧ (xs.filter fun t => !dueB now t).length = mb) := by
        have e : xs.take j = xs := List.take_of_length_le (by have := HN.out; omega)
        have := HS
        rw [e] at this
        exact this
      clear HS
      go_wp2
      go_ret2
      refine ⟨_, _, rfl, ?_, ?_, HE.out.1.bel⟩
      · have := HE.out.1.a; rw [← HE.out.2.1] at this; rw [HE.out.2.1] at this ⊢; exact this
      · have := HE.out.1.b; rw [HE.out.2.2]; exact this

end Ou
end Go.Proofs.Ytbldoplemfjcjaa
