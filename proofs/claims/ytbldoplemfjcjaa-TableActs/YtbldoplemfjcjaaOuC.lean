/- The small functions of a Table: isWrong, questionOf, keyOf, copyOf. -/
import Derived.Test.YtbldoplemfjcjaaOuB
namespace Go.Proofs.Ytbldoplemfjcjaa
open Go.RowKit
open Pl
namespace Ou

set_option maxRecDepth 20000 in
set_option maxHeartbeats 1000000 in
theorem isWrong_any (j i a : Int) (c g n : ByteArray) (t u : Int) (w : World) (hn : n.size ≤ maxLen) (b : Bool) (hb : wrongA ⟨j, i, a, c, g, n, t, u⟩ = b) :
    Calls Try.prog 23 #[.agg #[.int .i64 j, .int .i64 i, .int .i64 a, .string c, .string g, .string n, .int .i64 t, .int .i64 u]] w fun e w' => e = .returned (.bool b) ∧ Below w.heap.size w w' := by
  have HB : Hid ((decide (i < 0) || decide (65535 < i) || decide (a < 0) || decide (4294967295 < a) || !isName n.data.toList || decide (t < 1) || decide (65535 < t)) = b) := hb
  have HL : Hid (Below w.heap.size w (w.alloc (.cells #[.int .i64 j, .int .i64 i, .int .i64 a, .string c, .string g, .string n, .int .i64 t, .int .i64 u] 35))) := lay (Below.refl _ _) _
  clear hb
  by_cases c0 : i < 0
  · have hb0 : b = true := by have := HB.out; rw [show decide (i < 0) = true from by simpa using c0] at this; rw [← this]; simp
    have d0 : decide (i < 0) = true := by simpa using c0
    subst hb0
    go_enter Try.func23, Try.ntmps23
    go_wp2
    go_ret
    exact ⟨rfl, HL.out⟩
  · have d0 : decide (i < 0) = false := by simpa using c0
    by_cases c1 : 65535 < i
    · have hb0 : b = true := by have := HB.out; rw [show decide (65535 < i) = true from by simpa using c1] at this; rw [← this]; simp
      have d1 : decide (65535 < i) = true := by simpa using c1
      subst hb0
      go_enter Try.func23, Try.ntmps23
      go_wp2
      go_ret
      exact ⟨rfl, HL.out⟩
    · have d1 : decide (65535 < i) = false := by simpa using c1
      by_cases c2 : a < 0
      · have hb0 : b = true := by have := HB.out; rw [show decide (a < 0) = true from by simpa using c2] at this; rw [← this]; simp
        have d2 : decide (a < 0) = true := by simpa using c2
        subst hb0
        go_enter Try.func23, Try.ntmps23
        go_wp2
        go_ret
        exact ⟨rfl, HL.out⟩
      · have d2 : decide (a < 0) = false := by simpa using c2
        by_cases c3 : 4294967295 < a
        · have hb0 : b = true := by have := HB.out; rw [show decide (4294967295 < a) = true from by simpa using c3] at this; rw [← this]; simp
          have d3 : decide (4294967295 < a) = true := by simpa using c3
          subst hb0
          go_enter Try.func23, Try.ntmps23
          go_wp2
          go_ret
          exact ⟨rfl, HL.out⟩
        · have d3 : decide (4294967295 < a) = false := by simpa using c3
          cases h0 : isName n.data.toList with
          | false =>
            have hb0 : b = true := by have := HB.out; rw [h0] at this; rw [← this]; simp
            subst hb0
            go_enter Try.func23, Try.ntmps23
            go_wp2_with (go_at_call 34; go_must (refine (may_as _ false _ hn h0).mono ?_); rintro e w' ⟨rfl, hw⟩; obtain rfl := hw.symm)
            go_ret
            exact ⟨rfl, HL.out⟩
          | true =>
            by_cases c5 : t < 1
            · have hb0 : b = true := by have := HB.out; rw [show decide (t < 1) = true from by simpa using c5] at this; rw [← this]; simp
              have d5 : decide (t < 1) = true := by simpa using c5
              subst hb0
              go_enter Try.func23, Try.ntmps23
              go_wp2_with (go_at_call 34; go_must (refine (may_as _ true _ hn h0).mono ?_); rintro e w' ⟨rfl, hw⟩; obtain rfl := hw.symm)
              go_ret
              exact ⟨rfl, HL.out⟩
            · have d5 : decide (t < 1) = false := by simpa using c5
              by_cases c6 : 65535 < t
              · have hb0 : b = true := by have := HB.out; rw [show decide (65535 < t) = true from by simpa using c6] at this; rw [← this]; simp
                have d6 : decide (65535 < t) = true := by simpa using c6
                subst hb0
                go_enter Try.func23, Try.ntmps23
                go_wp2_with (go_at_call 34; go_must (refine (may_as _ true _ hn h0).mono ?_); rintro e w' ⟨rfl, hw⟩; obtain rfl := hw.symm)
                go_ret
                exact ⟨rfl, HL.out⟩
              · have d6 : decide (65535 < t) = false := by simpa using c6
                have hb0 : b = false := by have := HB.out; rw [d0, d1, d2, d3, h0, d5, d6] at this; exact this.symm
                subst hb0
                go_enter Try.func23, Try.ntmps23
                go_wp2_with (go_at_call 34; go_must (refine (may_as _ true _ hn h0).mono ?_); rintro e w' ⟨rfl, hw⟩; obtain rfl := hw.symm)
                go_ret
                exact ⟨rfl, HL.out⟩

theorem questionOf_any (n : ByteArray) (t : Int) (w : World) :
    Calls Try.prog 26 #[.agg #[.string n, .int .i64 t]] w fun e w' => e = .returned (.agg #[.string n, .int .i64 t, .int .i64 1]) ∧ Below w.heap.size w w' := by
  have hb : Below w.heap.size w ((w.alloc (.cells #[.string n, .int .i64 t] 33)).alloc (.cells #[.string ⟨#[]⟩, .int .i64 0, .int .i64 0] 37)) := lay (lay (Below.refl _ _) _) _
  have hk := Blk.new (w.alloc (.cells #[.string n, .int .i64 t] 33)) #[.string ⟨#[]⟩, .int .i64 0, .int .i64 0] 37
  have e2 : (w.alloc (.cells #[.string n, .int .i64 t] 33)).heap.size = w.heap.size + 1 := by simp
  rw [e2] at hk
  go_enter Try.func26, Try.ntmps26
  go_wp2_with (refine wpList_storeS _ rfl (.tmp 2) (.tmp 7) 37 rfl (w.heap.size + 1) _ _ 37 rfl rfl hk (by kernel_rfl) rfl (by simp [Value.oneCell']) ?_; intro w2 k2 t2 _ _)
  exact bodyPost_ret (v := .agg #[.string n, .int .i64 t, .int .i64 1]) (ret_s rfl rfl k2 ⟨_, Try.underlying37⟩ (by kernel_rfl)) rfl ⟨rfl, t2.one_below hb (by omega)⟩

set_option maxRecDepth 20000 in
theorem keyOf_any (a i : Int) (n : ByteArray) (t c : Int) (w : World) (hn : n.size ≤ maxLen) :
    Calls Try.prog 25 #[.int .i64 a, .int .i64 i, .agg #[.string n, .int .i64 t, .int .i64 c]] w fun e w' => e = .returned (kyV (keyQ a i n t c)) ∧ Below w.heap.size w w' := by
  unfold kyV kyC keyQ fdO
  simp only
  have hb : Below w.heap.size w ((w.alloc (.cells #[.string n, .int .i64 t, .int .i64 c] 37)).alloc (.cells #[.int .i64 0, .int .i64 0, .string ⟨#[]⟩, .int .i64 0, .int .i64 0] 67)) := lay (lay (Below.refl _ _) _) _
  have hq := (Blk.new w #[.string n, .int .i64 t, .int .i64 c] 37).alloc (.cells #[.int .i64 0, .int .i64 0, .string ⟨#[]⟩, .int .i64 0, .int .i64 0] 67)
  have hk := Blk.new (w.alloc (.cells #[.string n, .int .i64 t, .int .i64 c] 37)) #[.int .i64 0, .int .i64 0, .string ⟨#[]⟩, .int .i64 0, .int .i64 0] 67
  have e2 : (w.alloc (.cells #[.string n, .int .i64 t, .int .i64 c] 37)).heap.size = w.heap.size + 1 := by simp
  rw [e2] at hk
  obtain ⟨f, hf⟩ : ∃ f : ByteArray, f = ⟨(foldR n.data.toList).toArray⟩ := ⟨_, rfl⟩
  rw [← hf]
  have hfold : ∀ u : World, Calls Try.prog 35 #[.string n] u fun e w' => e = .returned (.string f) ∧ Below u.heap.size u w' := fun u => by rw [hf]; exact fold_any n u hn
  clear hf
  go_enter Try.func25, Try.ntmps25
  go_wp2_with (first
    | (go_at_call 35; go_must (refine (hfold _).mono ?_); rintro e w1 ⟨rfl, b1⟩; replace hk := hk.below b1; replace hq := hq.below b1; replace hb := next hb b1; have f0 := hq.frozen 0; have c0 := hq.cell 0; simp only [List.getElem?_toArray, List.getElem?_cons_zero] at c0; have hk2 := hk.other (b := w.heap.size) (by omega) 0 (.string f); have hq2 := hq.set 0 (.string f); have hb2 := hb.setCell (p := ⟨w.heap.size, 0, none⟩) (Nat.le_refl _) (.string f); simp only [List.setIfInBounds_toArray, List.set_cons_zero] at hq2)
    | (refine wpList_loadS _ rfl (.tmp 5) 37 rfl w.heap.size _ 37 rfl hq2 ⟨_, Try.underlying37⟩ (by kernel_rfl) ?_)
    | (refine wpList_storeS _ rfl (.tmp 6) (.tmp 14) 67 rfl (w.heap.size + 1) _ _ 67 rfl rfl hk2 (by kernel_rfl) rfl (by simp [Value.oneCell']) ?_; intro w2 k2 t2 _ _))
  exact bodyPost_ret (v := .agg #[.int .i64 a, .int .i64 i, .string f, .int .i64 t, .int .i64 c]) (ret_s rfl rfl k2 ⟨_, Try.underlying67⟩ (by kernel_rfl)) rfl ⟨rfl, t2.one_below hb2 (by omega)⟩

set_option maxRecDepth 20000 in
set_option maxHeartbeats 1000000 in
theorem copyOf_any (j i a : Int) (c g n : ByteArray) (t u : Int) (w : World) (hc : c.size ≤ 140737488351232) (hg : g.size ≤ 140737488351232) (hn : n.size ≤ 140737488351232) :
    Calls Try.prog 27 #[.agg #[.int .i64 j, .int .i64 i, .int .i64 a, .string c, .string g, .string n, .int .i64 t, .int .i64 u]] w fun e w' => e = .returned (.agg #[.int .i64 j, .int .i64 i, .int .i64 a, .string c, .string g, .string n, .int .i64 t, .int .i64 u]) ∧ Below w.heap.size w w' := by
  have hb : Below w.heap.size w ((w.alloc (.cells #[.int .i64 j, .int .i64 i, .int .i64 a, .string c, .string g, .string n, .int .i64 t, .int .i64 u] 35)).alloc (.cells #[.int .i64 0, .int .i64 0, .int .i64 0, .string ⟨#[]⟩, .string ⟨#[]⟩, .string ⟨#[]⟩, .int .i64 0, .int .i64 0] 35)) := lay (lay (Below.refl _ _) _) _
  have hq := (Blk.new w #[.int .i64 j, .int .i64 i, .int .i64 a, .string c, .string g, .string n, .int .i64 t, .int .i64 u] 35).alloc (.cells #[.int .i64 0, .int .i64 0, .int .i64 0, .string ⟨#[]⟩, .string ⟨#[]⟩, .string ⟨#[]⟩, .int .i64 0, .int .i64 0] 35)
  have hk := Blk.new (w.alloc (.cells #[.int .i64 j, .int .i64 i, .int .i64 a, .string c, .string g, .string n, .int .i64 t, .int .i64 u] 35)) #[.int .i64 0, .int .i64 0, .int .i64 0, .string ⟨#[]⟩, .string ⟨#[]⟩, .string ⟨#[]⟩, .int .i64 0, .int .i64 0] 35
  have e2 : (w.alloc (.cells #[.int .i64 j, .int .i64 i, .int .i64 a, .string c, .string g, .string n, .int .i64 t, .int .i64 u] 35)).heap.size = w.heap.size + 1 := by simp
  rw [e2] at hk
  have t1 : True := trivial
  have t2 : True := trivial
  have t3 : True := trivial
  go_enter Try.func27, Try.ntmps27
  go_wp2_with (first
    | (go_at_call 36; have _t := t1; go_must (refine (clone_far c _ (by omega)).mono ?_); rintro e w1 ⟨rfl, b1⟩; clear t1; replace hk := hk.below b1; replace hq := hq.below b1; replace hb := next hb b1; have f3 := hq.frozen 3; have c3 := hq.cell 3; simp only [List.getElem?_toArray, List.getElem?_cons_succ, List.getElem?_cons_zero] at c3; replace hk := hk.other (b := w.heap.size) (by omega) 3 (.string c); replace hq := hq.set 3 (.string c); replace hb := hb.setCell (p := ⟨w.heap.size, 3, none⟩) (Nat.le_refl _) (.string c); simp only [List.setIfInBounds_toArray, List.set_cons_succ, List.set_cons_zero] at hq; have c4 := hq.cell 4; simp only [List.getElem?_toArray, List.getElem?_cons_succ, List.getElem?_cons_zero] at c4)
    | (go_at_call 36; have _t := t2; go_must (refine (clone_far g _ (by omega)).mono ?_); rintro e w2 ⟨rfl, b2⟩; clear t2 f3 c3 c4; replace hk := hk.below b2; replace hq := hq.below b2; replace hb := next hb b2; have f4 := hq.frozen 4; have c4 := hq.cell 4; simp only [List.getElem?_toArray, List.getElem?_cons_succ, List.getElem?_cons_zero] at c4; replace hk := hk.other (b := w.heap.size) (by omega) 4 (.string g); replace hq := hq.set 4 (.string g); replace hb := hb.setCell (p := ⟨w.heap.size, 4, none⟩) (Nat.le_refl _) (.string g); simp only [List.setIfInBounds_toArray, List.set_cons_succ, List.set_cons_zero] at hq; have c5 := hq.cell 5; simp only [List.getElem?_toArray, List.getElem?_cons_succ, List.getElem?_cons_zero] at c5)
    | (go_at_call 36; have _t := t3; go_must (refine (clone_far n _ (by omega)).mono ?_); rintro e w3 ⟨rfl, b3⟩; clear t3 f4 c4 c5; replace hk := hk.below b3; replace hq := hq.below b3; replace hb := next hb b3; have f5 := hq.frozen 5; have c5 := hq.cell 5; simp only [List.getElem?_toArray, List.getElem?_cons_succ, List.getElem?_cons_zero] at c5; replace hk := hk.other (b := w.heap.size) (by omega) 5 (.string n); replace hq := hq.set 5 (.string n); replace hb := hb.setCell (p := ⟨w.heap.size, 5, none⟩) (Nat.le_refl _) (.string n); simp only [List.setIfInBounds_toArray, List.set_cons_succ, List.set_cons_zero] at hq)
    | (refine wpList_loadS _ rfl (.tmp 1) 35 rfl w.heap.size _ 35 rfl hq ⟨_, Try.underlying35⟩ (by kernel_rfl) ?_)
    | (refine wpList_storeS _ rfl (.tmp 2) (.tmp 17) 35 rfl (w.heap.size + 1) _ _ 35 rfl rfl hk (by kernel_rfl) rfl (by simp [Value.oneCell']) ?_; intro w4 k4 t4 _ _))
  exact bodyPost_ret (v := .agg #[.int .i64 j, .int .i64 i, .int .i64 a, .string c, .string g, .string n, .int .i64 t, .int .i64 u]) (ret_s rfl rfl k4 ⟨_, Try.underlying35⟩ (by kernel_rfl)) rfl ⟨rfl, t4.one_below hb (by omega)⟩

end Ou
end Go.Proofs.Ytbldoplemfjcjaa
