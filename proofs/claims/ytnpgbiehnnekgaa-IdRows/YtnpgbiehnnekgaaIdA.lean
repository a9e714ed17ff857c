/- Rows of numbers: copied, lent, alike, kept, written over; as they come in, with how far they reach. -/
import Derived.Test.YtnpgbiehnnekgaaInA
import Derived.Test.YtnpgbiehnnekgaaOctC
namespace Go.Proofs.Ytnpgbiehnnekgaa
open Go.ChangeShapes Go.WideShapes Go.ChangeAt Go.RowKit
namespace Ix

theorem own_cells {w : World} {B e z n k : Nat} {v : Value} {xs : List Value} (h : w.ownsRow B e z v n xs) (hk : v.ownBlock = some k) : ∃ cur, Blk w k cur e := by
  rcases h.2 with ⟨h1, _⟩ | ⟨g, cap, cur, rfl, _, hg, _⟩
  · rw [h1] at hk; simp [Value.ownBlock] at hk
  · simp [Value.ownBlock] at hk
    subst hk
    exact ⟨cur, hg⟩
theorem blk_tag {w : World} {g : Nat} {C D : Array Value} {t u : TypeId} (h : Blk w g C t) (k : Blk w g D u) : t = u := by
  unfold Blk at h k
  rw [h] at k
  simp at k
  exact k.2
/-- Rows that were lent: their cells, and the marks behind them. -/
def Lies (w : World) (g : Nat) (xs : List Value) : Prop := ∀ j u, xs[j]? = some u → w.cell? ⟨g, j, none⟩ = some u
theorem Lies.below {w w' : World} {g : Nat} {xs : List Value} (h : Lies w g xs) (hb : Below w.heap.size w w') : Lies w' g xs := fun j u hu => by
  have h1 := h j u hu
  rw [hb.cell (World.block_lt_of_cell? _ _ h1)]; exact h1
theorem Lies.turn {S : Nat → Prop} {w w' : World} {g : Nat} {xs : List Value} (h : Lies w g xs) (ht : Turn S w w') (hs : ¬ S g) : Lies w' g xs := fun j u hu => by
  have h1 := h j u hu
  have hlt := World.block_lt_of_cell? _ _ h1
  have hb := ht.block g hlt hs
  unfold World.cell? at h1 ⊢
  simp only [hb]
  exact h1
theorem Lies.row {w : World} {g cap n : Nat} {xs ys : List Value} (h : Lies w g (xs ++ ys)) : Row w (.slice (some ⟨g, 0, none⟩) n cap) n xs := by
  refine .inr ⟨g, 0, none, cap, rfl, fun _ => rfl, fun j u hu => ?_⟩
  rw [Nat.zero_add]
  refine h j u ?_
  rw [List.getElem?_append_left (List.getElem?_eq_some_iff.1 hu).1]
  exact hu
theorem lies_own {w : World} {base e z g cap N : Nat} {xs : List Value} (h : w.ownsRow base e z (.slice (some ⟨g, 0, none⟩) N cap) N xs) : Lies w g xs ∧ N ≤ cap := by
  refine ⟨fun j u hu => ?_, ?_⟩
  · have hj := (List.getElem?_eq_some_iff.1 hu).1
    rw [h.cellAt j (by rw [← h.1]; exact hj), hu]
  · rcases h.2 with ⟨e, _⟩ | ⟨g', cap', cur, e, _, _, hnc, _⟩
    · simp at e
    · simp at e; omega
theorem own_take {w : World} {base e z n k g cap : Nat} {xs : List Value} (h : w.ownsRow base e z (.slice (some ⟨g, 0, none⟩) n cap) n xs) (hk : k ≤ n) : w.ownsRow base e z (.slice (some ⟨g, 0, none⟩) k cap) k (xs.take (k * z)) := by
  have hl := h.1
  have hz : k * z ≤ n * z := Nat.mul_le_mul_right z hk
  refine ⟨by rw [List.length_take]; omega, ?_⟩
  rcases h.2 with ⟨h1, _⟩ | ⟨g', cap', cur, h1, hb, hg, hnc, hcm, hcs, hx⟩
  · cases h1
  · simp only [Value.slice.injEq, true_and, Option.some.injEq, Addr.mk.injEq] at h1
    obtain ⟨⟨rfl, _⟩, rfl⟩ := h1
    exact .inr ⟨g, cap, cur, rfl, hb, hg, by omega, hcm, hcs, by rw [← hx, List.take_take, Nat.min_eq_left hz]⟩
theorem iC_len (xs : List Int) : (iC xs).length = xs.length := by rw [iC, flat_len (f := iV) (z := 1) (fun _ => rfl) xs, Nat.mul_one]
theorem iC_app (a b : List Int) : iC (a ++ b) = iC a ++ iC b := by simp [iC]
theorem iC_one (xs : List Int) : ∀ u ∈ iC xs, u.oneCell' = true := by
  intro u hu
  unfold iC at hu
  obtain ⟨p, _, hu⟩ := List.mem_flatMap.1 hu
  unfold iV at hu
  simp at hu
  subst hu
  rfl
theorem info3' : (Try.prog.info? 3).map (fun i => (i.zero, i.size, i.bytes)) = some (some (.int .i64 0), 1, 8) := by kernel_rfl

set_option maxRecDepth 20000 in
theorem sameI_any (v u : Value) (a b : List Int) (w : World) (h1 : Row w v a.length (iC a)) (h2 : Row w u b.length (iC b)) (hm1 : a.length ≤ maxLen) (hm2 : b.length ≤ maxLen) (r : Bool) (hr : decide (a = b) = r) :
    Calls Try.prog 18 #[v, u] w fun e w' => e = .returned (.bool r) ∧ Below w.heap.size w w' := by
  obtain ⟨N, hN⟩ : ∃ N, N = a.length := ⟨_, rfl⟩
  obtain ⟨M, hM⟩ : ∃ M, M = b.length := ⟨_, rfl⟩
  obtain ⟨x, c, rfl⟩ := row_slice h1
  obtain ⟨x', c', rfl⟩ := row_slice h2
  have HN : Hid (N = a.length) := hN
  have HM : Hid (M = b.length) := hM
  rw [← hN] at h1 hm1 ⊢
  rw [← hM] at h2 hm2 ⊢
  unfold maxLen at hm1 hm2
  have HR1 : Hid (Row w (.slice x N c) N (iC a)) := h1
  have HR2 : Hid (Row w (.slice x' M c') M (iC b)) := h2
  have HR : Hid (decide (a = b) = r) := hr
  have hb : Below w.heap.size w w := Below.refl _ _
  by_cases hl : N = M
  · have HL : Hid (N = M) := hl
    have hne : ((N : Int) != (M : Int)) = false := by rw [hl]; simp
    clear h1 h2 hr hN hM hl
    go_enter Try.func18, Try.ntmps18
    go_wp2
    go_loopw [5] (fun i wr => ∃ k : Nat, k ≤ N ∧ i = .int .i64 (k : Int) ∧ Hid (a.take k = b.take k) ∧ Below w.heap.size w wr) (fun i _ => N - (intOf i).toNat)
    case atStart => exact ⟨0, Nat.zero_le _, rfl, by unfold Hid; simp, hb⟩
    case round =>
      clear hb
      obtain ⟨k, hk, rfl, HT, hb⟩ := hrel
      by_cases hkn : k < N
      · have hkn' : (k : Int) < (N : Int) := by omega
        have hka : k < a.length := by have := HN.out; omega
        have hkb : k < b.length := by have := HM.out; have := HL.out; omega
        have hkm' : (k : Int) < (M : Int) := by have := HL.out; omega
        obtain ⟨g, o, cap, hx, hc⟩ := row_at (HR1.out.below hb) (by omega)
        obtain ⟨g', o', cap', hx', hc'⟩ := row_at (HR2.out.below hb) (by omega)
        simp only [Value.slice.injEq] at hx hx'
        obtain ⟨rfl, -, rfl⟩ := hx
        obtain ⟨rfl, -, rfl⟩ := hx'
        have d0 := hc k _ (iC_at hka)
        have e0 := hc' k _ (iC_at hkb)
        obtain ⟨p, hp⟩ : ∃ p, p = a[k] := ⟨_, rfl⟩
        obtain ⟨q, hq⟩ : ∃ q, q = b[k] := ⟨_, rfl⟩
        have HP : Hid (p = a[k]) := hp
        have HQ : Hid (q = b[k]) := hq
        rw [← hp] at d0
        rw [← hq] at e0
        clear hc hc' hp hq
        by_cases e : p = q
        · have HT2 : Hid (a.take (k + 1) = b.take (k + 1)) := by
            unfold Hid
            rw [List.take_succ_eq_append_getElem hka, List.take_succ_eq_append_getElem hkb, HT.out, ← HP.out, ← HQ.out, e]
          subst e
          go_wp2
          go_region
          go_wp2
          go_roundw
          case rel => exact ⟨k + 1, by omega, by go_num, HT2, next hb (below_drew ⟨1, rfl⟩)⟩
          case measure => simp [intOf]; omega
        · have hpq : (p != q) = true := by simpa using e
          have HF : Hid (r = false) := by
            unfold Hid
            rw [← HR.out, decide_eq_false_iff_not]
            rintro rfl
            exact e (HP.out.trans HQ.out.symm)
          clear e
          go_wp2
          go_region
          go_wp2
          go_ret
          exact ⟨ret_bool HF.out.symm, next hb (below_drew ⟨1, rfl⟩)⟩
      · have hkn' : decide (k < N) = false := by simpa using hkn
        have HF : Hid (r = true) := by
          unfold Hid
          rw [← HR.out, decide_eq_true_eq]
          have h1 := HT.out
          have h2 := HN.out
          have h3 := HM.out
          have h4 := HL.out
          rw [List.take_of_length_le (by omega), List.take_of_length_le (by omega)] at h1
          exact h1
        go_wp2
        go_ret
        exact ⟨ret_bool HF.out.symm, hb⟩
  · have hne : ((N : Int) != (M : Int)) = true := by simp; omega
    have HF : Hid (r = false) := by
      unfold Hid
      rw [← hr, decide_eq_false_iff_not]
      rintro rfl
      omega
    clear h1 h2 hr hl HR hN hM
    go_enter Try.func18, Try.ntmps18
    go_wp2
    go_ret
    exact ⟨ret_bool HF.out.symm, hb⟩

/-- From the place j on there are n numbers. -/
def NumsI (xs : List Value) (j n : Nat) : Prop := ∀ i, j ≤ i → i < n → ∃ q : Int, xs[i]? = some (.int .i64 q)
theorem NumsI.set {xs : List Value} {j n : Nat} (h : NumsI xs j n) (v : Value) : NumsI (xs.set j v) (j + 1) n := by
  intro i hi hn
  obtain ⟨q, h1⟩ := h i (by omega) hn
  exact ⟨q, by rw [List.getElem?_set_ne (by omega)]; exact h1⟩
theorem numsI (xs : List Int) : NumsI (iC xs) 0 xs.length := fun i _ hi => ⟨xs[i], iC_at hi⟩
set_option maxRecDepth 20000 in
theorem spoilI_any {B n cap : Nat} {y : Option Addr} {xs : List Value} {w : World} (hown : w.ownsRow B 3 1 (.slice y n cap) n xs) (hi : NumsI xs 0 n) (hn : n ≤ maxLen) :
    Calls Try.prog 11 #[.slice y n cap] w fun e w' => e = .returned (.tuple #[]) ∧ Turn (fun k => (Value.slice y n cap).ownBlock = some k) w w' := by
  have HT : Hid (Turn (fun k => (Value.slice y n cap).ownBlock = some k) w w) := Turn.refl _ _
  unfold maxLen at hn
  by_cases h0 : n = 0
  · subst h0
    clear hown hi
    go_enter Try.func11, Try.ntmps11
    go_wp2
    go_loopw [2] (fun i wr => i = .int .i64 0 ∧ wr = w) (fun _ _ => 0)
    case atStart => exact ⟨rfl, rfl⟩
    case round =>
      obtain ⟨rfl, rfl⟩ := hrel
      go_wp2
      go_end0
      exact ⟨rfl, HT.out⟩
  · obtain ⟨g, cap', e1, _, _⟩ := hown.form (by omega)
    simp only [Value.slice.injEq, true_and] at e1
    obtain ⟨rfl, rfl⟩ := e1
    have HS : Hid (w.ownsRow B 3 1 (.slice (some ⟨g, 0, none⟩) n cap) n xs ∧ NumsI xs 0 n ∧ Turn (fun k => (Value.slice (some ⟨g, 0, none⟩) n cap).ownBlock = some k) w w) := ⟨hown, hi, HT.out⟩
    clear hown hi HT
    go_enter Try.func11, Try.ntmps11
    go_wp2
    go_loopw [2] (fun i wr => ∃ (j : Nat) (xs' : List Value), j ≤ n ∧ i = .int .i64 (j : Int) ∧ Hid (wr.ownsRow B 3 1 (.slice (some ⟨g, 0, none⟩) n cap) n xs' ∧ NumsI xs' j n ∧ Turn (fun k => (Value.slice (some ⟨g, 0, none⟩) n cap).ownBlock = some k) w wr)) (fun i _ => n - (intOf i).toNat)
    case atStart => exact ⟨0, xs, Nat.zero_le _, rfl, HS⟩
    case round =>
      clear HS
      obtain ⟨j, xs', hj, rfl, HS⟩ := hrel
      by_cases hjn : j < n
      · have hjn' : (j : Int) < (n : Int) := by omega
        obtain ⟨q, ht⟩ := HS.out.2.1 j (Nat.le_refl _) hjn
        have c1 : wr.cell? ⟨g, j, none⟩ = some (.int .i64 q) := by rw [HS.out.1.cellAt j (by omega)]; exact ht
        have f1 := HS.out.1.frozenAt j
        have HST : ∀ Z : Value, Hid ((wr.setCell ⟨g, j, none⟩ Z).ownsRow B 3 1 (.slice (some ⟨g, 0, none⟩) n cap) n (xs'.set j Z) ∧ NumsI (xs'.set j Z) (j + 1) n ∧ Turn (fun k => (Value.slice (some ⟨g, 0, none⟩) n cap).ownBlock = some k) w (wr.setCell ⟨g, j, none⟩ Z)) :=
          fun Z => ⟨(HS.out.1.stored _ _).1, HS.out.2.1.set _, HS.out.2.2.same (Turn.of_set (S := fun k => (Value.slice (some ⟨g, 0, none⟩) n cap).ownBlock = some k) wr (p := ⟨g, j, none⟩) rfl _)⟩
        clear ht
        go_wp2
        go_roundw
        case rel => exact ⟨j + 1, _, by omega, by go_num, (HST _).out⟩
        case measure => simp [intOf]; omega
      · have hjn' : decide (j < n) = false := by simpa using hjn
        go_wp2
        go_end0
        exact ⟨rfl, HS.out.2.2⟩


def mkI : List Int := [-7777, -8888]
theorem copyI_any (v : Value) (xs : List Int) (w : World) (h : Row w v xs.length (iC xs)) (hn : xs.length ≤ 17592186043904) :
    Calls Try.prog 16 #[v] w fun e w' => ∃ v', e = .returned v' ∧ w'.ownsRow w.heap.size 3 1 v' xs.length (iC xs) ∧ Below w.heap.size w w' := by
  obtain ⟨i0, hi, hz0, hz1, hz2⟩ := info_parts info3'
  have hb := lay (Below.refl w.heap.size w) (.cells #[] 3)
  have h2 := h.below hb
  have hown := own_blk (B := w.heap.size) (z := 1) (n := 0) (xs := []) (Blk.new w #[] 3) (Nat.le_refl _) rfl rfl (Nat.zero_le _)
  have hl := iC_len xs
  obtain ⟨x, c, rfl⟩ := row_slice h
  go_enter Try.func16, Try.ntmps16
  go_wp2_with (at_builtin; refine wpList_appG _ rfl (.tmp 3) (.tmp 4) 22 3 i0 _ 1 8 Try.underlying22 hi hz0 hz1 hz2 rfl (by decide) rfl w.heap.size _ 0 [] rfl hown _ xs.length (iC xs) rfl h2 (by omega) (iC_one xs) (by omega) (by unfold maxLen; omega) hb.size ?_; intro v' w2 h1 h3 _)
  go_ret
  exact ⟨_, rfl, by simpa using h1, hb.grown h3 hb.size (fun j e => (hown.lt j e).1)⟩
theorem lendI_any (v : Value) (xs : List Int) (w : World) (h : Row w v xs.length (iC xs)) (hn : xs.length ≤ 17592186043904) :
    Calls Try.prog 5 #[v] w fun e w' => ∃ g cap, e = .returned (.slice (some ⟨g, 0, none⟩) xs.length cap) ∧ xs.length + 2 ≤ cap ∧ Lies w' g (iC xs ++ iC mkI) ∧ w'.ownsRow w.heap.size 3 1 (.slice (some ⟨g, 0, none⟩) xs.length cap) xs.length (iC xs) ∧ Below w.heap.size w w' := by
  obtain ⟨i0, hi, hz0, hz1, hz2⟩ := info_parts info3'
  obtain ⟨N, hN⟩ : ∃ N, N = xs.length := ⟨_, rfl⟩
  have HN : Hid (N = xs.length) := hN
  obtain ⟨x, c, hv⟩ := row_slice h
  have hc := copyI_any v xs w h hn
  have hl := iC_len xs
  rw [← hN] at hv hn hl ⊢
  subst hv
  clear hN
  go_enter Try.func5, Try.ntmps5
  go_wp2_with (first
    | (go_at_call 16; go_must (refine hc.mono ?_); rintro e w1 ⟨v1, rfl, hown, hb⟩; rw [← HN.out] at hown)
    | (at_builtin; refine wpList_appG _ rfl (.tmp 5) (.tmp 6) 22 3 i0 _ 1 8 Try.underlying22 hi hz0 hz1 hz2 rfl (by decide) rfl w.heap.size _ N (iC xs) rfl (hown.alloc _) (.slice (some ⟨w1.heap.size, 0, none⟩) 2 2) 2 (iC mkI) rfl (Row.of_blk (Blk.new w1 #[.int .i64 (-7777), .int .i64 (-8888)] 3) rfl 2 2) rfl (iC_one _) (by omega) (by unfold maxLen; omega) (lay hb _).size ?_; intro v2 w2 h1 h3 _; obtain ⟨g, cap, rfl, _, _⟩ := h1.form (by omega); obtain ⟨hl, hcap⟩ := lies_own h1; have hcap2 : N ≤ cap := (by omega); have HOT := own_take (k := N) h1 (by omega); have hb2 : Below w.heap.size w w2 := (lay hb _).grown h3 (lay hb _).size (fun j e => (hown.lt j e).1); clear h1 h3))
  go_ret
  refine ⟨g, cap, rfl, hcap, hl, ?_, hb2⟩
  rw [Nat.mul_one, List.take_append_of_le_length (by rw [iC_len, ← HN.out]; exact Nat.le_refl _), List.take_of_length_le (by rw [iC_len, ← HN.out]; exact Nat.le_refl _)] at HOT
  exact HOT
theorem marksI {w : World} {g : Nat} {xs : List Int} (h : Lies w g (iC xs ++ iC mkI)) : ∀ i u, (iC mkI)[i]? = some u → w.cell? ⟨g, xs.length + i, none⟩ = some u := fun i u hu => h _ _ (by
  rw [List.getElem?_append_right (by rw [iC_len]; omega), iC_len, Nat.add_sub_cancel_left]
  exact hu)
set_option maxRecDepth 20000 in
theorem keptI_any (g cap : Nat) (u : Value) (xs : List Int) (w : World) (hl : Lies w g (iC xs ++ iC mkI)) (hcap : xs.length + 2 ≤ cap) (h2 : Row w u xs.length (iC xs)) (hn : xs.length ≤ 17592186043904) :
    Calls Try.prog 8 #[.slice (some ⟨g, 0, none⟩) xs.length cap, u] w fun e w' => e = .returned (.bool true) ∧ Below w.heap.size w w' := by
  have hsame := sameI_any _ u xs xs w (hl.row (cap := cap) (n := xs.length)) h2 (by unfold maxLen; omega) (by unfold maxLen; omega) true (by simp)
  have HM : Hid (Lies w g (iC xs ++ iC mkI)) := hl
  obtain ⟨y, d, e2⟩ := row_slice h2
  obtain ⟨N, hN⟩ : ∃ N, N = xs.length := ⟨_, rfl⟩
  have HN : Hid (N = xs.length) := hN
  rw [← hN] at hsame e2 hn hcap ⊢
  subst e2
  clear hN h2 hl
  have hcap2 : (N : Int) + 2 ≤ (cap : Int) := by omega
  go_enter Try.func8, Try.ntmps8
  go_wp2_with (go_at_call 18; go_must (refine hsame.mono ?_); rintro e w1 ⟨rfl, b1⟩; have mm := marksI (HM.out.below b1); rw [← HN.out] at mm; have m0 := mm 0 _ rfl; have m1 := mm 1 _ rfl; simp only [Nat.add_zero] at m0; clear mm)
  go_ret
  exact ⟨rfl, b1⟩

theorem bytes3 : Try.prog.bytesOf 3 = 8 := by kernel_rfl
/-- Numbers as they come in. -/
structure IsIn (W : World) (v : Value) (ps : List Int) : Prop where
  row : Row W v ps.length (iC ps)
  len : ps.length ≤ 17592186043904
theorem IsIn.below {w w' : World} {v : Value} {ps : List Int} (h : IsIn w v ps) (hb : Below w.heap.size w w') : IsIn w' v ps := ⟨h.row.below hb, h.len⟩
theorem open_ifar {H : Type} {enc : TypeId × Value → H} {W : World} {r : Reach} {b0 : Nat} {v : Value} {d : DataW H} {p : List MemPlace} (hval : Value.okWide Try.prog W r b0 22 v) (h0 : DataW.Trod enc Try.prog W 0 (fun _ => true) true 22 v d p) (hw : (d.weights Try.prog 22).all (· ≤ reachBytes) = true) :
    ∃ ps : List Int, IsIn W v ps := by
  obtain ⟨ps, hr, _⟩ := open_irow hval h0
  obtain ⟨x0, c0, hv⟩ := row_slice hr
  obtain ⟨fuel, hf⟩ := h0
  have h1 := row_weight (c := v) (x := (d, p)) Try.underlying22 (by rw [hv] at hf ⊢; simpa [Value.cells] using hf) hw hv
  rw [bytes3] at h1
  unfold reachBytes at h1
  exact ⟨ps, hr, by omega⟩

end Ix
end Go.Proofs.Ytnpgbiehnnekgaa
