/- What the document's Insert and Rrs give. -/
import Derived.Test.YtdaegnmokaibpaaSeO
namespace Go.Proofs.Ytdaegnmokaibpaa
open Go.RowKit
open Pl

theorem less_at {x : ByteArray} {ds : List ByteArray} {j : Nat} (hj : j < posB x ds) (hl : j < ds.length) : Op.bytesLess ds[j].toList x.toList = true := by
  have := posB_less x ds j hj
  rw [List.getD_eq_getElem?_getD, List.getElem?_eq_getElem hl, Option.getD_some] at this
  exact this
theorem not_less_at {x : ByteArray} : ∀ {ds : List ByteArray} (hl : posB x ds < ds.length), Op.bytesLess ds[posB x ds].toList x.toList = false := by
  intro ds
  induction ds with
  | nil => intro hl; simp [posB] at hl
  | cons d ds ih =>
    intro hl
    by_cases h : ltB d x = true
    · have e : posB x (d :: ds) = posB x ds + 1 := by rw [posB, if_pos h]
      simp only [e, List.getElem_cons_succ]
      exact ih (by rw [e] at hl; simpa using hl)
    · have e : posB x (d :: ds) = 0 := by rw [posB, if_neg h]
      simp only [e, List.getElem_cons_zero]
      unfold ltB at h
      simpa using h

set_option maxRecDepth 20000 in
set_option maxHeartbeats 1000000 in
theorem refInsert_any {B : Nat} (v : Value) (ds : List ByteArray) (x : ByteArray) (w : World) (h : w.ownsRow B 9 1 v ds.length (tC ds)) (hm : ds.length ≤ 1000) (hB : B ≤ w.heap.size) :
    Calls Try.prog 33 #[v, .string x] w fun e w' => ∃ v', e = .returned v' ∧ w'.ownsRow B 9 1 v' (insB x ds).length (tC (insB x ds)) ∧ Below w.heap.size w w' ∧ ∀ k, v'.ownBlock = some k → v.ownBlock = some k ∨ w.heap.size ≤ k := by
  obtain ⟨i0, hi, hz0, hz1, hz2⟩ := info_parts info9'
  obtain ⟨n, hn⟩ : ∃ n, n = ds.length := ⟨_, rfl⟩
  obtain ⟨y, c, hv⟩ := row_shape h
  rw [← hn] at hv hm
  subst hv
  have HN : Hid (n = ds.length) := hn
  have HO : Hid (w.ownsRow B 9 1 (.slice y n c) ds.length (tC ds)) := h
  obtain ⟨p, hp⟩ : ∃ p, p = posB x ds := ⟨_, rfl⟩
  have HP : Hid (p = posB x ds) := hp
  have hpn : p ≤ n := by rw [hp, hn]; exact posB_le x ds
  have hcn : n ≤ c ∧ c ≤ maxLen := by
    rcases h.2 with ⟨e, e0⟩ | ⟨g', cap', cur, e, _, _, hnc, hcm, _⟩
    · simp at e; obtain ⟨_, rfl, rfl⟩ := e; exact ⟨Nat.le_refl _, Nat.zero_le _⟩
    · simp at e; obtain ⟨_, _, rfl⟩ := e; rw [hn]; exact ⟨hnc, hcm⟩
  obtain ⟨hnc, hcm⟩ := hcn
  unfold maxLen at hcm
  clear h hn hp
  go_enter Try.func33, Try.ntmps33
  go_wp2
  go_loop [5] (fun i => ∃ j : Nat, j ≤ p ∧ i = .int .i64 (j : Int)) (fun i => n - (intOf i).toNat)
  case atStart => exact ⟨0, Nat.zero_le _, rfl⟩
  case round =>
    obtain ⟨j, hj, rfl⟩ := hrel
    by_cases hjp : j < p
    · have hjn' : (j : Int) < (n : Int) := by omega
      have hjd : j < ds.length := by have := HN.out; omega
      obtain ⟨g, cap, e1, _, _⟩ := HO.out.form (by have := HN.out; omega)
      simp only [Value.slice.injEq] at e1
      obtain ⟨rfl, -, rfl⟩ := e1
      have c0 : w.cell? ⟨g, j, none⟩ = some (.string ds[j]) := by rw [(HN.out ▸ HO.out : w.ownsRow B 9 1 (.slice (some ⟨g, 0, none⟩) n c) n (tC ds)).cellAt j (by omega)]; exact tC_at hjd
      have hl := less_at (x := x) (ds := ds) (j := j) (by rw [← HP.out]; exact hjp) hjd
      obtain ⟨d, hd⟩ : ∃ d, d = ds[j] := ⟨_, rfl⟩
      rw [← hd] at c0 hl
      clear hd
      go_wp2
      go_round
      case rel => exact ⟨j + 1, by omega, by go_num⟩
      case measure => simp [intOf]; omega
    · obtain rfl : j = p := by omega
      by_cases hjn : j < n
      · have hjn' : (j : Int) < (n : Int) := by omega
        have hjd : j < ds.length := by have := HN.out; omega
        obtain ⟨g, cap, e1, _, _⟩ := HO.out.form (by have := HN.out; omega)
        simp only [Value.slice.injEq] at e1
        obtain ⟨rfl, -, rfl⟩ := e1
        have c0 : w.cell? ⟨g, j, none⟩ = some (.string ds[j]) := by rw [(HN.out ▸ HO.out : w.ownsRow B 9 1 (.slice (some ⟨g, 0, none⟩) n c) n (tC ds)).cellAt j (by omega)]; exact tC_at hjd
        have hl : Op.bytesLess ds[j].toList x.toList = false := by
          have h1 := not_less_at (x := x) (ds := ds) (by rw [← HP.out]; exact hjd)
          simp only [← HP.out] at h1
          exact h1
        by_cases he : ds[j] = x
        · have HE : Hid (insB x ds = ds) := by
            unfold Hid
            rw [insB_at, ← HP.out, if_pos (by rw [List.getElem?_eq_getElem hjd, he])]
          have hbe : (ds[j].toList == x.toList) = true := by rw [str_eqd]; simpa using he
          obtain ⟨d, hd⟩ : ∃ d, d = ds[j] := ⟨_, rfl⟩
          rw [← hd] at c0 hl hbe
          clear hd he
          go_wp2
          go_ret
          exact ⟨_, rfl, by rw [HE.out]; exact HO.out, Below.refl _ _, fun k hk => .inl hk⟩
        · have HE : Hid (insB x ds = ds.take j ++ x :: ds.drop j) := by
            unfold Hid
            rw [insB_at, ← HP.out, if_neg (by rw [List.getElem?_eq_getElem hjd]; simpa using he)]
          have hbe : (ds[j].toList == x.toList) = false := by rw [str_eqd]; simpa using he
          obtain ⟨d, hd⟩ : ∃ d, d = ds[j] := ⟨_, rfl⟩
          rw [← hd] at c0 hl hbe
          clear hd he
          have hr1 : Row w (.slice (some ⟨g, 0, none⟩) j c) j (tC (ds.take j)) := by
            refine .inr ⟨g, 0, none, c, rfl, fun _ => rfl, fun i u hu => ?_⟩
            have hi' := (List.getElem?_eq_some_iff.1 hu).1
            rw [tC_len, List.length_take] at hi'
            rw [Nat.zero_add, (HN.out ▸ HO.out : w.ownsRow B 9 1 (.slice (some ⟨g, 0, none⟩) n c) n (tC ds)).cellAt i (by omega), ← hu]
            unfold tC
            rw [List.map_take, List.getElem?_take_of_lt (by omega)]
          have hr3 : Row w (.slice (some ⟨g, j, none⟩) (n - j) (c - j)) (n - j) (tC (ds.drop j)) := by
            refine .inr ⟨g, j, none, c - j, rfl, fun _ => rfl, fun i u hu => ?_⟩
            have hi' := (List.getElem?_eq_some_iff.1 hu).1
            rw [tC_len, List.length_drop, ← HN.out] at hi'
            rw [(HN.out ▸ HO.out : w.ownsRow B 9 1 (.slice (some ⟨g, 0, none⟩) n c) n (tC ds)).cellAt (j + i) (by omega), ← hu]
            unfold tC
            rw [List.map_drop, List.getElem?_drop]
          have L1 : Hid ((tC (ds.take j)).length = j * 1) := by unfold Hid; rw [tC_len, List.length_take]; have := HN.out; omega
          have L3 : Hid ((tC (ds.drop j)).length = (n - j) * 1) := by unfold Hid; rw [tC_len, List.length_drop]; have := HN.out; omega
          have HF : Hid (tC (ds.take j) ++ tC [x] ++ tC (ds.drop j) = tC (insB x ds) ∧ (insB x ds).length = j + 1 + (n - j)) := by
            unfold Hid
            rw [HE.out, ← tC_app, ← tC_app]
            refine ⟨by simp, ?_⟩
            have := HN.out
            simp
            omega
          have t1 : True := trivial
          have t2 : True := trivial
          have t3 : True := trivial
          have hcj : (j : Int) ≤ (c : Int) := by omega
          go_wp2_with (first
            | (at_builtin; have _t := t1; refine wpList_appG _ rfl (.tmp 34) (.tmp 37) 23 9 i0 _ 1 16 Try.underlying23 hi hz0 hz1 hz2 rfl (by decide) rfl w.heap.size _ 0 [] rfl (World.ownsRow_nil _ _ _ _) _ j (tC (ds.take j)) rfl hr1 L1.out (tC_one _) (by omega) (by unfold maxLen; omega) (Nat.le_refl _) ?_; intro v1 w1 h1 g1 _; rw [Nat.zero_add, List.nil_append] at h1; have B1 : Hid (Below w.heap.size w w1) := grown_below g1; have O1 : Hid (w1.ownsRow w.heap.size 9 1 v1 j (tC (ds.take j))) := h1; clear h1 g1 t1)
            | (at_builtin; have _t := t2; refine wpList_appG _ rfl (.tmp 39) (.tmp 41) 23 9 i0 _ 1 16 Try.underlying23 hi hz0 hz1 hz2 rfl (by decide) rfl w.heap.size _ j (tC (ds.take j)) rfl (O1.out.alloc _) _ 1 (tC [x]) rfl (Row.of_blk (Blk.new w1 #[.string x] 9) rfl 1 1) rfl (tC_one _) (by omega) (by unfold maxLen; omega) (lay B1.out _).size ?_; intro v2 w2 h2 g2 _; have B2 : Hid (Below w.heap.size w w2) := (lay B1.out _).grown g2 (lay B1.out _).size (fun k e => (O1.out.lt k e).1); have O2 : Hid (w2.ownsRow w.heap.size 9 1 v2 (j + 1) (tC (ds.take j) ++ tC [x])) := h2; clear h2 g2 t2)
            | (at_builtin; have _t := t3; refine wpList_appG _ rfl (.tmp 43) (.tmp 46) 23 9 i0 _ 1 16 Try.underlying23 hi hz0 hz1 hz2 rfl (by decide) rfl w.heap.size _ (j + 1) (tC (ds.take j) ++ tC [x]) rfl O2.out _ (n - j) (tC (ds.drop j)) rfl (hr3.below B2.out) L3.out (tC_one _) (by omega) (by unfold maxLen; omega) B2.out.size ?_; intro v3 w3 h3 g3 _; have B3 : Hid (Below w.heap.size w w3) := B2.out.grown g3 B2.out.size (fun k e => (O2.out.lt k e).1); have O3 : Hid (w3.ownsRow w.heap.size 9 1 v3 (j + 1 + (n - j)) (tC (ds.take j) ++ tC [x] ++ tC (ds.drop j))) := h3; clear h3 g3 t3))
          go_ret
          exact ⟨_, rfl, by rw [HF.out.2, ← HF.out.1]; exact own_base O3.out hB, B3.out, fun k hk => .inr (O3.out.lt k hk).1⟩
      · obtain rfl : j = n := by omega
        have HE : Hid (insB x ds = ds.take j ++ x :: ds.drop j) := by
          unfold Hid
          rw [insB_at, ← HP.out, if_neg (by rw [List.getElem?_eq_none (by have := HN.out; omega)]; simp)]
        have hr1 : Row w (.slice y j c) j (tC ds) := by
          have h1 := Row.of_own HO.out
          rw [← HN.out] at h1
          exact h1
        have L1 : Hid ((tC ds).length = j * 1) := by unfold Hid; rw [tC_len]; have := HN.out; omega
        have HF : Hid (tC ds ++ tC [x] = tC (insB x ds) ∧ (insB x ds).length = j + 1) := by
          unfold Hid
          have hj := HN.out
          rw [HE.out, ← tC_app, List.take_of_length_le (by omega), List.drop_of_length_le (by omega)]
          refine ⟨rfl, ?_⟩
          simp
          omega
        have t1 : True := trivial
        have t2 : True := trivial
        have t3 : True := trivial
        have hcj : (j : Int) ≤ (c : Int) := by omega
        have hjj : decide ((j : Int) < (j : Int)) = false := by simp
        rcases HO.out.2 with ⟨e, e0⟩ | ⟨g', cap', cur, e, _, _, _, _, _⟩
        · simp only [Value.slice.injEq] at e
          obtain ⟨rfl, hj0, hc0⟩ := e
          have hjc : j = c := by omega
          subst hjc
          have HJ : Hid (j = 0) := hj0
          clear hc0 hj0 e0
          go_wp2_with (first
            | (at_builtin; have _t := t1; refine wpList_appG _ rfl (.tmp 34) (.tmp 37) 23 9 i0 _ 1 16 Try.underlying23 hi hz0 hz1 hz2 rfl (by decide) rfl w.heap.size _ 0 [] rfl (World.ownsRow_nil _ _ _ _) _ j (tC ds) rfl hr1 L1.out (tC_one _) (by omega) (by unfold maxLen; omega) (Nat.le_refl _) ?_; intro v1 w1 h1 g1 _; rw [Nat.zero_add, List.nil_append] at h1; have B1 : Hid (Below w.heap.size w w1) := grown_below g1; have O1 : Hid (w1.ownsRow w.heap.size 9 1 v1 j (tC ds)) := h1; clear h1 g1 t1)
            | (at_builtin; have _t := t2; refine wpList_appG _ rfl (.tmp 39) (.tmp 41) 23 9 i0 _ 1 16 Try.underlying23 hi hz0 hz1 hz2 rfl (by decide) rfl w.heap.size _ j (tC ds) rfl (O1.out.alloc _) _ 1 (tC [x]) rfl (Row.of_blk (Blk.new w1 #[.string x] 9) rfl 1 1) rfl (tC_one _) (by omega) (by unfold maxLen; omega) (lay B1.out _).size ?_; intro v2 w2 h2 g2 _; have B2 : Hid (Below w.heap.size w w2) := (lay B1.out _).grown g2 (lay B1.out _).size (fun k e => (O1.out.lt k e).1); have O2 : Hid (w2.ownsRow w.heap.size 9 1 v2 (j + 1) (tC ds ++ tC [x])) := h2; clear h2 g2 t2)
            | (at_builtin; have _t := t3; refine wpList_appG _ rfl (.tmp 43) (.tmp 46) 23 9 i0 _ 1 16 Try.underlying23 hi hz0 hz1 hz2 rfl (by decide) rfl w.heap.size _ (j + 1) (tC ds ++ tC [x]) rfl O2.out _ 0 [] rfl (.inl ⟨by simp only [HJ.out]; rfl, rfl⟩) rfl (tC_one []) (by omega) (by unfold maxLen; omega) B2.out.size ?_; intro v3 w3 h3 g3 _; rw [List.append_nil] at h3; have B3 : Hid (Below w.heap.size w w3) := B2.out.grown g3 B2.out.size (fun k e => (O2.out.lt k e).1); have O3 : Hid (w3.ownsRow w.heap.size 9 1 v3 (j + 1 + 0) (tC ds ++ tC [x])) := h3; clear h3 g3 t3))
          go_ret
          exact ⟨_, rfl, by rw [HF.out.2, ← HF.out.1]; exact own_base O3.out hB, B3.out, fun k hk => .inr (O3.out.lt k hk).1⟩
        · simp only [Value.slice.injEq] at e
          obtain ⟨rfl, -, rfl⟩ := e
          have hr3 : ∀ p c' w', Row w' (.slice (some p) 0 c') 0 [] := fun ⟨g, o, q⟩ c' w' => .inr ⟨g, o, q, c', rfl, fun h => absurd h (Nat.lt_irrefl 0), fun i u hu => by simp at hu⟩
          by_cases hjc : j = c
          · subst hjc
            go_wp2_with (first
              | (at_builtin; have _t := t1; refine wpList_appG _ rfl (.tmp 34) (.tmp 37) 23 9 i0 _ 1 16 Try.underlying23 hi hz0 hz1 hz2 rfl (by decide) rfl w.heap.size _ 0 [] rfl (World.ownsRow_nil _ _ _ _) _ j (tC ds) rfl hr1 L1.out (tC_one _) (by omega) (by unfold maxLen; omega) (Nat.le_refl _) ?_; intro v1 w1 h1 g1 _; rw [Nat.zero_add, List.nil_append] at h1; have B1 : Hid (Below w.heap.size w w1) := grown_below g1; have O1 : Hid (w1.ownsRow w.heap.size 9 1 v1 j (tC ds)) := h1; clear h1 g1 t1)
              | (at_builtin; have _t := t2; refine wpList_appG _ rfl (.tmp 39) (.tmp 41) 23 9 i0 _ 1 16 Try.underlying23 hi hz0 hz1 hz2 rfl (by decide) rfl w.heap.size _ j (tC ds) rfl (O1.out.alloc _) _ 1 (tC [x]) rfl (Row.of_blk (Blk.new w1 #[.string x] 9) rfl 1 1) rfl (tC_one _) (by omega) (by unfold maxLen; omega) (lay B1.out _).size ?_; intro v2 w2 h2 g2 _; have B2 : Hid (Below w.heap.size w w2) := (lay B1.out _).grown g2 (lay B1.out _).size (fun k e => (O1.out.lt k e).1); have O2 : Hid (w2.ownsRow w.heap.size 9 1 v2 (j + 1) (tC ds ++ tC [x])) := h2; clear h2 g2 t2)
              | (at_builtin; have _t := t3; refine wpList_appG _ rfl (.tmp 43) (.tmp 46) 23 9 i0 _ 1 16 Try.underlying23 hi hz0 hz1 hz2 rfl (by decide) rfl w.heap.size _ (j + 1) (tC ds ++ tC [x]) rfl O2.out _ 0 [] rfl (hr3 _ _ _) rfl (tC_one []) (by omega) (by unfold maxLen; omega) B2.out.size ?_; intro v3 w3 h3 g3 _; rw [List.append_nil] at h3; have B3 : Hid (Below w.heap.size w w3) := B2.out.grown g3 B2.out.size (fun k e => (O2.out.lt k e).1); have O3 : Hid (w3.ownsRow w.heap.size 9 1 v3 (j + 1 + 0) (tC ds ++ tC [x])) := h3; clear h3 g3 t3))
            go_ret
            exact ⟨_, rfl, by rw [HF.out.2, ← HF.out.1]; exact own_base O3.out hB, B3.out, fun k hk => .inr (O3.out.lt k hk).1⟩
          · have hjc' : (j : Int) < (c : Int) := by omega
            go_wp2_with (first
              | (at_builtin; have _t := t1; refine wpList_appG _ rfl (.tmp 34) (.tmp 37) 23 9 i0 _ 1 16 Try.underlying23 hi hz0 hz1 hz2 rfl (by decide) rfl w.heap.size _ 0 [] rfl (World.ownsRow_nil _ _ _ _) _ j (tC ds) rfl hr1 L1.out (tC_one _) (by omega) (by unfold maxLen; omega) (Nat.le_refl _) ?_; intro v1 w1 h1 g1 _; rw [Nat.zero_add, List.nil_append] at h1; have B1 : Hid (Below w.heap.size w w1) := grown_below g1; have O1 : Hid (w1.ownsRow w.heap.size 9 1 v1 j (tC ds)) := h1; clear h1 g1 t1)
              | (at_builtin; have _t := t2; refine wpList_appG _ rfl (.tmp 39) (.tmp 41) 23 9 i0 _ 1 16 Try.underlying23 hi hz0 hz1 hz2 rfl (by decide) rfl w.heap.size _ j (tC ds) rfl (O1.out.alloc _) _ 1 (tC [x]) rfl (Row.of_blk (Blk.new w1 #[.string x] 9) rfl 1 1) rfl (tC_one _) (by omega) (by unfold maxLen; omega) (lay B1.out _).size ?_; intro v2 w2 h2 g2 _; have B2 : Hid (Below w.heap.size w w2) := (lay B1.out _).grown g2 (lay B1.out _).size (fun k e => (O1.out.lt k e).1); have O2 : Hid (w2.ownsRow w.heap.size 9 1 v2 (j + 1) (tC ds ++ tC [x])) := h2; clear h2 g2 t2)
              | (at_builtin; have _t := t3; refine wpList_appG _ rfl (.tmp 43) (.tmp 46) 23 9 i0 _ 1 16 Try.underlying23 hi hz0 hz1 hz2 rfl (by decide) rfl w.heap.size _ (j + 1) (tC ds ++ tC [x]) rfl O2.out _ 0 [] rfl (hr3 _ _ _) rfl (tC_one []) (by omega) (by unfold maxLen; omega) B2.out.size ?_; intro v3 w3 h3 g3 _; rw [List.append_nil] at h3; have B3 : Hid (Below w.heap.size w w3) := B2.out.grown g3 B2.out.size (fun k e => (O2.out.lt k e).1); have O3 : Hid (w3.ownsRow w.heap.size 9 1 v3 (j + 1 + 0) (tC ds ++ tC [x])) := h3; clear h3 g3 t3))
            go_ret
            exact ⟨_, rfl, by rw [HF.out.2, ← HF.out.1]; exact own_base O3.out hB, B3.out, fun k hk => .inr (O3.out.lt k hk).1⟩

end Go.Proofs.Ytdaegnmokaibpaa
