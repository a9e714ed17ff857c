/- The document's Put of a store. -/
import Derived.Test.YtcmhjlflgedcdaaXP7
namespace Go.Proofs.Ytcmhjlflgedcdaa
open Go.RowKit
open Pl

theorem flat_take {α : Type} {f : α → List Value} {z : Nat} (hz : ∀ x, (f x).length = z) : ∀ (xs : List α) (k : Nat), (xs.flatMap f).take (k * z) = (xs.take k).flatMap f
  | [], k => by simp
  | a :: l, 0 => by simp
  | a :: l, k + 1 => by
    rw [List.flatMap_cons, List.take_succ_cons, List.flatMap_cons, ← flat_take hz l k, show (k + 1) * z = (f a).length + k * z from by rw [hz, Nat.add_mul, Nat.one_mul, Nat.add_comm], List.take_length_add_append]
theorem flat_drop {α : Type} {f : α → List Value} {z : Nat} (hz : ∀ x, (f x).length = z) : ∀ (xs : List α) (k : Nat), (xs.flatMap f).drop (k * z) = (xs.drop k).flatMap f
  | [], k => by simp
  | a :: l, 0 => by simp
  | a :: l, k + 1 => by
    rw [List.flatMap_cons, List.drop_succ_cons, ← flat_drop hz l k, show (k + 1) * z = (f a).length + k * z from by rw [hz, Nat.add_mul, Nat.one_mul, Nat.add_comm], List.drop_length_add_append]
theorem eC_take (K : List (En × Value)) (k : Nat) : (eC K).take (k * 6) = eC (K.take k) := flat_take (f := eVc) (z := 6) (fun _ => rfl) K k
theorem eC_drop (K : List (En × Value)) (k : Nat) : (eC K).drop (k * 6) = eC (K.drop k) := flat_drop (f := eVc) (z := 6) (fun _ => rfl) K k
theorem eVc_one {w : World} {base z n : Nat} {p : En × Value} {xs : List Value} (h : w.ownsRow base 9 z p.2 n xs) : ∀ u ∈ eVc p, u.oneCell' = true := by
  intro u hu
  obtain ⟨y, c, hv⟩ := row_shape h
  unfold eVc at hu
  rw [hv] at hu
  simp at hu
  rcases hu with rfl | rfl | rfl | rfl | rfl | rfl <;> rfl
theorem eC_one {w : World} {base z : Nat} {K : List (En × Value)} (h : ∀ p ∈ K, w.ownsRow base 9 z p.2 p.1.ds.length (tC p.1.ds)) : ∀ u ∈ eC K, u.oneCell' = true := by
  intro u hu
  unfold eC at hu
  obtain ⟨p, hp, hu⟩ := List.mem_flatMap.1 hu
  exact eVc_one (h p hp) u hu
theorem take_flt {M : List (En × Value)} {j : Nat} (hj : j < M.length) (P : En × Value → Bool) : (M.take (j + 1)).filter P = (M.take j).filter P ++ if P M[j] then [M[j]] else [] := by
  rw [List.take_succ_eq_append_getElem hj, List.filter_append]
  cases h : P M[j] <;> simp [h]
theorem blk_row {w : World} {B e z n g : Nat} {v : Value} {xs : List Value} {C : Array Value} {t : TypeId} (h : w.ownsRow B e z v n xs) (hb : Blk w g C t) (ht : t ≠ e) : ∀ k, v.ownBlock = some k → k ≠ g := by
  intro k hk e
  subst e
  rcases h.2 with ⟨h1, _⟩ | ⟨g', cap, cur, h1, _, hg, _⟩
  · rw [h1] at hk; simp [Value.ownBlock] at hk
  · rw [h1] at hk
    simp [Value.ownBlock] at hk
    subst hk
    unfold Blk at hb
    rw [hg] at hb
    simp at hb
    exact ht hb.2.symm

theorem minK_one (L : List En) : 0 = minK L 1 := by unfold minK; split <;> simp [minK]
theorem minK_at {K : List (En × Value)} {q k : Nat} (hq : q < K.length) (hk : k < K.length) (e : k = minK (fstL K) q) : minK (fstL K) (q + 1) = if ltE (K[q]).1 (K[k]).1 then q else k := by
  subst e
  have hl := fst_len K
  rw [minK_step (L := fstL K) (i := q) (by omega) (by omega)]
  simp only [fstL, List.getElem_map]
  rfl
/-- How far Put is: the row of what is left, and its own variables. -/
structure PW (w wr : World) (E S : Array Value) (lv : Value) (K : List (En × Value)) : Prop where
  own : wr.ownsRow (w.heap.size + 2) 36 6 lv K.length (eC K)
  b4 : Blk wr w.heap.size E 36
  b7 : Blk wr (w.heap.size + 1) S 34
  bel : Below w.heap.size w wr
theorem PW.below {w wr wn : World} {E S : Array Value} {lv : Value} {K : List (En × Value)} (h : PW w wr E S lv K) (hb : Below wr.heap.size wr wn) : PW w wn E S lv K := ⟨own_past h.own hb, h.b4.below hb, h.b7.below hb, next h.bel hb⟩
theorem PW.grow {w wr wn : World} {E S : Array Value} {lv lv' : Value} {K K' : List (En × Value)} (h : PW w wr E S lv K) (h1 : wn.ownsRow (w.heap.size + 2) 36 6 lv' K'.length (eC K')) (h2 : wr.grownBy wn lv.ownBlock) : PW w wn E S lv' K' := by
  have T : Turn (fun k => lv.ownBlock = some k) wr wn := Turn.of_grown h2 (fun k e => e)
  refine ⟨h1, T.blk h.b4 (fun e => by have := (h.own.lt _ e).1; omega), T.blk h.b7 (fun e => by have := (h.own.lt _ e).1; omega), Turn.below h.bel T h.bel.size (fun i hi => by have := (h.own.lt i hi).1; omega)⟩
theorem PW.fresh {w wr wn : World} {E S : Array Value} {lv lv' : Value} {K K' : List (En × Value)} (h : PW w wr E S lv K) (h1 : wn.ownsRow (w.heap.size + 2) 36 6 lv' K'.length (eC K')) (h2 : Below wr.heap.size wr wn) : PW w wn E S lv' K' := ⟨h1, h.b4.below h2, h.b7.below h2, next h.bel h2⟩
theorem PW.set {w wr : World} {E S : Array Value} {lv : Value} {K : List (En × Value)} (h : PW w wr E S lv K) (i : Nat) (x : Value) : PW w (wr.setCell ⟨w.heap.size + 1, i, none⟩ x) E (S.setIfInBounds i x) lv K :=
  ⟨ownsRow_setCell_below h.own (a := ⟨w.heap.size + 1, i, none⟩) (by show w.heap.size + 1 < _; omega) x, h.b4.other (by omega) _ _, h.b7.set i x, h.bel.setCell (p := ⟨w.heap.size + 1, i, none⟩) (by show w.heap.size ≤ w.heap.size + 1; omega) x⟩
/-- The blocks of the document's store. -/
def rfoot (gr : Nat) (V : Value) (M : List (En × Value)) (k : Nat) : Prop := k = gr ∨ V.ownBlock = some k ∨ ∃ p ∈ M, p.2.ownBlock = some k
/-- The end of Put. -/
theorem rput_end {B : Nat} {w w6 : World} {gr most : Nat} {V v5 v3 : Value} {M K : List (En × Value)} {E S : Array Value} {e : En} (h : RS B w gr most V M) (hB : B ≤ w.heap.size) (hK : ∀ p ∈ K, p ∈ M) (hl : K.length + 1 ≤ most) (he : OkE e) (hp : PW w w6 E S v5 (K ++ [(e, v3)])) (hd : w6.ownsRow (w.heap.size + 2) 9 1 v3 e.ds.length (tC e.ds)) :
    RS B (w6.setCell ⟨gr, 1, none⟩ v5) gr most v5 (K ++ [(e, v3)]) ∧ Turn (fun k => k = gr) w (w6.setCell ⟨gr, 1, none⟩ v5) ∧ ∀ k, rfoot gr v5 (K ++ [(e, v3)]) k → rfoot gr V M k ∨ w.heap.size ≤ k := by
  have hgr := h.blk.lt
  have h6 := h.below hp.bel
  have T : Turn (fun k => k = gr) w6 (w6.setCell ⟨gr, 1, none⟩ v5) := Turn.of_set (S := fun k => k = gr) w6 (p := ⟨gr, 1, none⟩) rfl v5
  refine ⟨⟨h6.blk.set 1 v5, ⟨own_base (ownsRow_setCell_below hp.own (a := ⟨gr, 1, none⟩) (by show gr < _; omega) v5) (by omega), fun p hp' => ?_⟩, by rw [List.length_append]; exact hl, h.m1, h.m2, fun p hp' => ?_⟩, (Turn.of_below hp.bel).same T, ?_⟩
  · rcases List.mem_append.1 hp' with hp' | hp'
    · have := h6.es.dat p (hK p hp')
      exact T.row this (fun k hk => blk_row this h6.blk (by decide) k hk)
    · simp at hp'
      subst hp'
      exact own_base (ownsRow_setCell_below hd (a := ⟨gr, 1, none⟩) (by show gr < _; omega) v5) (by omega)
  · rcases List.mem_append.1 hp' with hp' | hp'
    · exact h.ok p (hK p hp')
    · simp at hp'
      subst hp'
      exact he
  · rintro k (hx | hx | ⟨p, hp', hx⟩)
    · exact .inl (.inl hx)
    · exact .inr (by have := (hp.own.lt k hx).1; omega)
    · rcases List.mem_append.1 hp' with hp' | hp'
      · exact .inl (.inr (.inr ⟨p, hK p hp', hx⟩))
      · simp at hp'
        subst hp'
        exact .inr (by have := (hd.lt k hx).1; omega)

theorem tail_facts {w W : World} {n f : ByteArray} {t l r u : Int} {y : Option Addr} {N c : Nat} {ds : List ByteArray} {lv : Value} {K : List (En × Value)} (h : PW w W #[.string n, .int .i64 t, .int .i64 l, .slice y N c, .int .i64 r, .int .i64 u] #[.string n, .int .i64 t, .int .i64 l, .slice y N c] lv K) (hR : Row w (.slice y N c) ds.length (tC ds)) (hN : N = ds.length) :
    ∃ W1, W1 = W.setCell ⟨w.heap.size + 1, 0, none⟩ (.string f) ∧ Hid (PW w W1 #[.string n, .int .i64 t, .int .i64 l, .slice y N c, .int .i64 r, .int .i64 u] #[.string f, .int .i64 t, .int .i64 l, .slice y N c] lv K) ∧ W.cell? ⟨w.heap.size + 1, 0, none⟩ = some (.string n) ∧ W.frozen? ⟨w.heap.size + 1, 0, none⟩ = false ∧ (∀ o, ((W.setCell ⟨w.heap.size + 1, 0, none⟩ (.string f)).alloc o).cell? ⟨w.heap.size + 1, 3, none⟩ = some (.slice y N c)) ∧ Hid (Below W1.heap.size W1 (W1.alloc (.cells #[] 9))) ∧ Hid ((W1.alloc (.cells #[] 9)).ownsRow W1.heap.size 9 1 (.slice (some ⟨W.heap.size, 0, none⟩) 0 0) 0 []) ∧ Hid (Row (W1.alloc (.cells #[] 9)) (.slice y N c) N (tC ds)) ∧ w.heap.size + 1 < W1.heap.size := by
  obtain ⟨W1, hW1⟩ : ∃ W1, W1 = W.setCell ⟨w.heap.size + 1, 0, none⟩ (.string f) := ⟨_, rfl⟩
  have HP1 : PW w W1 #[.string n, .int .i64 t, .int .i64 l, .slice y N c, .int .i64 r, .int .i64 u] #[.string f, .int .i64 t, .int .i64 l, .slice y N c] lv K := by rw [hW1]; exact h.set 0 (.string f)
  have hb9 := lay (Below.refl W1.heap.size W1) (.cells #[] 9)
  refine ⟨W1, hW1, HP1, h.b7.cell 0, h.b7.frozen 0, fun o => by rw [← hW1]; exact (HP1.b7.alloc o).cell 3, hb9, ?_, ?_, HP1.b7.lt⟩
  · have e : W.heap.size = W1.heap.size := by rw [hW1]; simp
    rw [e]
    exact own_blk (B := W1.heap.size) (z := 1) (n := 0) (xs := []) (Blk.new W1 #[] 9) (Nat.le_refl _) rfl rfl (Nat.zero_le _)
  · have := (hR.below HP1.bel).below hb9
    rw [← hN] at this
    exact this
theorem cut_list {K : List (En × Value)} {k : Nat} (hk : k < K.length) : (K.take k ++ K.drop (k + 1)).length + 1 = K.length ∧ fstL (K.take k ++ K.drop (k + 1)) = (fstL K).eraseIdx k := by
  refine ⟨by simp; omega, ?_⟩
  unfold fstL
  rw [List.eraseIdx_eq_take_drop_succ, List.map_append, List.map_take, List.map_drop]
theorem cut_sub {K M : List (En × Value)} (h : ∀ p ∈ K, p ∈ M) (k : Nat) : ∀ p ∈ K.take k ++ K.drop (k + 1), p ∈ M := fun p hp => by
  rcases List.mem_append.1 hp with hp | hp
  · exact h p (List.mem_of_mem_take hp)
  · exact h p (List.mem_of_mem_drop hp)

set_option maxRecDepth 20000 in
set_option maxHeartbeats 8000000 in
theorem rput_yes {B : Nat} {w : World} {gr most : Nat} {V : Value} {M : List (En × Value)} (h : RS B w gr most V M) (hB : B ≤ w.heap.size) (n : ByteArray) (t l r u now : Int) (y : Option Addr) (c N : Nat) (ds : List ByteArray) (hn : n.size ≤ maxLen) (hN : N = ds.length) (hr : Row w (.slice y N c) ds.length (tC ds)) (hl : ds.length ≤ 8796093022000) (hs : ∀ d ∈ ds, d.size ≤ 140737488351232) (hm : mayE ⟨n, t, l, ds, r, u⟩ now = true) :
    Calls Try.prog 15 #[.pointer (some ⟨gr, 0, none⟩), .agg #[.string n, .int .i64 t, .int .i64 l, .slice y N c, .int .i64 r, .int .i64 u], .int .i64 now] w fun e w' => e = .returned (.int .i64 0) ∧ ∃ V' M', RS B w' gr most V' M' ∧ fstL M' = putP most (fstL M) ⟨n, t, l, ds, r, u⟩ now ∧ Turn (fun k => k = gr) w w' ∧ ∀ k, rfoot gr V' M' k → rfoot gr V M k ∨ w.heap.size ≤ k := by
  obtain ⟨i0, hi, hz0, hz1, hz2⟩ := info_parts infoEn
  obtain ⟨i9, hi9, hz90, hz91, hz92⟩ := info_parts info9'
  obtain ⟨hnm, t1, t2, hds, r1, r2, hnu, hn0, hnl⟩ := mayE_parts hm
  simp only at hnm t1 t2 hds r1 r2 hnu
  have hN0 : N ≠ 0 := by rw [hN]; intro e; exact hds (List.length_eq_zero_iff.1 e)
  have d0 : decide (t < 1) = false := by simp; omega
  have d1 : decide (65535 < t) = false := by simp; omega
  have d2 : ((N : Int) == 0) = false := by simp; omega
  have d3 : decide (r < 1) = false := by simp; omega
  have d4 : decide (3 < r) = false := by simp; omega
  have d5 : decide (u ≤ now) = false := by simp; omega
  have d6 : decide (now < 0) = false := by simp; omega
  have d7 : decide (1099511627776 < now) = false := by simp; omega
  obtain ⟨f, hf⟩ : ∃ f, f = fdB n := ⟨_, rfl⟩
  have HMAY : Hid (mayE ⟨n, t, l, ds, r, u⟩ now = true) := hm
  have HOK : Hid (OkE ⟨f, t, l, ds, r, u⟩) := by have := held_ok hm hl hs; unfold heldE at this; unfold Hid; rw [hf]; exact this
  have HPUT : Hid (∀ x, beatsP (fstL M) f t r now = x → putP most (fstL M) ⟨n, t, l, ds, r, u⟩ now = if x then fstL M else cutP most (leftP (fstL M) f t now) ++ [⟨f, t, l, ds, r, u⟩]) := fun x hx => by
    unfold putP heldE
    simp only
    rw [← hf, hm, hx]
    cases x <;> rfl
  have hmay : ∀ v, Calls Try.prog 24 #[.string n] v fun e w' => e = .returned (.bool true) ∧ Below v.heap.size v w' := fun v => by have := refMay_any n v hn; rw [hnm] at this; exact this
  have hfold := fun v => refFold_as n f v hn (by rw [hf, fdB_list])
  have hb0 : Below w.heap.size w ((w.alloc (.cells #[.string n, .int .i64 t, .int .i64 l, .slice y N c, .int .i64 r, .int .i64 u] 36)).alloc (.cells #[.string n, .int .i64 t, .int .i64 l, .slice y N c] 34)) := lay (lay (Below.refl _ _) _) _
  have k4 := (Blk.new w #[.string n, .int .i64 t, .int .i64 l, .slice y N c, .int .i64 r, .int .i64 u] 36).alloc (.cells #[.string n, .int .i64 t, .int .i64 l, .slice y N c] 34)
  have k7 := Blk.new (w.alloc (.cells #[.string n, .int .i64 t, .int .i64 l, .slice y N c, .int .i64 r, .int .i64 u] 36)) #[.string n, .int .i64 t, .int .i64 l, .slice y N c] 34
  rw [World.size_alloc] at k7
  have HN : Hid (N = ds.length) := hN
  have HR : Hid (Row w (.slice y N c) ds.length (tC ds)) := hr
  have HRS : Hid (RS B w gr most V M) := h
  have hm256 : M.length ≤ 256 := Nat.le_trans h.len h.m2
  have hNl : N ≤ 8796093022000 := by rw [hN]; exact hl
  obtain ⟨m, hmM⟩ : ∃ m, m = M.length := ⟨_, rfl⟩
  have HM : Hid (m = M.length) := hmM
  rw [← hmM] at hm256
  obtain ⟨yv, cv, hV⟩ := row_shape h.es.own
  rw [← hmM] at hV
  subst hV
  clear hN hr hl hs hm h hmM hf hnm hds hnu
  go_enter Try.func15, Try.ntmps15
  go_wp2_with (first
    | (go_at_call 24; go_must (refine (hmay _).mono ?_); rintro e w1 ⟨rfl, b1⟩; have K4 := k4.below b1; have K7 := k7.below b1; have B1 := next hb0 b1; have x4 := K4.cell 4; have x5 := K4.cell 5; have z0 := K7.cell 0; have z1 := K7.cell 1; have z3 := K7.cell 3; simp only [List.getElem?_toArray, List.getElem?_cons_succ, List.getElem?_cons_zero] at x4 x5 z0 z1 z3; clear b1)
    | (go_at_call 27; go_must (refine (hfold _).mono ?_); rintro e w2 ⟨rfl, b2⟩; have HPW : Hid (PW w w2 #[.string n, .int .i64 t, .int .i64 l, .slice y N c, .int .i64 r, .int .i64 u] #[.string n, .int .i64 t, .int .i64 l, .slice y N c] (.slice none 0 0) []) := ⟨World.ownsRow_nil _ _ _ _, K4.below b2, K7.below b2, next B1 b2⟩; clear b2 K4 K7 B1 x4 x5 z0 z1 z3 hmay hfold k4 k7 hb0))
  go_loopw [9, 10] (fun lv iv wr => ∃ (j NL cl : Nat) (yl : Option Addr) (K : List (En × Value)), lv = .slice yl NL cl ∧ iv = .int .i64 (j : Int) ∧ j ≤ m ∧ NL ≤ j ∧ Hid (K = (M.take j).filter (keepB f t now) ∧ NL = K.length) ∧ Hid (∀ q ∈ M.take j, ¬ (sameK f t q.1 = true ∧ now < q.1.u ∧ r < q.1.r)) ∧ Hid (PW w wr #[.string n, .int .i64 t, .int .i64 l, .slice y N c, .int .i64 r, .int .i64 u] #[.string n, .int .i64 t, .int .i64 l, .slice y N c] (.slice yl NL cl) K)) (fun _ i _ => m - (intOf i).toNat)
  case atStart => exact ⟨0, 0, 0, none, [], rfl, rfl, Nat.zero_le _, Nat.le_refl _, ⟨rfl, rfl⟩, fun q hq => by simp at hq, HPW⟩
  case round =>
    clear HPW
    obtain ⟨j, NL, cl, yl, K, rfl, rfl, hjm, hNj, HK, HNB, HP⟩ := hrel
    have HRR : Hid (RS B wr gr most (.slice yv m cv) M) := HRS.out.below HP.out.bel
    have cg : wr.cell? ⟨gr, 1, none⟩ = some (.slice yv m cv) := HRR.out.blk.cell 1
    have cg0 : wr.cell? ⟨gr, 0, none⟩ = some (.int .i64 (most : Int)) := HRR.out.blk.cell 0
    by_cases hj : j < m
    · have hj' : (j : Int) < (m : Int) := by omega
      have hjM : j < M.length := by rw [← HM.out]; exact hj
      obtain ⟨gv, cap, hyv, _, _⟩ := HRR.out.es.own.form (by omega)
      rw [← HM.out] at hyv
      simp only [Value.slice.injEq, true_and] at hyv
      obtain ⟨rfl, rfl⟩ := hyv
      obtain ⟨p, hp⟩ : ∃ p, p = M[j] := ⟨_, rfl⟩
      have hpM : p ∈ M := by rw [hp]; exact List.getElem_mem _
      have hcc : ∀ i, i < 6 → wr.cell? ⟨gv, j * 6 + i, none⟩ = (eVc p)[i]? := fun i hi' => by
        have h1 := HRR.out.es.own
        rw [← HM.out] at h1
        rw [h1.cellAt (j * 6 + i) (by omega), hp]
        exact eC_at hjM i hi'
      have HY : Hid (keepB f t now p = true → K ++ [p] = (M.take (j + 1)).filter (keepB f t now) ∧ NL + 1 = (K ++ [p]).length) := fun hk => by
        rw [take_flt hjM, ← hp, hk, ← HK.out.1, if_pos rfl, List.length_append, ← HK.out.2]; exact ⟨rfl, rfl⟩
      have HNo : Hid (keepB f t now p = false → K = (M.take (j + 1)).filter (keepB f t now) ∧ NL = K.length) := fun hk => by
        rw [take_flt hjM, ← hp, hk, ← HK.out.1, if_neg (by decide), List.append_nil]; exact ⟨rfl, HK.out.2⟩
      have HNB2 : Hid (¬ (sameK f t p.1 = true ∧ now < p.1.u ∧ r < p.1.r) → ∀ q ∈ M.take (j + 1), ¬ (sameK f t q.1 = true ∧ now < q.1.u ∧ r < q.1.r)) := fun hk q hq => by
        rw [List.take_succ_eq_append_getElem hjM, List.mem_append] at hq
        rcases hq with hq | hq
        · exact HNB.out q hq
        · simp at hq; rw [hq, ← hp]; exact hk
      have HBE : Hid (sameK f t p.1 = true ∧ now < p.1.u ∧ r < p.1.r → putP most (fstL M) ⟨n, t, l, ds, r, u⟩ now = fstL M) := fun hk => by
        have := HPUT.out true (by unfold beatsP; rw [List.any_eq_true]; exact ⟨p.1, List.mem_map.2 ⟨p, hpM, rfl⟩, by simp [hk.1, hk.2.1, hk.2.2]⟩)
        simpa using this
      have hdat := HRR.out.es.dat p hpM
      obtain ⟨qy, qc, hqd⟩ := row_shape hdat
      have c0 := hcc 0 (by decide)
      have c1 := hcc 1 (by decide)
      have c2 := hcc 2 (by decide)
      have c3 := hcc 3 (by decide)
      have c4 := hcc 4 (by decide)
      have c5 := hcc 5 (by decide)
      rw [Nat.add_zero] at c0
      clear hcc hp hpM hdat
      obtain ⟨⟨qn, qt, ql, qds, qr, qu⟩, qd⟩ := p
      simp only [keepB] at hqd HY HNo HNB2 HBE
      obtain ⟨qN, hqN⟩ : ∃ qN, qN = qds.length := ⟨_, rfl⟩
      rw [← hqN] at hqd
      subst hqd
      simp only [eVc, List.getElem?_cons_succ, List.getElem?_cons_zero] at c0 c1 c2 c3 c4 c5
      clear hqN
      have y1 : ∀ o, (wr.alloc o).cell? ⟨w.heap.size + 1, 1, none⟩ = some (.int .i64 t) := fun o => (HP.out.b7.alloc o).cell 1
      have y4 : ∀ o, (wr.alloc o).cell? ⟨w.heap.size, 4, none⟩ = some (.int .i64 r) := fun o => (HP.out.b4.alloc o).cell 4
      have HB1 : Hid (PW w (wr.alloc (.cells #[.string qn, .int .i64 qt, .int .i64 ql, .slice qy qN qc, .int .i64 qr, .int .i64 qu] 36)) #[.string n, .int .i64 t, .int .i64 l, .slice y N c, .int .i64 r, .int .i64 u] #[.string n, .int .i64 t, .int .i64 l, .slice y N c] (.slice yl NL cl) K) := HP.out.below ((Below.refl _ _).alloc (Nat.le_refl _) _)
      have HNK : Hid (NL = K.length) := HK.out.2
      clear HK HNB HP HRR
      by_cases en : qn = f
      · subst en
        have hnn : (qn.toList == qn.toList) = true := by simp
        by_cases et : qt = t
        · subst et
          by_cases hlv : now < qu
          · by_cases hrk : r < qr
            · have HEQ := HBE.out ⟨sameK_iff.2 ⟨rfl, rfl⟩, hlv, hrk⟩
              have HEQ' : Hid (fstL M = putP most (fstL M) ⟨n, qt, l, ds, r, u⟩ now) := HEQ.symm
              clear HEQ HBE HPUT HY HNo HNB2
              go_wp2
              go_ret
              exact ⟨rfl, _, M, HRS.out.below HB1.out.bel, HEQ'.out, Turn.of_below HB1.out.bel, fun k hk => .inl hk⟩
            · have hrk' : decide (r < qr) = false := by simpa using hrk
              have HN2 : Hid (∀ q ∈ M.take (j + 1), ¬ (sameK qn qt q.1 = true ∧ now < q.1.u ∧ r < q.1.r)) := HNB2.out (fun h => hrk h.2.2)
              have HNN : Hid (K = (M.take (j + 1)).filter (keepB qn qt now) ∧ NL = K.length) := HNo.out (by simp [sameK])
              clear HNo HY HNB2 HBE hrk
              go_wp2
              go_roundw
              case rel => exact ⟨j + 1, NL, cl, yl, K, rfl, by go_num, by omega, by omega, HNN, HN2, HB1⟩
              case measure => simp [intOf]; omega
          · have hlv' : decide (now < qu) = false := by simpa using hlv
            have HN2 : Hid (∀ q ∈ M.take (j + 1), ¬ (sameK qn qt q.1 = true ∧ now < q.1.u ∧ r < q.1.r)) := HNB2.out (fun h => hlv h.2.1)
            have HNN : Hid (K = (M.take (j + 1)).filter (keepB qn qt now) ∧ NL = K.length) := HNo.out (by simp [sameK])
            clear HNo HY HNB2 HBE hlv
            go_wp2
            go_roundw
            case rel => exact ⟨j + 1, NL, cl, yl, K, rfl, by go_num, by omega, by omega, HNN, HN2, HB1⟩
            case measure => simp [intOf]; omega
        · have htt : (qt == t) = false := by simpa using et
          have HN2 : Hid (∀ q ∈ M.take (j + 1), ¬ (sameK qn t q.1 = true ∧ now < q.1.u ∧ r < q.1.r)) := HNB2.out (fun h => et (sameK_iff.1 h.1).2)
          have hsk : sameK qn t ⟨qn, qt, ql, qds, qr, qu⟩ = false := by unfold sameK; simp [et]
          by_cases hlv : now < qu
          · have HYY : Hid (K ++ [(⟨qn, qt, ql, qds, qr, qu⟩, .slice qy qN qc)] = (M.take (j + 1)).filter (keepB qn t now) ∧ NL + 1 = (K ++ [((⟨qn, qt, ql, qds, qr, qu⟩ : En), Value.slice qy qN qc)]).length) := HY.out (by simp [hsk, hlv])
            clear HNo HY HNB2 HBE et hsk
            have HB2 : Hid (PW w ((wr.alloc (.cells #[.string qn, .int .i64 qt, .int .i64 ql, .slice qy qN qc, .int .i64 qr, .int .i64 qu] 36)).alloc (.cells #[.string qn, .int .i64 qt, .int .i64 ql, .slice qy qN qc, .int .i64 qr, .int .i64 qu] 36)) #[.string n, .int .i64 t, .int .i64 l, .slice y N c, .int .i64 r, .int .i64 u] #[.string n, .int .i64 t, .int .i64 l, .slice y N c] (.slice yl NL cl) K) := HB1.out.below ((Below.refl _ _).alloc (Nat.le_refl _) _)
            have HO2 : Hid (((wr.alloc (.cells #[.string qn, .int .i64 qt, .int .i64 ql, .slice qy qN qc, .int .i64 qr, .int .i64 qu] 36)).alloc (.cells #[.string qn, .int .i64 qt, .int .i64 ql, .slice qy qN qc, .int .i64 qr, .int .i64 qu] 36)).ownsRow (w.heap.size + 2) 36 6 (.slice yl NL cl) NL (eC K)) := by have := HB2.out.own; rw [← HNK.out] at this; exact this
            have HR2 := Row.of_blk (Blk.new (wr.alloc (.cells #[.string qn, .int .i64 qt, .int .i64 ql, .slice qy qN qc, .int .i64 qr, .int .i64 qu] 36)) #[.string qn, .int .i64 qt, .int .i64 ql, .slice qy qN qc, .int .i64 qr, .int .i64 qu] 36) (xs := [.string qn, .int .i64 qt, .int .i64 ql, .slice qy qN qc, .int .i64 qr, .int .i64 qu]) rfl 1 1
            rw [World.size_alloc] at HR2
            have hsz2 := HB2.out.b7.lt
            go_wp2_with (at_builtin; refine wpList_appG _ rfl (.tmp 116) (.tmp 118) 50 36 i0 _ 6 72 Try.underlying50 hi hz0 hz1 hz2 rfl (by decide) rfl (w.heap.size + 2) _ NL (eC K) rfl HO2.out _ 1 [.string qn, .int .i64 qt, .int .i64 ql, .slice qy qN qc, .int .i64 qr, .int .i64 qu] rfl HR2 rfl (fun v hv => by simp at hv; rcases hv with rfl | rfl | rfl | rfl | rfl | rfl <;> rfl) (by omega) (by unfold maxLen; omega) (by omega) ?_; intro v6 w6 h1 h3 _; obtain ⟨y6, c6, hv6⟩ := row_shape h1; subst hv6; have H6 : Hid (PW w w6 #[.string n, .int .i64 t, .int .i64 l, .slice y N c, .int .i64 r, .int .i64 u] #[.string n, .int .i64 t, .int .i64 l, .slice y N c] (.slice y6 (NL + 1) c6) (K ++ [(⟨qn, qt, ql, qds, qr, qu⟩, .slice qy qN qc)])) := PW.grow HB2.out (by rw [List.length_append, ← HNK.out, eC_app]; exact h1) h3; clear h1 h3)
            go_roundw
            case rel => exact ⟨j + 1, NL + 1, c6, y6, K ++ [(⟨qn, qt, ql, qds, qr, qu⟩, .slice qy qN qc)], rfl, by go_num, by omega, by omega, HYY, HN2, H6⟩
            case measure => simp [intOf]; omega
          · have hlv' : decide (now < qu) = false := by simpa using hlv
            have HNN : Hid (K = (M.take (j + 1)).filter (keepB qn t now) ∧ NL = K.length) := HNo.out (by simp [hlv])
            clear HNo HY HNB2 HBE hlv et hsk
            go_wp2
            go_roundw
            case rel => exact ⟨j + 1, NL, cl, yl, K, rfl, by go_num, by omega, by omega, HNN, HN2, HB1⟩
            case measure => simp [intOf]; omega
      · have hnn : (qn.toList == f.toList) = false := by rw [str_eqd]; simpa using en
        have HN2 : Hid (∀ q ∈ M.take (j + 1), ¬ (sameK f t q.1 = true ∧ now < q.1.u ∧ r < q.1.r)) := HNB2.out (fun h => en (sameK_iff.1 h.1).1)
        have hsk : sameK f t ⟨qn, qt, ql, qds, qr, qu⟩ = false := by unfold sameK; simp [en]
        by_cases hlv : now < qu
        · have HYY : Hid (K ++ [(⟨qn, qt, ql, qds, qr, qu⟩, .slice qy qN qc)] = (M.take (j + 1)).filter (keepB f t now) ∧ NL + 1 = (K ++ [((⟨qn, qt, ql, qds, qr, qu⟩ : En), Value.slice qy qN qc)]).length) := HY.out (by simp [hsk, hlv])
          clear HNo HY HNB2 HBE en hsk
          have HB2 : Hid (PW w ((wr.alloc (.cells #[.string qn, .int .i64 qt, .int .i64 ql, .slice qy qN qc, .int .i64 qr, .int .i64 qu] 36)).alloc (.cells #[.string qn, .int .i64 qt, .int .i64 ql, .slice qy qN qc, .int .i64 qr, .int .i64 qu] 36)) #[.string n, .int .i64 t, .int .i64 l, .slice y N c, .int .i64 r, .int .i64 u] #[.string n, .int .i64 t, .int .i64 l, .slice y N c] (.slice yl NL cl) K) := HB1.out.below ((Below.refl _ _).alloc (Nat.le_refl _) _)
          have HO2 : Hid (((wr.alloc (.cells #[.string qn, .int .i64 qt, .int .i64 ql, .slice qy qN qc, .int .i64 qr, .int .i64 qu] 36)).alloc (.cells #[.string qn, .int .i64 qt, .int .i64 ql, .slice qy qN qc, .int .i64 qr, .int .i64 qu] 36)).ownsRow (w.heap.size + 2) 36 6 (.slice yl NL cl) NL (eC K)) := by have := HB2.out.own; rw [← HNK.out] at this; exact this
          have HR2 := Row.of_blk (Blk.new (wr.alloc (.cells #[.string qn, .int .i64 qt, .int .i64 ql, .slice qy qN qc, .int .i64 qr, .int .i64 qu] 36)) #[.string qn, .int .i64 qt, .int .i64 ql, .slice qy qN qc, .int .i64 qr, .int .i64 qu] 36) (xs := [.string qn, .int .i64 qt, .int .i64 ql, .slice qy qN qc, .int .i64 qr, .int .i64 qu]) rfl 1 1
          rw [World.size_alloc] at HR2
          have hsz2 := HB2.out.b7.lt
          go_wp2_with (at_builtin; refine wpList_appG _ rfl (.tmp 116) (.tmp 118) 50 36 i0 _ 6 72 Try.underlying50 hi hz0 hz1 hz2 rfl (by decide) rfl (w.heap.size + 2) _ NL (eC K) rfl HO2.out _ 1 [.string qn, .int .i64 qt, .int .i64 ql, .slice qy qN qc, .int .i64 qr, .int .i64 qu] rfl HR2 rfl (fun v hv => by simp at hv; rcases hv with rfl | rfl | rfl | rfl | rfl | rfl <;> rfl) (by omega) (by unfold maxLen; omega) (by omega) ?_; intro v6 w6 h1 h3 _; obtain ⟨y6, c6, hv6⟩ := row_shape h1; subst hv6; have H6 : Hid (PW w w6 #[.string n, .int .i64 t, .int .i64 l, .slice y N c, .int .i64 r, .int .i64 u] #[.string n, .int .i64 t, .int .i64 l, .slice y N c] (.slice y6 (NL + 1) c6) (K ++ [(⟨qn, qt, ql, qds, qr, qu⟩, .slice qy qN qc)])) := PW.grow HB2.out (by rw [List.length_append, ← HNK.out, eC_app]; exact h1) h3; clear h1 h3)
          go_roundw
          case rel => exact ⟨j + 1, NL + 1, c6, y6, K ++ [(⟨qn, qt, ql, qds, qr, qu⟩, .slice qy qN qc)], rfl, by go_num, by omega, by omega, HYY, HN2, H6⟩
          case measure => simp [intOf]; omega
        · have hlv' : decide (now < qu) = false := by simpa using hlv
          have HNN : Hid (K = (M.take (j + 1)).filter (keepB f t now) ∧ NL = K.length) := HNo.out (by simp [hlv])
          clear HNo HY HNB2 HBE hlv en hsk
          go_wp2
          go_roundw
          case rel => exact ⟨j + 1, NL, cl, yl, K, rfl, by go_num, by omega, by omega, HNN, HN2, HB1⟩
          case measure => simp [intOf]; omega
    · have hj' : decide (j < m) = false := by simpa using hj
      have hKM : ∀ p ∈ K, p ∈ M := fun p hp => by rw [HK.out.1] at hp; exact List.mem_of_mem_take (List.mem_filter.1 hp).1
      have HKM : Hid (∀ p ∈ K, p ∈ M) := hKM
      have hKall : K = M.filter (keepB f t now) := by rw [HK.out.1, List.take_of_length_le (by rw [← HM.out]; omega)]
      have HFK : Hid (fstL K = leftP (fstL M) f t now) := by unfold Hid; rw [hKall, fst_filter]
      have HPP : Hid (putP most (fstL M) ⟨n, t, l, ds, r, u⟩ now = cutP most (fstL K) ++ [⟨f, t, l, ds, r, u⟩]) := by
        have := HPUT.out false (by
          unfold beatsP
          rw [List.any_eq_false]
          intro x hx
          obtain ⟨q, hq, rfl⟩ := List.mem_map.1 hx
          have := HNB.out q (by rw [List.take_of_length_le (by rw [← HM.out]; omega)]; exact hq)
          simp only [Bool.and_eq_true, decide_eq_true_eq, not_and]
          exact fun h1 h2 => this ⟨h1.1, h1.2, h2⟩)
        unfold Hid
        rw [this, HFK.out]; rfl
      have HNK : Hid (NL = K.length) := HK.out.2
      have HLM : Hid (K.length ≤ most) := by unfold Hid; rw [hKall]; exact Nat.le_trans (List.length_filter_le _ _) HRS.out.len
      have HMM : Hid (1 ≤ most ∧ most ≤ 256) := ⟨HRS.out.m1, HRS.out.m2⟩
      clear hKall HK HNB HPUT HFK
      by_cases hfull : NL = most
      · have hfe : ((NL : Int) == (most : Int)) = true := by rw [hfull]; simp
        have HFU : Hid (NL = most) := hfull
        clear hfull
        have hNL0 : 1 ≤ NL := by have := HFU.out; have := HMM.out.1; omega
        obtain ⟨gl, cap, hyl, _, _⟩ := HP.out.own.form (by rw [← HNK.out]; omega)
        rw [← HNK.out] at hyl
        simp only [Value.slice.injEq, true_and] at hyl
        obtain ⟨rfl, rfl⟩ := hyl
        go_wp2
        go_loopw [13, 14] (fun kv qv wq => ∃ k q : Nat, kv = .int .i64 (k : Int) ∧ qv = .int .i64 (q : Int) ∧ 1 ≤ q ∧ q ≤ NL ∧ k < NL ∧ Hid (k = minK (fstL K) q) ∧ Hid (PW w wq #[.string n, .int .i64 t, .int .i64 l, .slice y N c, .int .i64 r, .int .i64 u] #[.string n, .int .i64 t, .int .i64 l, .slice y N c] (.slice (some ⟨gl, 0, none⟩) NL cl) K)) (fun _ q _ => NL - (intOf q).toNat)
        case atStart => exact ⟨0, 1, rfl, rfl, Nat.le_refl _, hNL0, by omega, minK_one _, HP⟩
        case round =>
          clear HP HRR cg cg0
          obtain ⟨k, q, rfl, rfl, hq1, hqN, hkN, HKQ, HP⟩ := hrel
          by_cases hq : q < NL
          · have hq' : (q : Int) < (NL : Int) := by omega
            have hk' : (k : Int) < (NL : Int) := by omega
            have hqK : q < K.length := by rw [← HNK.out]; exact hq
            have hkK : k < K.length := by rw [← HNK.out]; exact hkN
            have HOW : Hid (wr.ownsRow (w.heap.size + 2) 36 6 (.slice (some ⟨gl, 0, none⟩) NL cl) NL (eC K)) := by have := HP.out.own; rw [← HNK.out] at this; exact this
            have HST : Hid (minK (fstL K) (q + 1) = if ltE (K[q]).1 (K[k]).1 then q else k) := minK_at hqK hkK HKQ.out
            have HSA : Hid ((K[q]).1.n.size ≤ maxLen) := max_ok (HRS.out.ok _ (HKM.out _ (List.getElem_mem hqK))).k
            have HSB : Hid ((K[k]).1.n.size ≤ maxLen) := max_ok (HRS.out.ok _ (HKM.out _ (List.getElem_mem hkK))).k
            obtain ⟨a, ha⟩ : ∃ a, a = (K[q]).1 := ⟨_, rfl⟩
            obtain ⟨b, hb⟩ : ∃ b, b = (K[k]).1 := ⟨_, rfl⟩
            have ca : ∀ i, i < 6 → i ≠ 3 → ∀ nb : Bel wr, nb.to.cell? ⟨gl, q * 6 + i, none⟩ = (eVc (a, .bool true))[i]? := fun i hi' h3 nb => by
              rw [(own_past HOW.out nb.h).cellAt (q * 6 + i) (by omega), eC_at hqK i hi', ha]
              match i, hi', h3 with
              | 0, _, _ => rfl
              | 1, _, _ => rfl
              | 2, _, _ => rfl
              | 4, _, _ => rfl
              | 5, _, _ => rfl
            have cb : ∀ i, i < 6 → i ≠ 3 → ∀ nb : Bel wr, nb.to.cell? ⟨gl, k * 6 + i, none⟩ = (eVc (b, .bool true))[i]? := fun i hi' h3 nb => by
              rw [(own_past HOW.out nb.h).cellAt (k * 6 + i) (by omega), eC_at hkK i hi', hb]
              match i, hi', h3 with
              | 0, _, _ => rfl
              | 1, _, _ => rfl
              | 2, _, _ => rfl
              | 4, _, _ => rfl
              | 5, _, _ => rfl
            have a0 := ca 0 (by decide) (by decide)
            have a1 := ca 1 (by decide) (by decide)
            have a5 := ca 5 (by decide) (by decide)
            have b0 := cb 0 (by decide) (by decide)
            have b1 := cb 1 (by decide) (by decide)
            have b5 := cb 5 (by decide) (by decide)
            rw [← ha] at HSA HST
            rw [← hb] at HSB HST
            clear ca cb ha hb hqK hkK
            obtain ⟨an, at', al, ads, ar, au⟩ := a
            obtain ⟨bn, bt, bl, bds, br, bu⟩ := b
            simp only [eVc, List.getElem?_cons_succ, List.getElem?_cons_zero, Nat.add_zero] at a0 a1 a5 b0 b1 b5 HSA HSB
            unfold ltE at HST
            simp only at HST
            by_cases hlt : au < bu
            · have HS' : Hid (minK (fstL K) (q + 1) = q) := by unfold Hid; have := HST.out; simpa [hlt] using this
              clear HST
              go_wp2
              refine wp_region_bel (by kernel_rfl) (by kernel_rfl) (fun _ => ?_)
              repeat (go_big_quiet_step (fail))
              refine wpQuiet_nil ?_
              intro wn hwn
              have H5 : Hid (PW w wn #[.string n, .int .i64 t, .int .i64 l, .slice y N c, .int .i64 r, .int .i64 u] #[.string n, .int .i64 t, .int .i64 l, .slice y N c] (.slice (some ⟨gl, 0, none⟩) NL cl) K) := HP.out.below (bel_out hwn)
              clear hwn HP a0 a1 a5 b0 b1 b5 HOW
              go_wp2
              go_roundw
              case rel => exact ⟨q, q + 1, rfl, by go_num, by omega, by omega, by omega, HS'.out.symm, H5⟩
              case measure => simp [intOf]; omega
            · have hlt' : decide (au < bu) = false := by simpa using hlt
              by_cases heq : au = bu
              · subst heq
                have HBF : Hid (∀ v x, decide (cK an at' bn bt < 0) = x → Calls Try.prog 37 #[.string an, .int .i64 at', .string bn, .int .i64 bt] v fun e w' => e = .returned (.bool x) ∧ Below v.heap.size v w') := fun v x hx => before_any an bn at' bt v HSA.out HSB.out x hx
                cases hx : decide (cK an at' bn bt < 0) with
                | true =>
                  have HS' : Hid (minK (fstL K) (q + 1) = q) := by unfold Hid; have := HST.out; rw [hx] at this; simpa using this
                  have S := fun nb : Bel wr => HBF.out nb.to true hx
                  clear HST hx HBF
                  go_wp2
                  refine wp_region_bel (by kernel_rfl) (by kernel_rfl) (fun _ => ?_)
                  repeat (go_big_quiet_step ((go_at_call 37; go_must (exact bel_lays (S _)))))
                  refine wpQuiet_nil ?_
                  intro wn hwn
                  have H5 : Hid (PW w wn #[.string n, .int .i64 t, .int .i64 l, .slice y N c, .int .i64 r, .int .i64 u] #[.string n, .int .i64 t, .int .i64 l, .slice y N c] (.slice (some ⟨gl, 0, none⟩) NL cl) K) := HP.out.below (bel_out hwn)
                  clear hwn HP a0 a1 a5 b0 b1 b5 HOW S
                  go_wp2
                  go_roundw
                  case rel => exact ⟨q, q + 1, rfl, by go_num, by omega, by omega, by omega, HS'.out.symm, H5⟩
                  case measure => simp [intOf]; omega
                | false =>
                  have HS' : Hid (minK (fstL K) (q + 1) = k) := by unfold Hid; have := HST.out; rw [hx] at this; simpa using this
                  have S := fun nb : Bel wr => HBF.out nb.to false hx
                  clear HST hx HBF
                  go_wp2
                  refine wp_region_bel (by kernel_rfl) (by kernel_rfl) (fun _ => ?_)
                  repeat (go_big_quiet_step ((go_at_call 37; go_must (exact bel_lays (S _)))))
                  refine wpQuiet_nil ?_
                  intro wn hwn
                  have H5 : Hid (PW w wn #[.string n, .int .i64 t, .int .i64 l, .slice y N c, .int .i64 r, .int .i64 u] #[.string n, .int .i64 t, .int .i64 l, .slice y N c] (.slice (some ⟨gl, 0, none⟩) NL cl) K) := HP.out.below (bel_out hwn)
                  clear hwn HP a0 a1 a5 b0 b1 b5 HOW S
                  go_wp2
                  go_roundw
                  case rel => exact ⟨k, q + 1, rfl, by go_num, by omega, by omega, by omega, HS'.out.symm, H5⟩
                  case measure => simp [intOf]; omega
              · have heq' : (au == bu) = false := by simpa using heq
                have HS' : Hid (minK (fstL K) (q + 1) = k) := by unfold Hid; have := HST.out; simpa [hlt, heq] using this
                clear HST heq hlt
                go_wp2
                refine wp_region_bel (by kernel_rfl) (by kernel_rfl) (fun _ => ?_)
                repeat (go_big_quiet_step (fail))
                refine wpQuiet_nil ?_
                intro wn hwn
                have H5 : Hid (PW w wn #[.string n, .int .i64 t, .int .i64 l, .slice y N c, .int .i64 r, .int .i64 u] #[.string n, .int .i64 t, .int .i64 l, .slice y N c] (.slice (some ⟨gl, 0, none⟩) NL cl) K) := HP.out.below (bel_out hwn)
                clear hwn HP a0 a1 a5 b0 b1 b5 HOW
                go_wp2
                go_roundw
                case rel => exact ⟨k, q + 1, rfl, by go_num, by omega, by omega, by omega, HS'.out.symm, H5⟩
                case measure => simp [intOf]; omega
          · obtain rfl : NL = q := by omega
            have hq' : decide (NL < NL) = false := by simp
            have hkK : k < K.length := by rw [← HNK.out]; exact hkN
            have HKP : k = minP (fstL K) := by unfold minP; rw [fst_len, ← HNK.out]; exact HKQ.out
            obtain ⟨K2, hK2⟩ : ∃ K2, K2 = K.take k ++ K.drop (k + 1) := ⟨_, rfl⟩
            obtain ⟨NN, hNN⟩ : ∃ NN, NN = k + (NL - (k + 1)) := ⟨_, rfl⟩
            have HNE : Hid (k + (NL - (k + 1)) = NN) := hNN.symm
            have hcl := cut_list hkK
            have HLN : Hid (NN = K2.length) := by unfold Hid; rw [hK2, hNN]; have := hcl.1; have := HNK.out; omega
            have hNNb : NN < 256 := by have := HLM.out; have := HMM.out.2; have := HNK.out; omega
            have HLL : Hid (K2.length + 1 ≤ most) := by unfold Hid; rw [hK2, hcl.1]; exact HLM.out
            have HSB : Hid (∀ p ∈ K2, p ∈ M) := by unfold Hid; rw [hK2]; exact cut_sub HKM.out k
            have HEQ : Hid (∀ v, fstL (K2 ++ [(⟨f, t, l, ds, r, u⟩, v)]) = putP most (fstL M) ⟨n, t, l, ds, r, u⟩ now) := fun v => by
              rw [HPP.out, fst_app, hK2, hcl.2]
              unfold cutP
              rw [if_pos (by rw [fst_len, ← HNK.out]; exact HFU.out), ← HKP]
              rfl
            have hdat : ∀ p ∈ K, w.ownsRow B 9 1 p.2 p.1.ds.length (tC p.1.ds) := fun p hp => HRS.out.es.dat p (HKM.out p hp)
            have HC1 : Hid (∀ x ∈ (eC K).take (k * 6), x.oneCell' = true) := fun x hx => eC_one hdat x (List.mem_of_mem_take hx)
            have HC2 : Hid (∀ x ∈ (eC K).drop ((k + 1) * 6), x.oneCell' = true) := fun x hx => eC_one hdat x (List.mem_of_mem_drop hx)
            have HLA : Hid (((eC K).take (k * 6)).length = k * 6) := by unfold Hid; rw [List.length_take, eC_len]; omega
            have HLD : Hid (((eC K).drop ((k + 1) * 6)).length = (NL - (k + 1)) * 6) := by unfold Hid; rw [List.length_drop, eC_len, ← HNK.out, Nat.sub_mul]
            have HAP : Hid ((eC K).take (k * 6) ++ (eC K).drop ((k + 1) * 6) = eC K2) := by unfold Hid; rw [eC_take, eC_drop, hK2, eC_app]
            have hkN1 : k + 1 ≤ NL := hkN
            have HBE : Hid (Below wr.heap.size wr (wr.alloc (.cells #[] 36))) := lay (Below.refl _ _) _
            have HPA : Hid (PW w (wr.alloc (.cells #[] 36)) #[.string n, .int .i64 t, .int .i64 l, .slice y N c, .int .i64 r, .int .i64 u] #[.string n, .int .i64 t, .int .i64 l, .slice y N c] (.slice (some ⟨gl, 0, none⟩) NL cl) K) := HP.out.below HBE.out
            have HOA : Hid ((wr.alloc (.cells #[] 36)).ownsRow (w.heap.size + 2) 36 6 (.slice (some ⟨gl, 0, none⟩) NL cl) NL (eC K)) := by have := HPA.out.own; rw [← HNK.out] at this; exact this
            have HOE : Hid ((wr.alloc (.cells #[] 36)).ownsRow wr.heap.size 36 6 (.slice (some ⟨wr.heap.size, 0, none⟩) 0 0) 0 []) := own_blk (B := wr.heap.size) (z := 6) (n := 0) (xs := []) (Blk.new wr #[] 36) (Nat.le_refl _) rfl rfl (Nat.zero_le _)
            have hszr := HP.out.b7.lt
            have tk3 : True := trivial
            have tk4 : True := trivial
            have tk5 : True := trivial
            have tk6 : True := trivial
            clear HPP HKP hcl hdat hkK hNN hK2 HKQ HPA
            have tk1 : True := trivial
            have tk2 : True := trivial
            go_wp2_with (first
              | (have _t := tk3; refine wpList_sliceTo _ rfl (.tmp 186) (.tmp 187) 50 36 (w.heap.size + 2) 6 Try.underlying50 (Try.sizeOf36 _) rfl _ NL k (eC K) rfl rfl HOA.out (by omega) ?_; intro va hra; clear tk3)
              | (at_builtin; have _t := tk4; refine wpList_appG _ rfl (.tmp 185) (.tmp 188) 50 36 i0 _ 6 72 Try.underlying50 hi hz0 hz1 hz2 rfl (by decide) rfl wr.heap.size _ 0 [] rfl HOE.out _ k ((eC K).take (k * 6)) rfl hra HLA.out HC1.out (by omega) (by unfold maxLen; omega) HBE.out.size ?_; intro v7 w7 h1 h3 _; rw [Nat.zero_add, List.nil_append] at h1; have B7 : Below wr.heap.size wr w7 := HBE.out.grown h3 HBE.out.size (fun i e => (HOE.out.lt i e).1); have HPB : Hid (PW w w7 #[.string n, .int .i64 t, .int .i64 l, .slice y N c, .int .i64 r, .int .i64 u] #[.string n, .int .i64 t, .int .i64 l, .slice y N c] (.slice (some ⟨gl, 0, none⟩) NL cl) K) := HP.out.below B7; have HOB : Hid (w7.ownsRow (w.heap.size + 2) 36 6 (.slice (some ⟨gl, 0, none⟩) NL cl) NL (eC K)) := (by have := HPB.out.own; rw [← HNK.out] at this; exact this); have H17 : Hid (w7.ownsRow wr.heap.size 36 6 v7 k ((eC K).take (k * 6))) := h1; have HB7 : Hid (Below wr.heap.size wr w7) := B7; clear h1 h3 tk4 B7 hra)
              | (have _t := tk5; refine wpList_sliceFrom _ rfl (.tmp 191) (.tmp 193) 50 36 (w.heap.size + 2) 6 Try.underlying50 (Try.sizeOf36 _) rfl _ NL (k + 1) (eC K) rfl rfl HOB.out (by omega) ?_; intro vb hrb; clear tk5)
              | (at_builtin; have _t := tk6; refine wpList_appG _ rfl (.tmp 190) (.tmp 194) 50 36 i0 _ 6 72 Try.underlying50 hi hz0 hz1 hz2 rfl (by decide) rfl wr.heap.size _ k ((eC K).take (k * 6)) rfl H17.out _ (NL - (k + 1)) ((eC K).drop ((k + 1) * 6)) rfl hrb HLD.out HC2.out (by omega) (by unfold maxLen; omega) HB7.out.size ?_; intro v8 w8 h1 h3 _; rw [HAP.out, HNE.out] at h1; have B8 : Below wr.heap.size wr w8 := HB7.out.grown h3 HB7.out.size (fun i e => (H17.out.lt i e).1); obtain ⟨y8, c8, hv8⟩ := row_shape h1; subst hv8; have HP8 : Hid (PW w w8 #[.string n, .int .i64 t, .int .i64 l, .slice y N c, .int .i64 r, .int .i64 u] #[.string n, .int .i64 t, .int .i64 l, .slice y N c] (.slice y8 NN c8) K2) := PW.fresh HP.out (by rw [← HLN.out]; exact own_base h1 (by omega)) B8; obtain ⟨W1, hW1, HP1, s0, s0f, s3a, HB9, HOWN9, HR9, hsz1⟩ := tail_facts (f := f) HP8.out HR.out HN.out; clear h1 h3 tk6 B8 hrb H17 HB7 HPB HOB)
              | (at_builtin; have _t := tk1; rw [← hW1]; refine wpList_appG _ rfl (.tmp 199) (.tmp 201) 32 9 i9 _ 1 16 Try.underlying32 hi9 hz90 hz91 hz92 rfl (by decide) rfl W1.heap.size _ 0 [] rfl HOWN9.out _ N (tC ds) rfl HR9.out (by rw [tC_len, ← HN.out, Nat.mul_one]) (tC_one ds) (by omega) (by unfold maxLen; omega) HB9.out.size ?_; intro v3 w3 h1 h3 _; rw [Nat.zero_add, List.nil_append] at h1; obtain ⟨y3, c3', hv3⟩ := row_shape h1; subst hv3; have B3 : Below W1.heap.size W1 w3 := HB9.out.grown h3 HB9.out.size (fun k e => (HOWN9.out.lt k e).1); have HP3 : Hid (PW w w3 #[.string n, .int .i64 t, .int .i64 l, .slice y N c, .int .i64 r, .int .i64 u] #[.string f, .int .i64 t, .int .i64 l, .slice y N c] (.slice y8 NN c8) K2) := HP1.out.below B3; have HD3 : Hid (w3.ownsRow (w.heap.size + 2) 9 1 (.slice y3 N c3') N (tC ds)) := own_base h1 (by omega); have q3 : w3.cell? ⟨w.heap.size + 1, 3, none⟩ = some (.slice y N c) := HP3.out.b7.cell 3; have q3f := HP3.out.b7.frozen 3; have HP4 : Hid (PW w (w3.setCell ⟨w.heap.size + 1, 3, none⟩ (.slice y3 N c3')) #[.string n, .int .i64 t, .int .i64 l, .slice y N c, .int .i64 r, .int .i64 u] #[.string f, .int .i64 t, .int .i64 l, .slice y3 N c3'] (.slice y8 NN c8) K2) := HP3.out.set 3 _; have HD4 : Hid ((w3.setCell ⟨w.heap.size + 1, 3, none⟩ (.slice y3 N c3')).ownsRow (w.heap.size + 2) 9 1 (.slice y3 N c3') N (tC ds)) := ownsRow_setCell_below HD3.out (a := ⟨w.heap.size + 1, 3, none⟩) (by show w.heap.size + 1 < _; omega) _; obtain ⟨W4, hW4⟩ : ∃ W4, W4 = w3.setCell ⟨w.heap.size + 1, 3, none⟩ (.slice y3 N c3') := ⟨_, rfl⟩; rw [← hW4] at HP4 HD4; have m0 : W4.cell? ⟨w.heap.size + 1, 0, none⟩ = some (.string f) := HP4.out.b7.cell 0; have m1 : W4.cell? ⟨w.heap.size + 1, 1, none⟩ = some (.int .i64 t) := HP4.out.b7.cell 1; have m2 : W4.cell? ⟨w.heap.size + 1, 2, none⟩ = some (.int .i64 l) := HP4.out.b7.cell 2; have m3 : W4.cell? ⟨w.heap.size + 1, 3, none⟩ = some (.slice y3 N c3') := HP4.out.b7.cell 3; have m4 : W4.cell? ⟨w.heap.size, 4, none⟩ = some (.int .i64 r) := HP4.out.b4.cell 4; have m5 : W4.cell? ⟨w.heap.size, 5, none⟩ = some (.int .i64 u) := HP4.out.b4.cell 5; rw [hW4] at m0 m1 m2 m3 m4 m5; have HP5 : Hid (PW w (W4.alloc (.cells #[.string f, .int .i64 t, .int .i64 l, .slice y3 N c3', .int .i64 r, .int .i64 u] 36)) #[.string n, .int .i64 t, .int .i64 l, .slice y N c, .int .i64 r, .int .i64 u] #[.string f, .int .i64 t, .int .i64 l, .slice y3 N c3'] (.slice y8 NN c8) K2) := HP4.out.below ((Below.refl _ _).alloc (Nat.le_refl _) _); have HD5 : Hid ((W4.alloc (.cells #[.string f, .int .i64 t, .int .i64 l, .slice y3 N c3', .int .i64 r, .int .i64 u] 36)).ownsRow (w.heap.size + 2) 9 1 (.slice y3 N c3') N (tC ds)) := HD4.out.alloc _; have HO5 : Hid ((W4.alloc (.cells #[.string f, .int .i64 t, .int .i64 l, .slice y3 N c3', .int .i64 r, .int .i64 u] 36)).ownsRow (w.heap.size + 2) 36 6 (.slice y8 NN c8) NN (eC K2)) := (by have := HP5.out.own; rw [← HLN.out] at this; exact this); have HR5 := Row.of_blk (Blk.new W4 #[.string f, .int .i64 t, .int .i64 l, .slice y3 N c3', .int .i64 r, .int .i64 u] 36) (xs := [.string f, .int .i64 t, .int .i64 l, .slice y3 N c3', .int .i64 r, .int .i64 u]) rfl 1 1; have hsz5 := HP5.out.b7.lt; rw [hW4] at HP5 HD5 HO5 HR5 hsz5; rw [World.size_setCell] at HR5; clear h1 h3 tk1)
              | (at_builtin; have _t := tk2; refine wpList_appG _ rfl (.tmp 204) (.tmp 211) 50 36 i0 _ 6 72 Try.underlying50 hi hz0 hz1 hz2 rfl (by decide) rfl (w.heap.size + 2) _ NN (eC K2) rfl HO5.out _ 1 [.string f, .int .i64 t, .int .i64 l, .slice y3 N c3', .int .i64 r, .int .i64 u] rfl HR5 rfl (fun v hv => by simp at hv; rcases hv with rfl | rfl | rfl | rfl | rfl | rfl <;> rfl) (by omega) (by unfold maxLen; omega) (by omega) ?_; intro v6 w6 h1 h3 _; obtain ⟨y6, c6, hv6⟩ := row_shape h1; subst hv6; have HP6 : Hid (PW w w6 #[.string n, .int .i64 t, .int .i64 l, .slice y N c, .int .i64 r, .int .i64 u] #[.string f, .int .i64 t, .int .i64 l, .slice y3 N c3'] (.slice y6 (NN + 1) c6) (K2 ++ [(⟨f, t, l, ds, r, u⟩, .slice y3 N c3')])) := PW.grow HP5.out (by rw [List.length_append, ← HLN.out, eC_app]; exact h1) h3; have HD6 : Hid (w6.ownsRow (w.heap.size + 2) 9 1 (.slice y3 N c3') N (tC ds)) := (Turn.of_grown (S := fun k => (Value.slice y8 NN c8).ownBlock = some k) h3 (fun k e => e)).row HD5.out (fun _ hk e => own_apart HD5.out HO5.out (by decide) hk e); have cgz : w6.cell? ⟨gr, 1, none⟩ = some (.slice yv m cv) := (HRS.out.below HP6.out.bel).blk.cell 1; have cgf := (HRS.out.below HP6.out.bel).blk.frozen 1; clear h1 h3 tk2))
            go_ret
            have hend := rput_end HRS.out hB (K := K2) HSB.out HLL.out HOK.out HP6.out (by have := HD6.out; rw [HN.out] at this; rw [HN.out]; exact this)
            exact ⟨rfl, _, _, hend.1, HEQ.out _, hend.2.1, hend.2.2⟩
      · have hfe : ((NL : Int) == (most : Int)) = false := by rw [beq_eq_false_iff_ne]; omega
        have HLL : Hid (K.length + 1 ≤ most) := by unfold Hid; have := HLM.out; have := HNK.out; omega
        have HEQ : Hid (∀ v, fstL (K ++ [(⟨f, t, l, ds, r, u⟩, v)]) = putP most (fstL M) ⟨n, t, l, ds, r, u⟩ now) := fun v => by
          rw [HPP.out, fst_app]
          unfold cutP
          rw [if_neg (by rw [fst_len, ← HNK.out]; exact hfull)]
          rfl
        clear HPP hfull
        obtain ⟨W1, hW1, HP1, s0, s0f, s3a, HB9, HOWN9, HR9, hsz1⟩ := tail_facts (f := f) HP.out HR.out HN.out
        have tk1 : True := trivial
        have tk2 : True := trivial
        go_wp2_with (first
          | (at_builtin; have _t := tk1; rw [← hW1]; refine wpList_appG _ rfl (.tmp 199) (.tmp 201) 32 9 i9 _ 1 16 Try.underlying32 hi9 hz90 hz91 hz92 rfl (by decide) rfl W1.heap.size _ 0 [] rfl HOWN9.out _ N (tC ds) rfl HR9.out (by rw [tC_len, ← HN.out, Nat.mul_one]) (tC_one ds) (by omega) (by unfold maxLen; omega) HB9.out.size ?_; intro v3 w3 h1 h3 _; rw [Nat.zero_add, List.nil_append] at h1; obtain ⟨y3, c3', hv3⟩ := row_shape h1; subst hv3; have B3 : Below W1.heap.size W1 w3 := HB9.out.grown h3 HB9.out.size (fun k e => (HOWN9.out.lt k e).1); have HP3 : Hid (PW w w3 #[.string n, .int .i64 t, .int .i64 l, .slice y N c, .int .i64 r, .int .i64 u] #[.string f, .int .i64 t, .int .i64 l, .slice y N c] (.slice yl NL cl) K) := HP1.out.below B3; have HD3 : Hid (w3.ownsRow (w.heap.size + 2) 9 1 (.slice y3 N c3') N (tC ds)) := own_base h1 (by omega); have q3 : w3.cell? ⟨w.heap.size + 1, 3, none⟩ = some (.slice y N c) := HP3.out.b7.cell 3; have q3f := HP3.out.b7.frozen 3; have HP4 : Hid (PW w (w3.setCell ⟨w.heap.size + 1, 3, none⟩ (.slice y3 N c3')) #[.string n, .int .i64 t, .int .i64 l, .slice y N c, .int .i64 r, .int .i64 u] #[.string f, .int .i64 t, .int .i64 l, .slice y3 N c3'] (.slice yl NL cl) K) := HP3.out.set 3 _; have HD4 : Hid ((w3.setCell ⟨w.heap.size + 1, 3, none⟩ (.slice y3 N c3')).ownsRow (w.heap.size + 2) 9 1 (.slice y3 N c3') N (tC ds)) := ownsRow_setCell_below HD3.out (a := ⟨w.heap.size + 1, 3, none⟩) (by show w.heap.size + 1 < _; omega) _; obtain ⟨W4, hW4⟩ : ∃ W4, W4 = w3.setCell ⟨w.heap.size + 1, 3, none⟩ (.slice y3 N c3') := ⟨_, rfl⟩; rw [← hW4] at HP4 HD4; have m0 : W4.cell? ⟨w.heap.size + 1, 0, none⟩ = some (.string f) := HP4.out.b7.cell 0; have m1 : W4.cell? ⟨w.heap.size + 1, 1, none⟩ = some (.int .i64 t) := HP4.out.b7.cell 1; have m2 : W4.cell? ⟨w.heap.size + 1, 2, none⟩ = some (.int .i64 l) := HP4.out.b7.cell 2; have m3 : W4.cell? ⟨w.heap.size + 1, 3, none⟩ = some (.slice y3 N c3') := HP4.out.b7.cell 3; have m4 : W4.cell? ⟨w.heap.size, 4, none⟩ = some (.int .i64 r) := HP4.out.b4.cell 4; have m5 : W4.cell? ⟨w.heap.size, 5, none⟩ = some (.int .i64 u) := HP4.out.b4.cell 5; rw [hW4] at m0 m1 m2 m3 m4 m5; have HP5 : Hid (PW w (W4.alloc (.cells #[.string f, .int .i64 t, .int .i64 l, .slice y3 N c3', .int .i64 r, .int .i64 u] 36)) #[.string n, .int .i64 t, .int .i64 l, .slice y N c, .int .i64 r, .int .i64 u] #[.string f, .int .i64 t, .int .i64 l, .slice y3 N c3'] (.slice yl NL cl) K) := HP4.out.below ((Below.refl _ _).alloc (Nat.le_refl _) _); have HD5 : Hid ((W4.alloc (.cells #[.string f, .int .i64 t, .int .i64 l, .slice y3 N c3', .int .i64 r, .int .i64 u] 36)).ownsRow (w.heap.size + 2) 9 1 (.slice y3 N c3') N (tC ds)) := HD4.out.alloc _; have HO5 : Hid ((W4.alloc (.cells #[.string f, .int .i64 t, .int .i64 l, .slice y3 N c3', .int .i64 r, .int .i64 u] 36)).ownsRow (w.heap.size + 2) 36 6 (.slice yl NL cl) NL (eC K)) := (by have := HP5.out.own; rw [← HNK.out] at this; exact this); have HR5 := Row.of_blk (Blk.new W4 #[.string f, .int .i64 t, .int .i64 l, .slice y3 N c3', .int .i64 r, .int .i64 u] 36) (xs := [.string f, .int .i64 t, .int .i64 l, .slice y3 N c3', .int .i64 r, .int .i64 u]) rfl 1 1; have hsz5 := HP5.out.b7.lt; rw [hW4] at HP5 HD5 HO5 HR5 hsz5; rw [World.size_setCell] at HR5; clear h1 h3 tk1)
          | (at_builtin; have _t := tk2; refine wpList_appG _ rfl (.tmp 204) (.tmp 211) 50 36 i0 _ 6 72 Try.underlying50 hi hz0 hz1 hz2 rfl (by decide) rfl (w.heap.size + 2) _ NL (eC K) rfl HO5.out _ 1 [.string f, .int .i64 t, .int .i64 l, .slice y3 N c3', .int .i64 r, .int .i64 u] rfl HR5 rfl (fun v hv => by simp at hv; rcases hv with rfl | rfl | rfl | rfl | rfl | rfl <;> rfl) (by omega) (by unfold maxLen; omega) (by omega) ?_; intro v6 w6 h1 h3 _; obtain ⟨y6, c6, hv6⟩ := row_shape h1; subst hv6; have HP6 : Hid (PW w w6 #[.string n, .int .i64 t, .int .i64 l, .slice y N c, .int .i64 r, .int .i64 u] #[.string f, .int .i64 t, .int .i64 l, .slice y3 N c3'] (.slice y6 (NL + 1) c6) (K ++ [(⟨f, t, l, ds, r, u⟩, .slice y3 N c3')])) := PW.grow HP5.out (by rw [List.length_append, ← HNK.out, eC_app]; exact h1) h3; have HD6 : Hid (w6.ownsRow (w.heap.size + 2) 9 1 (.slice y3 N c3') N (tC ds)) := (Turn.of_grown (S := fun k => (Value.slice yl NL cl).ownBlock = some k) h3 (fun k e => e)).row HD5.out (fun _ hk e => own_apart HD5.out HO5.out (by decide) hk e); have cgz : w6.cell? ⟨gr, 1, none⟩ = some (.slice yv m cv) := (HRS.out.below HP6.out.bel).blk.cell 1; have cgf := (HRS.out.below HP6.out.bel).blk.frozen 1; clear h1 h3 tk2))
        go_ret
        have hend := rput_end HRS.out hB (K := K) HKM.out HLL.out HOK.out HP6.out (by have := HD6.out; rw [HN.out] at this; rw [HN.out]; exact this)
        exact ⟨rfl, _, _, hend.1, HEQ.out _, hend.2.1, hend.2.2⟩

end Go.Proofs.Ytcmhjlflgedcdaa
