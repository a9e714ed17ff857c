/- The document's Negs as it lies in memory: before, NewNegs, Put. -/
import Derived.Test.YtphhljbeaklikaaXP8
import Derived.Test.YtphhljbeaklikaaXP9
import Derived.Test.YtphhljbeaklikaaXP6
namespace Go.Proofs.Ytphhljbeaklikaa
open Go.RowKit
open Pl
namespace Ng

theorem before_any (a b : ByteArray) (t u : Int) (w : World) (ha : a.size ≤ maxLen) (hb : b.size ≤ maxLen) (x : Bool) (hx : decide (cK a t b u < 0) = x) :
    Calls Try.prog 30 #[.string a, .int .i64 t, .string b, .int .i64 u] w fun e w' => e = .returned (.bool x) ∧ Below w.heap.size w w' := by
  have HX : Hid (decide (cmpN a.data.toList b.data.toList < 0 ∨ cmpN a.data.toList b.data.toList = 0 ∧ t < u) = x) := by
    unfold Hid
    rw [← hx, decide_eq_decide]
    exact cK_neg.symm
  have hc := fun v => refCompare_any a b v ha hb
  generalize cmpN a.data.toList b.data.toList = k at hc HX
  clear hx
  by_cases h1 : k < 0
  · have hx : x = true := by rw [← HX.out, decide_eq_true_eq]; exact .inl h1
    subst hx
    go_enter Try.func30, Try.ntmps30
    go_wp2_with (go_at_call 23; go_must (refine (hc _).mono ?_); rintro e w1 ⟨rfl, b1⟩)
    go_ret
    exact ⟨rfl, b1⟩
  · have h1' : decide (k < 0) = false := by simpa using h1
    by_cases h2 : k = 0
    · subst h2
      have hx : decide (t < u) = x := by rw [← HX.out]; simp
      clear HX h1
      subst hx
      go_enter Try.func30, Try.ntmps30
      go_wp2_with (go_at_call 23; go_must (refine (hc _).mono ?_); rintro e w1 ⟨rfl, b1⟩)
      go_ret
      exact ⟨rfl, b1⟩
    · have h2' : (k == 0) = false := by simpa using h2
      have hx : x = false := by rw [← HX.out, decide_eq_false_iff_not]; omega
      subst hx
      go_enter Try.func30, Try.ntmps30
      go_wp2_with (go_at_call 23; go_must (refine (hc _).mono ?_); rintro e w1 ⟨rfl, b1⟩)
      go_ret
      exact ⟨rfl, b1⟩

/-- The document's Negs. -/
structure RS (B : Nat) (w : World) (gr most : Nat) (V : Value) (M : List En) : Prop where
  blk : Blk w gr #[.int .i64 most, V] 60
  es : w.ownsRow B 33 3 V M.length (nC M)
  len : M.length ≤ most
  m1 : 1 ≤ most
  m2 : most ≤ 256
  ok : ∀ p ∈ M, OkE p
theorem RS.below {B : Nat} {w w' : World} {gr most : Nat} {V : Value} {M : List En} (h : RS B w gr most V M) (hb : Below w.heap.size w w') : RS B w' gr most V M := ⟨h.blk.below hb, own_past h.es hb, h.len, h.m1, h.m2, h.ok⟩
theorem rnew_no (m : Int) (w : World) (h : m < 1 ∨ 256 < m) : Calls Try.prog 9 #[.int .i64 m] w fun e w' => e = .returned (.tuple #[.pointer none, .int .i64 1400]) ∧ w' = w := by
  by_cases h1 : m < 1
  · go_enter Try.func9, Try.ntmps9
    go_wp2
    go_ret2
    exact ⟨rfl, rfl⟩
  · have h1' : decide (m < 1) = false := by simpa using h1
    have h2 : 256 < m := by omega
    go_enter Try.func9, Try.ntmps9
    go_wp2
    go_ret2
    exact ⟨rfl, rfl⟩
theorem rnew_yes (m B : Nat) (w : World) (h1 : 1 ≤ m) (h2 : m ≤ 256) : Calls Try.prog 9 #[.int .i64 (m : Int)] w fun e w' => ∃ gr, e = .returned (.tuple #[.pointer (some ⟨gr, 0, none⟩), .int .i64 0]) ∧ RS B w' gr m (.slice none 0 0) [] ∧ w.heap.size ≤ gr ∧ Below w.heap.size w w' := by
  have h1' : decide ((m : Int) < 1) = false := by simp; omega
  have h2' : decide ((256 : Int) < (m : Int)) = false := by simp; omega
  go_enter Try.func9, Try.ntmps9
  go_wp2
  go_ret2
  exact ⟨_, rfl, ⟨Blk.new w _ _, World.ownsRow_nil _ _ _ _, Nat.zero_le _, h1, h2, fun p hp => by simp at hp⟩, Nat.le_refl _, lay (Below.refl _ _) _⟩

set_option maxRecDepth 20000 in
set_option maxHeartbeats 4000000 in
/-- What Put does not take. -/
theorem rput_no (n : ByteArray) (t u now : Int) (gr : Nat) (w : World) (hn : n.size ≤ maxLen) (hm : mayN (nE n t u) now = false) :
    Calls Try.prog 13 #[.pointer (some ⟨gr, 0, none⟩), .agg #[.string n, .int .i64 t, .int .i64 u], .int .i64 now] w fun e w' => e = .returned (.int .i64 1400) ∧ Below w.heap.size w w' := by
  have HB : Hid ((isName n.data.toList && decide (0 ≤ t) && decide (t ≤ 65535) && decide (now < u) && decide (0 ≤ now) && decide (now ≤ 1099511627776)) = false) := hm
  clear hm
  have hb0 : Below w.heap.size w (w.alloc (.cells #[.string n, .int .i64 t, .int .i64 u] 33)) := lay (Below.refl _ _) _
  have k4 := Blk.new w #[.string n, .int .i64 t, .int .i64 u] 33
  have hmay := fun v => refMay_any n v hn
  cases h0 : isName n.data.toList with
  | false =>
    rw [h0] at hmay
    go_enter Try.func13, Try.ntmps13
    go_wp2_with (go_at_call 21; go_must (refine (hmay _).mono ?_); rintro e w1 ⟨rfl, b1⟩; have K4 := k4.below b1; have B1 := next hb0 b1; have x1 := K4.cell 1; have x2 := K4.cell 2; simp only [List.getElem?_toArray, List.getElem?_cons_succ, List.getElem?_cons_zero] at x1 x2; clear K4 b1)
    go_ret
    exact ⟨rfl, B1⟩
  | true =>
    rw [h0] at hmay HB
    clear h0
    by_cases cd0 : t < 0
    · have _h := cd0
      go_enter Try.func13, Try.ntmps13
      go_wp2_with (go_at_call 21; go_must (refine (hmay _).mono ?_); rintro e w1 ⟨rfl, b1⟩; have K4 := k4.below b1; have B1 := next hb0 b1; have x1 := K4.cell 1; have x2 := K4.cell 2; simp only [List.getElem?_toArray, List.getElem?_cons_succ, List.getElem?_cons_zero] at x1 x2; clear K4 b1)
      go_ret
      exact ⟨rfl, B1⟩
    · have d0 : decide (t < 0) = false := by simp; omega
      by_cases cd1 : 65535 < t
      · have _h := cd1
        go_enter Try.func13, Try.ntmps13
        go_wp2_with (go_at_call 21; go_must (refine (hmay _).mono ?_); rintro e w1 ⟨rfl, b1⟩; have K4 := k4.below b1; have B1 := next hb0 b1; have x1 := K4.cell 1; have x2 := K4.cell 2; simp only [List.getElem?_toArray, List.getElem?_cons_succ, List.getElem?_cons_zero] at x1 x2; clear K4 b1)
        go_ret
        exact ⟨rfl, B1⟩
      · have d1 : decide (65535 < t) = false := by simp; omega
        by_cases cd2 : u ≤ now
        · have _h := cd2
          go_enter Try.func13, Try.ntmps13
          go_wp2_with (go_at_call 21; go_must (refine (hmay _).mono ?_); rintro e w1 ⟨rfl, b1⟩; have K4 := k4.below b1; have B1 := next hb0 b1; have x1 := K4.cell 1; have x2 := K4.cell 2; simp only [List.getElem?_toArray, List.getElem?_cons_succ, List.getElem?_cons_zero] at x1 x2; clear K4 b1)
          go_ret
          exact ⟨rfl, B1⟩
        · have d2 : decide (u ≤ now) = false := by simp; omega
          by_cases cd3 : now < 0
          · have _h := cd3
            go_enter Try.func13, Try.ntmps13
            go_wp2_with (go_at_call 21; go_must (refine (hmay _).mono ?_); rintro e w1 ⟨rfl, b1⟩; have K4 := k4.below b1; have B1 := next hb0 b1; have x1 := K4.cell 1; have x2 := K4.cell 2; simp only [List.getElem?_toArray, List.getElem?_cons_succ, List.getElem?_cons_zero] at x1 x2; clear K4 b1)
            go_ret
            exact ⟨rfl, B1⟩
          · have d3 : decide (now < 0) = false := by simp; omega
            have d7 : 1099511627776 < now := by
              have h := HB.out
              simp at h
              omega
            go_enter Try.func13, Try.ntmps13
            go_wp2_with (go_at_call 21; go_must (refine (hmay _).mono ?_); rintro e w1 ⟨rfl, b1⟩; have K4 := k4.below b1; have B1 := next hb0 b1; have x1 := K4.cell 1; have x2 := K4.cell 2; simp only [List.getElem?_toArray, List.getElem?_cons_succ, List.getElem?_cons_zero] at x1 x2; clear K4 b1)
            go_ret
            exact ⟨rfl, B1⟩

theorem flat_take {α : Type} {f : α → List Value} {z : Nat} (hz : ∀ x, (f x).length = z) : ∀ (xs : List α) (k : Nat), (xs.flatMap f).take (k * z) = (xs.take k).flatMap f
  | [], k => by simp
  | a :: l, 0 => by simp
  | a :: l, k + 1 => by
    rw [List.flatMap_cons, List.take_succ_cons, List.flatMap_cons, ← flat_take hz l k, show (k + 1) * z = (f a).length + k * z from by rw [hz, Nat.add_mul, Nat.one_mul, Nat.add_comm], List.take_length_add_append]
theorem flat_drop {α : Type} {f : α → List Value} {z : Nat} (hz : ∀ x, (f x).length = z) : ∀ (xs : List α) (k : Nat), (xs.flatMap f).drop (k * z) = (xs.drop k).flatMap f
  | [], k => by simp
  | a :: l, 0 => by simp
  | a :: l, k + 1 => by
    rw [List.flatMap_cons, List.drop_succ_cons, ← flat_drop hz l k, show (k + 1) * z = (f a).length + k * z from by rw [hz, Nat.add_mul, Nat.one_mul, Nat.add_comm], List.drop_length_add_append]
theorem nC_take (K : List En) (k : Nat) : (nC K).take (k * 3) = nC (K.take k) := flat_take (f := nVc) (z := 3) (fun _ => rfl) K k
theorem nC_drop (K : List En) (k : Nat) : (nC K).drop (k * 3) = nC (K.drop k) := flat_drop (f := nVc) (z := 3) (fun _ => rfl) K k
theorem nC_one (K : List En) : ∀ u ∈ nC K, u.oneCell' = true := by
  intro u hu
  unfold nC at hu
  obtain ⟨p, _, hu⟩ := List.mem_flatMap.1 hu
  unfold nVc at hu
  simp at hu
  rcases hu with rfl | rfl | rfl <;> rfl
theorem take_flt {M : List En} {j : Nat} (hj : j < M.length) (P : En → Bool) : (M.take (j + 1)).filter P = (M.take j).filter P ++ if P M[j] then [M[j]] else [] := by
  rw [List.take_succ_eq_append_getElem hj, List.filter_append]
  cases h : P M[j] <;> simp [h]
theorem minK_one (L : List En) : 0 = minK L 1 := by unfold minK; split <;> simp [minK]
theorem minK_at {K : List En} {q k : Nat} (hq : q < K.length) (hk : k < K.length) (e : k = minK K q) : minK K (q + 1) = if ltE K[q] K[k] then q else k := by
  subst e
  exact minK_step hq hk
/-- How far Put is: the row of what is left, and its own variable. -/
structure PW (w wr : World) (E : Array Value) (lv : Value) (K : List En) : Prop where
  own : wr.ownsRow (w.heap.size + 1) 33 3 lv K.length (nC K)
  b4 : Blk wr w.heap.size E 33
  bel : Below w.heap.size w wr
theorem PW.below {w wr wn : World} {E : Array Value} {lv : Value} {K : List En} (h : PW w wr E lv K) (hb : Below wr.heap.size wr wn) : PW w wn E lv K := ⟨own_past h.own hb, h.b4.below hb, next h.bel hb⟩
theorem PW.grow {w wr wn : World} {E : Array Value} {lv lv' : Value} {K K' : List En} (h : PW w wr E lv K) (h1 : wn.ownsRow (w.heap.size + 1) 33 3 lv' K'.length (nC K')) (h2 : wr.grownBy wn lv.ownBlock) : PW w wn E lv' K' := by
  have T : Turn (fun k => lv.ownBlock = some k) wr wn := Turn.of_grown h2 (fun k e => e)
  refine ⟨h1, T.blk h.b4 (fun e => by have := (h.own.lt _ e).1; omega), Turn.below h.bel T h.bel.size (fun i hi => by have := (h.own.lt i hi).1; omega)⟩
theorem PW.fresh {w wr wn : World} {E : Array Value} {lv lv' : Value} {K K' : List En} (h : PW w wr E lv K) (h1 : wn.ownsRow (w.heap.size + 1) 33 3 lv' K'.length (nC K')) (h2 : Below wr.heap.size wr wn) : PW w wn E lv' K' := ⟨h1, h.b4.below h2, next h.bel h2⟩
/-- The blocks of the document's Negs. -/
def rfoot (gr : Nat) (V : Value) (k : Nat) : Prop := k = gr ∨ V.ownBlock = some k
/-- The end of Put. -/
theorem rput_end {B : Nat} {w w6 : World} {gr most : Nat} {V v5 : Value} {M K : List En} {E : Array Value} {e : En} (h : RS B w gr most V M) (hB : B ≤ w.heap.size) (hK : ∀ p ∈ K, p ∈ M) (hl : K.length + 1 ≤ most) (he : OkE e) (hp : PW w w6 E v5 (K ++ [e])) :
    RS B (w6.setCell ⟨gr, 1, none⟩ v5) gr most v5 (K ++ [e]) ∧ Turn (fun k => k = gr) w (w6.setCell ⟨gr, 1, none⟩ v5) ∧ ∀ k, rfoot gr v5 k → rfoot gr V k ∨ w.heap.size ≤ k := by
  have hgr := h.blk.lt
  have h6 := h.below hp.bel
  have T : Turn (fun k => k = gr) w6 (w6.setCell ⟨gr, 1, none⟩ v5) := Turn.of_set (S := fun k => k = gr) w6 (p := ⟨gr, 1, none⟩) rfl v5
  refine ⟨⟨h6.blk.set 1 v5, own_base (ownsRow_setCell_below hp.own (a := ⟨gr, 1, none⟩) (by show gr < _; omega) v5) (by omega), by rw [List.length_append]; exact hl, h.m1, h.m2, fun p hp' => ?_⟩, (Turn.of_below hp.bel).same T, ?_⟩
  · rcases List.mem_append.1 hp' with hp' | hp'
    · exact h.ok p (hK p hp')
    · simp at hp'
      subst hp'
      exact he
  · rintro k (hx | hx)
    · exact .inl (.inl hx)
    · exact .inr (by have := (hp.own.lt k hx).1; omega)
theorem cut_list {K : List En} {k : Nat} (hk : k < K.length) : (K.take k ++ K.drop (k + 1)).length + 1 = K.length ∧ K.take k ++ K.drop (k + 1) = K.eraseIdx k := by
  refine ⟨by simp; omega, ?_⟩
  rw [List.eraseIdx_eq_take_drop_succ]
theorem cut_sub {K M : List En} (h : ∀ p ∈ K, p ∈ M) (k : Nat) : ∀ p ∈ K.take k ++ K.drop (k + 1), p ∈ M := fun p hp => by
  rcases List.mem_append.1 hp with hp | hp
  · exact h p (List.mem_of_mem_take hp)
  · exact h p (List.mem_of_mem_drop hp)

set_option maxRecDepth 20000 in
set_option maxHeartbeats 8000000 in
theorem rput_yes {B : Nat} {w : World} {gr most : Nat} {V : Value} {M : List En} (h : RS B w gr most V M) (hB : B ≤ w.heap.size) (n : ByteArray) (t u now : Int) (hn : n.size ≤ maxLen) (hm : mayN (nE n t u) now = true) :
    Calls Try.prog 13 #[.pointer (some ⟨gr, 0, none⟩), .agg #[.string n, .int .i64 t, .int .i64 u], .int .i64 now] w fun e w' => e = .returned (.int .i64 0) ∧ ∃ V', RS B w' gr most V' (putN most M (nE n t u) now) ∧ Turn (fun k => k = gr) w w' ∧ ∀ k, rfoot gr V' k → rfoot gr V k ∨ w.heap.size ≤ k := by
  obtain ⟨i0, hi, hz0, hz1, hz2⟩ := info_parts infoNg
  obtain ⟨hnm, t1, t2, hnu, hn0, hnl⟩ := mayN_parts hm
  simp only [nE] at hnm t1 t2 hnu
  have d0 : decide (t < 0) = false := by simp; omega
  have d1 : decide (65535 < t) = false := by simp; omega
  have d5 : decide (u ≤ now) = false := by simp; omega
  have d6 : decide (now < 0) = false := by simp; omega
  have d7 : decide (1099511627776 < now) = false := by simp; omega
  obtain ⟨f, hf⟩ : ∃ f, f = fdB n := ⟨_, rfl⟩
  have HOK : Hid (OkE (nE f t u)) := by have := held_okN hm; unfold Hid; rw [hf]; exact this
  have HPUT : Hid (putN most M (nE n t u) now = cutP most (leftP M f t now) ++ [nE f t u]) := by unfold Hid putN; rw [hm, hf]; rfl
  have hmay : ∀ v, Calls Try.prog 21 #[.string n] v fun e w' => e = .returned (.bool true) ∧ Below v.heap.size v w' := fun v => by have := refMay_any n v hn; rw [hnm] at this; exact this
  have hfold := fun v => refFold_as n f v hn (by rw [hf, fdB_list])
  have hb0 : Below w.heap.size w (w.alloc (.cells #[.string n, .int .i64 t, .int .i64 u] 33)) := lay (Below.refl _ _) _
  have k4 := Blk.new w #[.string n, .int .i64 t, .int .i64 u] 33
  have HRS : Hid (RS B w gr most V M) := h
  have hm256 : M.length ≤ 256 := Nat.le_trans h.len h.m2
  obtain ⟨m, hmM⟩ : ∃ m, m = M.length := ⟨_, rfl⟩
  have HM : Hid (m = M.length) := hmM
  rw [← hmM] at hm256
  obtain ⟨yv, cv, hV⟩ := row_shape h.es
  rw [← hmM] at hV
  subst hV
  clear hm h hmM hf hnm hnu
  go_enter Try.func13, Try.ntmps13
  go_wp2_with (first
    | (go_at_call 21; go_must (refine (hmay _).mono ?_); rintro e w1 ⟨rfl, b1⟩; have K4 := k4.below b1; have B1 := next hb0 b1; have x0 := K4.cell 0; have x1 := K4.cell 1; have x2 := K4.cell 2; simp only [List.getElem?_toArray, List.getElem?_cons_succ, List.getElem?_cons_zero] at x0 x1 x2; clear b1)
    | (go_at_call 29; go_must (refine (hfold _).mono ?_); rintro e w2 ⟨rfl, b2⟩; have k5 := K4.below b2; have z0 := k5.cell 0; have z0f := k5.frozen 0; simp only [List.getElem?_toArray, List.getElem?_cons_zero] at z0; have HPW : Hid (PW w (w2.setCell ⟨w.heap.size, 0, none⟩ (.string f)) #[.string f, .int .i64 t, .int .i64 u] (.slice none 0 0) []) := ⟨World.ownsRow_nil _ _ _ _, k5.set 0 _, (next B1 b2).setCell (p := ⟨w.heap.size, 0, none⟩) (Nat.le_refl _) _⟩; clear b2 K4 B1 x0 x1 x2 hmay hfold k4 hb0 k5))
  clear z0 z0f
  go_loopw [7, 8] (fun lv iv wr => ∃ (j NL cl : Nat) (yl : Option Addr) (K : List En), lv = .slice yl NL cl ∧ iv = .int .i64 (j : Int) ∧ j ≤ m ∧ NL ≤ j ∧ Hid (K = (M.take j).filter (keepB f t now) ∧ NL = K.length) ∧ Hid (PW w wr #[.string f, .int .i64 t, .int .i64 u] (.slice yl NL cl) K)) (fun _ i _ => m - (intOf i).toNat)
  case atStart => exact ⟨0, 0, 0, none, [], rfl, rfl, Nat.zero_le _, Nat.le_refl _, ⟨rfl, rfl⟩, HPW⟩
  case round =>
    clear HPW
    obtain ⟨j, NL, cl, yl, K, rfl, rfl, hjm, hNj, HK, HP⟩ := hrel
    have HRR : Hid (RS B wr gr most (.slice yv m cv) M) := HRS.out.below HP.out.bel
    have cg : wr.cell? ⟨gr, 1, none⟩ = some (.slice yv m cv) := HRR.out.blk.cell 1
    have cg0 : wr.cell? ⟨gr, 0, none⟩ = some (.int .i64 (most : Int)) := HRR.out.blk.cell 0
    by_cases hj : j < m
    · have hj' : (j : Int) < (m : Int) := by omega
      have hjM : j < M.length := by rw [← HM.out]; exact hj
      obtain ⟨gv, cap, hyv, _, _⟩ := HRR.out.es.form (by omega)
      rw [← HM.out] at hyv
      simp only [Value.slice.injEq, true_and] at hyv
      obtain ⟨rfl, rfl⟩ := hyv
      obtain ⟨p, hp⟩ : ∃ p, p = M[j] := ⟨_, rfl⟩
      have hcc : ∀ i, i < 3 → wr.cell? ⟨gv, j * 3 + i, none⟩ = (nVc p)[i]? := fun i hi' => by
        have h1 := HRR.out.es
        rw [← HM.out] at h1
        rw [h1.cellAt (j * 3 + i) (by omega), hp]
        exact nC_at hjM i hi'
      have HY : Hid (keepB f t now p = true → K ++ [p] = (M.take (j + 1)).filter (keepB f t now) ∧ NL + 1 = (K ++ [p]).length) := fun hk => by
        rw [take_flt hjM, ← hp, hk, ← HK.out.1, if_pos rfl, List.length_append, ← HK.out.2]; exact ⟨rfl, rfl⟩
      have HNo : Hid (keepB f t now p = false → K = (M.take (j + 1)).filter (keepB f t now) ∧ NL = K.length) := fun hk => by
        rw [take_flt hjM, ← hp, hk, ← HK.out.1, if_neg (by decide), List.append_nil]; exact ⟨rfl, HK.out.2⟩
      have c0 := hcc 0 (by decide)
      have c1 := hcc 1 (by decide)
      have c2 := hcc 2 (by decide)
      rw [Nat.add_zero] at c0
      clear hcc hp
      obtain ⟨qn, qt, ql, qds, qr, qu⟩ := p
      simp only [keepB] at HY HNo
      simp only [nVc, List.getElem?_cons_succ, List.getElem?_cons_zero] at c0 c1 c2
      have y0 : ∀ o, (wr.alloc o).cell? ⟨w.heap.size, 0, none⟩ = some (.string f) := fun o => (HP.out.b4.alloc o).cell 0
      have y1 : ∀ o, (wr.alloc o).cell? ⟨w.heap.size, 1, none⟩ = some (.int .i64 t) := fun o => (HP.out.b4.alloc o).cell 1
      have HB1 : Hid (PW w (wr.alloc (.cells #[.string qn, .int .i64 qt, .int .i64 qu] 33)) #[.string f, .int .i64 t, .int .i64 u] (.slice yl NL cl) K) := HP.out.below ((Below.refl _ _).alloc (Nat.le_refl _) _)
      have HNK : Hid (NL = K.length) := HK.out.2
      clear HK HP HRR
      by_cases en : qn = f
      · subst en
        have hnn : (qn.toList == qn.toList) = true := by simp
        by_cases et : qt = t
        · subst et
          have hss : sameK qn qt ⟨qn, qt, ql, qds, qr, qu⟩ = true := sameK_iff.2 ⟨rfl, rfl⟩
          have HNN : Hid (K = (M.take (j + 1)).filter (keepB qn qt now) ∧ NL = K.length) := HNo.out (by rw [hss]; rfl)
          clear HNo HY hss
          go_wp2
          go_roundw
          case rel => exact ⟨j + 1, NL, cl, yl, K, rfl, by go_num, by omega, by omega, HNN, HB1⟩
          case measure => simp [intOf]; omega
        · have htt : (qt == t) = false := by simpa using et
          have htt2 : (qt != t) = true := by simpa using et
          have hsk : sameK qn t ⟨qn, qt, ql, qds, qr, qu⟩ = false := by unfold sameK; simp [et]
          clear et
          by_cases hlv : now < qu
          · have HYY : Hid (K ++ [⟨qn, qt, ql, qds, qr, qu⟩] = (M.take (j + 1)).filter (keepB qn t now) ∧ NL + 1 = (K ++ [(⟨qn, qt, ql, qds, qr, qu⟩ : En)]).length) := HY.out (by simp [hsk, hlv])
            clear HNo HY hsk
            have HB2 : Hid (PW w ((wr.alloc (.cells #[.string qn, .int .i64 qt, .int .i64 qu] 33)).alloc (.cells #[.string qn, .int .i64 qt, .int .i64 qu] 33)) #[.string qn, .int .i64 t, .int .i64 u] (.slice yl NL cl) K) := HB1.out.below ((Below.refl _ _).alloc (Nat.le_refl _) _)
            have HO2 : Hid (((wr.alloc (.cells #[.string qn, .int .i64 qt, .int .i64 qu] 33)).alloc (.cells #[.string qn, .int .i64 qt, .int .i64 qu] 33)).ownsRow (w.heap.size + 1) 33 3 (.slice yl NL cl) NL (nC K)) := by have := HB2.out.own; rw [← HNK.out] at this; exact this
            have HR2 := Row.of_blk (Blk.new (wr.alloc (.cells #[.string qn, .int .i64 qt, .int .i64 qu] 33)) #[.string qn, .int .i64 qt, .int .i64 qu] 33) (xs := [.string qn, .int .i64 qt, .int .i64 qu]) rfl 1 1
            rw [World.size_alloc] at HR2
            have hsz2 := HB2.out.b4.lt
            go_wp2_with (at_builtin; refine wpList_appG _ rfl (.tmp 79) (.tmp 81) 40 33 i0 _ 3 32 Try.underlying40 hi hz0 hz1 hz2 rfl (by decide) rfl (w.heap.size + 1) _ NL (nC K) rfl HO2.out _ 1 [.string qn, .int .i64 qt, .int .i64 qu] rfl HR2 rfl (fun v hv => by simp at hv; rcases hv with rfl | rfl | rfl <;> rfl) (by omega) (by unfold maxLen; omega) (by omega) ?_; intro v6 w6 h1 h3 _; obtain ⟨y6, c6, hv6⟩ := row_shape h1; subst hv6; have H6 : Hid (PW w w6 #[.string qn, .int .i64 t, .int .i64 u] (.slice y6 (NL + 1) c6) (K ++ [⟨qn, qt, ql, qds, qr, qu⟩])) := PW.grow HB2.out (by rw [List.length_append, ← HNK.out, nC_app]; exact h1) h3; clear h1 h3)
            go_roundw
            case rel => exact ⟨j + 1, NL + 1, c6, y6, _, rfl, by go_num, by omega, by omega, HYY, H6⟩
            case measure => simp [intOf]; omega
          · have hlv' : decide (now < qu) = false := by simpa using hlv
            have HNN : Hid (K = (M.take (j + 1)).filter (keepB qn t now) ∧ NL = K.length) := HNo.out (by rw [hlv', Bool.and_false])
            clear HNo HY hsk hlv
            go_wp2
            go_roundw
            case rel => exact ⟨j + 1, NL, cl, yl, K, rfl, by go_num, by omega, by omega, HNN, HB1⟩
            case measure => simp [intOf]; omega
      · have hnn : (qn.toList == f.toList) = false := by
          rw [beq_eq_false_iff_ne]
          exact fun e => en (bytes_ext (by rw [ByteArray.toList_eq, ByteArray.toList_eq] at e; exact e))
        have hsk : sameK f t ⟨qn, qt, ql, qds, qr, qu⟩ = false := by unfold sameK; simp [en]
        clear en
        by_cases hlv : now < qu
        · have HYY : Hid (K ++ [⟨qn, qt, ql, qds, qr, qu⟩] = (M.take (j + 1)).filter (keepB f t now) ∧ NL + 1 = (K ++ [(⟨qn, qt, ql, qds, qr, qu⟩ : En)]).length) := HY.out (by simp [hsk, hlv])
          clear HNo HY hsk
          have HB2 : Hid (PW w ((wr.alloc (.cells #[.string qn, .int .i64 qt, .int .i64 qu] 33)).alloc (.cells #[.string qn, .int .i64 qt, .int .i64 qu] 33)) #[.string f, .int .i64 t, .int .i64 u] (.slice yl NL cl) K) := HB1.out.below ((Below.refl _ _).alloc (Nat.le_refl _) _)
          have HO2 : Hid (((wr.alloc (.cells #[.string qn, .int .i64 qt, .int .i64 qu] 33)).alloc (.cells #[.string qn, .int .i64 qt, .int .i64 qu] 33)).ownsRow (w.heap.size + 1) 33 3 (.slice yl NL cl) NL (nC K)) := by have := HB2.out.own; rw [← HNK.out] at this; exact this
          have HR2 := Row.of_blk (Blk.new (wr.alloc (.cells #[.string qn, .int .i64 qt, .int .i64 qu] 33)) #[.string qn, .int .i64 qt, .int .i64 qu] 33) (xs := [.string qn, .int .i64 qt, .int .i64 qu]) rfl 1 1
          rw [World.size_alloc] at HR2
          have hsz2 := HB2.out.b4.lt
          go_wp2_with (at_builtin; refine wpList_appG _ rfl (.tmp 79) (.tmp 81) 40 33 i0 _ 3 32 Try.underlying40 hi hz0 hz1 hz2 rfl (by decide) rfl (w.heap.size + 1) _ NL (nC K) rfl HO2.out _ 1 [.string qn, .int .i64 qt, .int .i64 qu] rfl HR2 rfl (fun v hv => by simp at hv; rcases hv with rfl | rfl | rfl <;> rfl) (by omega) (by unfold maxLen; omega) (by omega) ?_; intro v6 w6 h1 h3 _; obtain ⟨y6, c6, hv6⟩ := row_shape h1; subst hv6; have H6 : Hid (PW w w6 #[.string f, .int .i64 t, .int .i64 u] (.slice y6 (NL + 1) c6) (K ++ [⟨qn, qt, ql, qds, qr, qu⟩])) := PW.grow HB2.out (by rw [List.length_append, ← HNK.out, nC_app]; exact h1) h3; clear h1 h3)
          go_roundw
          case rel => exact ⟨j + 1, NL + 1, c6, y6, _, rfl, by go_num, by omega, by omega, HYY, H6⟩
          case measure => simp [intOf]; omega
        · have hlv' : decide (now < qu) = false := by simpa using hlv
          have HNN : Hid (K = (M.take (j + 1)).filter (keepB f t now) ∧ NL = K.length) := HNo.out (by rw [hlv', Bool.and_false])
          clear HNo HY hsk hlv
          go_wp2
          go_roundw
          case rel => exact ⟨j + 1, NL, cl, yl, K, rfl, by go_num, by omega, by omega, HNN, HB1⟩
          case measure => simp [intOf]; omega
    · have hj' : decide (j < m) = false := by simpa using hj
      have hKall : K = M.filter (keepB f t now) := by rw [HK.out.1, List.take_of_length_le (by rw [← HM.out]; omega)]
      have HKM : Hid (∀ p ∈ K, p ∈ M) := fun p hp => by rw [hKall] at hp; exact (List.mem_filter.1 hp).1
      have HPP : Hid (putN most M (nE n t u) now = cutP most K ++ [nE f t u]) := by unfold Hid; rw [HPUT.out, hKall]; rfl
      have HNK : Hid (NL = K.length) := HK.out.2
      have HLM : Hid (K.length ≤ most) := by unfold Hid; rw [hKall]; exact Nat.le_trans (List.length_filter_le _ _) HRS.out.len
      have HMM : Hid (1 ≤ most ∧ most ≤ 256) := ⟨HRS.out.m1, HRS.out.m2⟩
      clear hKall HK HPUT
      by_cases hfull : NL = most
      · have hfe : ((NL : Int) == (most : Int)) = true := by rw [hfull]; simp
        have HFU : Hid (NL = most) := hfull
        clear hfull
        have hNL0 : 1 ≤ NL := by have := HFU.out; have := HMM.out.1; omega
        obtain ⟨gl, cap, hyl, _, _⟩ := HP.out.own.form (by rw [← HNK.out]; omega)
        rw [← HNK.out] at hyl
        simp only [Value.slice.injEq, true_and] at hyl
        obtain ⟨rfl, rfl⟩ := hyl
        go_wp2
        go_loopw [10, 11] (fun kv qv wq => ∃ k q : Nat, kv = .int .i64 (k : Int) ∧ qv = .int .i64 (q : Int) ∧ 1 ≤ q ∧ q ≤ NL ∧ k < NL ∧ Hid (k = minK K q) ∧ Hid (PW w wq #[.string f, .int .i64 t, .int .i64 u] (.slice (some ⟨gl, 0, none⟩) NL cl) K)) (fun _ q _ => NL - (intOf q).toNat)
        case atStart => exact ⟨0, 1, rfl, rfl, Nat.le_refl _, hNL0, by omega, minK_one _, HP⟩
        case round =>
          clear HP HRR cg cg0
          obtain ⟨k, q, rfl, rfl, hq1, hqN, hkN, HKQ, HP⟩ := hrel
          by_cases hq : q < NL
          · have hq' : (q : Int) < (NL : Int) := by omega
            have hk' : (k : Int) < (NL : Int) := by omega
            have hqK : q < K.length := by rw [← HNK.out]; exact hq
            have hkK : k < K.length := by rw [← HNK.out]; exact hkN
            have HOW : Hid (wr.ownsRow (w.heap.size + 1) 33 3 (.slice (some ⟨gl, 0, none⟩) NL cl) NL (nC K)) := by have := HP.out.own; rw [← HNK.out] at this; exact this
            have HST : Hid (minK K (q + 1) = if ltE K[q] K[k] then q else k) := minK_at hqK hkK HKQ.out
            have HSA : Hid ((K[q]).n.size ≤ maxLen) := max_ok (HRS.out.ok _ (HKM.out _ (List.getElem_mem hqK))).k
            have HSB : Hid ((K[k]).n.size ≤ maxLen) := max_ok (HRS.out.ok _ (HKM.out _ (List.getElem_mem hkK))).k
            obtain ⟨a, ha⟩ : ∃ a, a = K[q] := ⟨_, rfl⟩
            obtain ⟨b, hb⟩ : ∃ b, b = K[k] := ⟨_, rfl⟩
            have ca : ∀ i, i < 3 → ∀ nb : Bel wr, nb.to.cell? ⟨gl, q * 3 + i, none⟩ = (nVc a)[i]? := fun i hi' nb => by
              rw [(own_past HOW.out nb.h).cellAt (q * 3 + i) (by omega), nC_at hqK i hi', ha]
            have cb : ∀ i, i < 3 → ∀ nb : Bel wr, nb.to.cell? ⟨gl, k * 3 + i, none⟩ = (nVc b)[i]? := fun i hi' nb => by
              rw [(own_past HOW.out nb.h).cellAt (k * 3 + i) (by omega), nC_at hkK i hi', hb]
            have a0 := ca 0 (by decide)
            have a1 := ca 1 (by decide)
            have a2 := ca 2 (by decide)
            have b0 := cb 0 (by decide)
            have b1 := cb 1 (by decide)
            have b2 := cb 2 (by decide)
            rw [← ha] at HSA HST
            rw [← hb] at HSB HST
            clear ca cb ha hb hqK hkK
            obtain ⟨an, at', al, ads, ar, au⟩ := a
            obtain ⟨bn, bt, bl, bds, br, bu⟩ := b
            simp only [nVc, List.getElem?_cons_succ, List.getElem?_cons_zero, Nat.add_zero] at a0 a1 a2 b0 b1 b2 HSA HSB
            unfold ltE at HST
            simp only at HST
            by_cases hlt : au < bu
            · have HS' : Hid (minK K (q + 1) = q) := by unfold Hid; have := HST.out; simpa [hlt] using this
              clear HST
              go_wp2
              refine wp_region_bel (by kernel_rfl) (by kernel_rfl) (fun _ => ?_)
              repeat (go_big_quiet_step (fail))
              refine wpQuiet_nil ?_
              intro wn hwn
              have H5 : Hid (PW w wn #[.string f, .int .i64 t, .int .i64 u] (.slice (some ⟨gl, 0, none⟩) NL cl) K) := HP.out.below (bel_out hwn)
              clear hwn HP a0 a1 a2 b0 b1 b2 HOW
              go_wp2
              go_roundw
              case rel => exact ⟨q, q + 1, rfl, by go_num, by omega, by omega, by omega, HS'.out.symm, H5⟩
              case measure => simp [intOf]; omega
            · have hlt' : decide (au < bu) = false := by simpa using hlt
              by_cases heq : au = bu
              · subst heq
                have HBF : Hid (∀ v x, decide (cK an at' bn bt < 0) = x → Calls Try.prog 30 #[.string an, .int .i64 at', .string bn, .int .i64 bt] v fun e w' => e = .returned (.bool x) ∧ Below v.heap.size v w') := fun v x hx => before_any an bn at' bt v HSA.out HSB.out x hx
                cases hx : decide (cK an at' bn bt < 0) with
                | true =>
                  have HS' : Hid (minK K (q + 1) = q) := by unfold Hid; have := HST.out; rw [hx] at this; simpa using this
                  have S := fun nb : Bel wr => HBF.out nb.to true hx
                  clear HST hx HBF
                  go_wp2
                  refine wp_region_bel (by kernel_rfl) (by kernel_rfl) (fun _ => ?_)
                  repeat (go_big_quiet_step ((go_at_call 30; go_must (exact bel_lays (S _)))))
                  refine wpQuiet_nil ?_
                  intro wn hwn
                  have H5 : Hid (PW w wn #[.string f, .int .i64 t, .int .i64 u] (.slice (some ⟨gl, 0, none⟩) NL cl) K) := HP.out.below (bel_out hwn)
                  clear hwn HP a0 a1 a2 b0 b1 b2 HOW S
                  go_wp2
                  go_roundw
                  case rel => exact ⟨q, q + 1, rfl, by go_num, by omega, by omega, by omega, HS'.out.symm, H5⟩
                  case measure => simp [intOf]; omega
                | false =>
                  have HS' : Hid (minK K (q + 1) = k) := by unfold Hid; have := HST.out; rw [hx] at this; simpa using this
                  have S := fun nb : Bel wr => HBF.out nb.to false hx
                  clear HST hx HBF
                  go_wp2
                  refine wp_region_bel (by kernel_rfl) (by kernel_rfl) (fun _ => ?_)
                  repeat (go_big_quiet_step ((go_at_call 30; go_must (exact bel_lays (S _)))))
                  refine wpQuiet_nil ?_
                  intro wn hwn
                  have H5 : Hid (PW w wn #[.string f, .int .i64 t, .int .i64 u] (.slice (some ⟨gl, 0, none⟩) NL cl) K) := HP.out.below (bel_out hwn)
                  clear hwn HP a0 a1 a2 b0 b1 b2 HOW S
                  go_wp2
                  go_roundw
                  case rel => exact ⟨k, q + 1, rfl, by go_num, by omega, by omega, by omega, HS'.out.symm, H5⟩
                  case measure => simp [intOf]; omega
              · have heq' : (au == bu) = false := by simpa using heq
                have HS' : Hid (minK K (q + 1) = k) := by unfold Hid; have := HST.out; simpa [hlt, heq] using this
                clear HST heq hlt
                go_wp2
                refine wp_region_bel (by kernel_rfl) (by kernel_rfl) (fun _ => ?_)
                repeat (go_big_quiet_step (fail))
                refine wpQuiet_nil ?_
                intro wn hwn
                have H5 : Hid (PW w wn #[.string f, .int .i64 t, .int .i64 u] (.slice (some ⟨gl, 0, none⟩) NL cl) K) := HP.out.below (bel_out hwn)
                clear hwn HP a0 a1 a2 b0 b1 b2 HOW
                go_wp2
                go_roundw
                case rel => exact ⟨k, q + 1, rfl, by go_num, by omega, by omega, by omega, HS'.out.symm, H5⟩
                case measure => simp [intOf]; omega
          · obtain rfl : NL = q := by omega
            have hq' : decide (NL < NL) = false := by simp
            have hkK : k < K.length := by rw [← HNK.out]; exact hkN
            have HKP : k = minP K := by unfold minP; rw [← HNK.out]; exact HKQ.out
            obtain ⟨K2, hK2⟩ : ∃ K2, K2 = K.take k ++ K.drop (k + 1) := ⟨_, rfl⟩
            obtain ⟨NN, hNN⟩ : ∃ NN, NN = k + (NL - (k + 1)) := ⟨_, rfl⟩
            have HNE : Hid (k + (NL - (k + 1)) = NN) := hNN.symm
            have hcl := cut_list hkK
            have HLN : Hid (NN = K2.length) := by unfold Hid; rw [hK2, hNN]; have := hcl.1; have := HNK.out; omega
            have hNNb : NN < 256 := by have := HLM.out; have := HMM.out.2; have := HNK.out; omega
            have HLL : Hid (K2.length + 1 ≤ most) := by unfold Hid; rw [hK2, hcl.1]; exact HLM.out
            have HSB : Hid (∀ p ∈ K2, p ∈ M) := by unfold Hid; rw [hK2]; exact cut_sub HKM.out k
            have HEQ : Hid (K2 ++ [nE f t u] = putN most M (nE n t u) now) := by
              unfold Hid
              rw [HPP.out, hK2, hcl.2]
              unfold cutP
              rw [if_pos (by rw [← HNK.out]; exact HFU.out), ← HKP]
            have HC1 : Hid (∀ x ∈ (nC K).take (k * 3), x.oneCell' = true) := fun x hx => nC_one K x (List.mem_of_mem_take hx)
            have HC2 : Hid (∀ x ∈ (nC K).drop ((k + 1) * 3), x.oneCell' = true) := fun x hx => nC_one K x (List.mem_of_mem_drop hx)
            have HLA : Hid (((nC K).take (k * 3)).length = k * 3) := by unfold Hid; rw [List.length_take, nC_len]; omega
            have HLD : Hid (((nC K).drop ((k + 1) * 3)).length = (NL - (k + 1)) * 3) := by unfold Hid; rw [List.length_drop, nC_len, ← HNK.out, Nat.sub_mul]
            have HAP : Hid ((nC K).take (k * 3) ++ (nC K).drop ((k + 1) * 3) = nC K2) := by unfold Hid; rw [nC_take, nC_drop, hK2, nC_app]
            have hkN1 : k + 1 ≤ NL := hkN
            have HBE : Hid (Below wr.heap.size wr (wr.alloc (.cells #[] 33))) := lay (Below.refl _ _) _
            have HPA : Hid (PW w (wr.alloc (.cells #[] 33)) #[.string f, .int .i64 t, .int .i64 u] (.slice (some ⟨gl, 0, none⟩) NL cl) K) := HP.out.below HBE.out
            have HOA : Hid ((wr.alloc (.cells #[] 33)).ownsRow (w.heap.size + 1) 33 3 (.slice (some ⟨gl, 0, none⟩) NL cl) NL (nC K)) := by have := HPA.out.own; rw [← HNK.out] at this; exact this
            have HOE : Hid ((wr.alloc (.cells #[] 33)).ownsRow wr.heap.size 33 3 (.slice (some ⟨wr.heap.size, 0, none⟩) 0 0) 0 []) := own_blk (B := wr.heap.size) (z := 3) (n := 0) (xs := []) (Blk.new wr #[] 33) (Nat.le_refl _) rfl rfl (Nat.zero_le _)
            have hszr := HP.out.b4.lt
            have tk3 : True := trivial
            have tk4 : True := trivial
            have tk5 : True := trivial
            have tk6 : True := trivial
            clear HPP HKP hcl hkK hNN hK2 HKQ HPA
            have tk2 : True := trivial
            go_wp2_with (first
              | (have _t := tk3; refine wpList_sliceTo _ rfl (.tmp 145) (.tmp 146) 40 33 (w.heap.size + 1) 3 Try.underlying40 (Try.sizeOf33 _) rfl _ NL k (nC K) rfl rfl HOA.out (by omega) ?_; intro va hra; clear tk3)
              | (at_builtin; have _t := tk4; refine wpList_appG _ rfl (.tmp 144) (.tmp 147) 40 33 i0 _ 3 32 Try.underlying40 hi hz0 hz1 hz2 rfl (by decide) rfl wr.heap.size _ 0 [] rfl HOE.out _ k ((nC K).take (k * 3)) rfl hra HLA.out HC1.out (by omega) (by unfold maxLen; omega) HBE.out.size ?_; intro v7 w7 h1 h3 _; rw [Nat.zero_add, List.nil_append] at h1; have B7 : Below wr.heap.size wr w7 := HBE.out.grown h3 HBE.out.size (fun i e => (HOE.out.lt i e).1); have HPB : Hid (PW w w7 #[.string f, .int .i64 t, .int .i64 u] (.slice (some ⟨gl, 0, none⟩) NL cl) K) := HP.out.below B7; have HOB : Hid (w7.ownsRow (w.heap.size + 1) 33 3 (.slice (some ⟨gl, 0, none⟩) NL cl) NL (nC K)) := (by have := HPB.out.own; rw [← HNK.out] at this; exact this); have H17 : Hid (w7.ownsRow wr.heap.size 33 3 v7 k ((nC K).take (k * 3))) := h1; have HB7 : Hid (Below wr.heap.size wr w7) := B7; clear h1 h3 tk4 B7 hra)
              | (have _t := tk5; refine wpList_sliceFrom _ rfl (.tmp 150) (.tmp 152) 40 33 (w.heap.size + 1) 3 Try.underlying40 (Try.sizeOf33 _) rfl _ NL (k + 1) (nC K) rfl rfl HOB.out (by omega) ?_; intro vb hrb; clear tk5)
              | (at_builtin; have _t := tk6; refine wpList_appG _ rfl (.tmp 149) (.tmp 153) 40 33 i0 _ 3 32 Try.underlying40 hi hz0 hz1 hz2 rfl (by decide) rfl wr.heap.size _ k ((nC K).take (k * 3)) rfl H17.out _ (NL - (k + 1)) ((nC K).drop ((k + 1) * 3)) rfl hrb HLD.out HC2.out (by omega) (by unfold maxLen; omega) HB7.out.size ?_; intro v8 w8 h1 h3 _; rw [HAP.out, HNE.out] at h1; have B8 : Below wr.heap.size wr w8 := HB7.out.grown h3 HB7.out.size (fun i e => (H17.out.lt i e).1); obtain ⟨y8, c8, hv8⟩ := row_shape h1; subst hv8; have HP8 : Hid (PW w w8 #[.string f, .int .i64 t, .int .i64 u] (.slice y8 NN c8) K2) := PW.fresh HP.out (by rw [← HLN.out]; exact own_base h1 (by omega)) B8; have m0 : w8.cell? ⟨w.heap.size, 0, none⟩ = some (.string f) := HP8.out.b4.cell 0; have m1 : w8.cell? ⟨w.heap.size, 1, none⟩ = some (.int .i64 t) := HP8.out.b4.cell 1; have m2 : w8.cell? ⟨w.heap.size, 2, none⟩ = some (.int .i64 u) := HP8.out.b4.cell 2; have HP5 : Hid (PW w (w8.alloc (.cells #[.string f, .int .i64 t, .int .i64 u] 33)) #[.string f, .int .i64 t, .int .i64 u] (.slice y8 NN c8) K2) := HP8.out.below ((Below.refl _ _).alloc (Nat.le_refl _) _); have HO5 : Hid ((w8.alloc (.cells #[.string f, .int .i64 t, .int .i64 u] 33)).ownsRow (w.heap.size + 1) 33 3 (.slice y8 NN c8) NN (nC K2)) := (by have := HP5.out.own; rw [← HLN.out] at this; exact this); have HR5 := Row.of_blk (Blk.new w8 #[.string f, .int .i64 t, .int .i64 u] 33) (xs := [.string f, .int .i64 t, .int .i64 u]) rfl 1 1; have hsz5 := HP5.out.b4.lt; clear h1 h3 tk6 B8 hrb H17 HB7 HPB HOB)
              | (at_builtin; have _t := tk2; refine wpList_appG _ rfl (.tmp 156) (.tmp 158) 40 33 i0 _ 3 32 Try.underlying40 hi hz0 hz1 hz2 rfl (by decide) rfl (w.heap.size + 1) _ NN (nC K2) rfl HO5.out _ 1 [.string f, .int .i64 t, .int .i64 u] rfl HR5 rfl (fun v hv => by simp at hv; rcases hv with rfl | rfl | rfl <;> rfl) (by omega) (by unfold maxLen; omega) (by omega) ?_; intro v6 w6 h1 h3 _; obtain ⟨y6, c6, hv6⟩ := row_shape h1; subst hv6; have HP6 : Hid (PW w w6 #[.string f, .int .i64 t, .int .i64 u] (.slice y6 (NN + 1) c6) (K2 ++ [nE f t u])) := PW.grow HP5.out (by rw [List.length_append, ← HLN.out, nC_app]; exact h1) h3; have cgz : w6.cell? ⟨gr, 1, none⟩ = some (.slice yv m cv) := (HRS.out.below HP6.out.bel).blk.cell 1; have cgf := (HRS.out.below HP6.out.bel).blk.frozen 1; clear h1 h3 tk2))
            go_ret
            have hend := rput_end HRS.out hB (K := K2) HSB.out HLL.out HOK.out HP6.out
            exact ⟨rfl, _, by rw [← HEQ.out]; exact hend.1, hend.2.1, hend.2.2⟩
      · have hfe : ((NL : Int) == (most : Int)) = false := by rw [beq_eq_false_iff_ne]; omega
        have HLL : Hid (K.length + 1 ≤ most) := by unfold Hid; have := HLM.out; have := HNK.out; omega
        have HEQ : Hid (K ++ [nE f t u] = putN most M (nE n t u) now) := by
          unfold Hid
          rw [HPP.out]
          unfold cutP
          rw [if_neg (by rw [← HNK.out]; exact hfull)]
        have hNNb : NL < 256 := by have := HLL.out; have := HMM.out.2; have := HNK.out; omega
        clear HPP hfull
        have m0 : wr.cell? ⟨w.heap.size, 0, none⟩ = some (.string f) := HP.out.b4.cell 0
        have m1 : wr.cell? ⟨w.heap.size, 1, none⟩ = some (.int .i64 t) := HP.out.b4.cell 1
        have m2 : wr.cell? ⟨w.heap.size, 2, none⟩ = some (.int .i64 u) := HP.out.b4.cell 2
        have HP5 : Hid (PW w (wr.alloc (.cells #[.string f, .int .i64 t, .int .i64 u] 33)) #[.string f, .int .i64 t, .int .i64 u] (.slice yl NL cl) K) := HP.out.below ((Below.refl _ _).alloc (Nat.le_refl _) _)
        have HO5 : Hid ((wr.alloc (.cells #[.string f, .int .i64 t, .int .i64 u] 33)).ownsRow (w.heap.size + 1) 33 3 (.slice yl NL cl) NL (nC K)) := (by have := HP5.out.own; rw [← HNK.out] at this; exact this)
        have HR5 := Row.of_blk (Blk.new wr #[.string f, .int .i64 t, .int .i64 u] 33) (xs := [.string f, .int .i64 t, .int .i64 u]) rfl 1 1
        have hsz5 := HP5.out.b4.lt
        have tk2 : True := trivial
        go_wp2_with (first
          | (at_builtin; have _t := tk2; refine wpList_appG _ rfl (.tmp 156) (.tmp 158) 40 33 i0 _ 3 32 Try.underlying40 hi hz0 hz1 hz2 rfl (by decide) rfl (w.heap.size + 1) _ NL (nC K) rfl HO5.out _ 1 [.string f, .int .i64 t, .int .i64 u] rfl HR5 rfl (fun v hv => by simp at hv; rcases hv with rfl | rfl | rfl <;> rfl) (by omega) (by unfold maxLen; omega) (by omega) ?_; intro v6 w6 h1 h3 _; obtain ⟨y6, c6, hv6⟩ := row_shape h1; subst hv6; have HP6 : Hid (PW w w6 #[.string f, .int .i64 t, .int .i64 u] (.slice y6 (NL + 1) c6) (K ++ [nE f t u])) := PW.grow HP5.out (by rw [List.length_append, ← HNK.out, nC_app]; exact h1) h3; have cgz : w6.cell? ⟨gr, 1, none⟩ = some (.slice yv m cv) := (HRS.out.below HP6.out.bel).blk.cell 1; have cgf := (HRS.out.below HP6.out.bel).blk.frozen 1; clear h1 h3 tk2))
        go_ret
        have hend := rput_end HRS.out hB (K := K) HKM.out HLL.out HOK.out HP6.out
        exact ⟨rfl, _, by rw [← HEQ.out]; exact hend.1, hend.2.1, hend.2.2⟩

end Ng
end Go.Proofs.Ytphhljbeaklikaa
