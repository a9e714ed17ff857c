/- What SameTexts and SameSet give. -/
import Derived.Test.YtdaegnmokaibpaaSeH
namespace Go.Proofs.Ytdaegnmokaibpaa
open Go.RowKit
open Pl

theorem str_eqd (a b : ByteArray) : (a.toList == b.toList) = decide (a = b) := by
  rw [Bool.eq_iff_iff, beq_iff_eq, decide_eq_true_eq]
  exact ⟨byte_ext, fun e => by rw [e]⟩
set_option maxRecDepth 20000 in
theorem sameT_any (v u : Value) (a b : List ByteArray) (w : World) (h1 : Row w v a.length (tC a)) (h2 : Row w u b.length (tC b)) (hm1 : a.length ≤ maxLen) (hm2 : b.length ≤ maxLen) (r : Bool) (hr : decide (a = b) = r) :
    Calls Try.prog 36 #[v, u] w fun e w' => e = .returned (.bool r) ∧ Below w.heap.size w w' := by
  obtain ⟨N, hN⟩ : ∃ N, N = a.length := ⟨_, rfl⟩
  obtain ⟨M, hM⟩ : ∃ M, M = b.length := ⟨_, rfl⟩
  obtain ⟨x, c, rfl⟩ := row_slice h1
  obtain ⟨x', c', rfl⟩ := row_slice h2
  have HN : Hid (N = a.length) := hN
  have HM : Hid (M = b.length) := hM
  rw [← hN] at h1 hm1 ⊢
  rw [← hM] at h2 hm2 ⊢
  unfold maxLen at hm1 hm2
  have HR1 : Hid (Row w (.slice x N c) N (tC a)) := h1
  have HR2 : Hid (Row w (.slice x' M c') M (tC b)) := h2
  have HR : Hid (decide (a = b) = r) := hr
  have hb : Below w.heap.size w w := Below.refl _ _
  by_cases hl : N = M
  · have HL : Hid (N = M) := hl
    have hne : ((N : Int) != (M : Int)) = false := by rw [hl]; simp
    clear h1 h2 hr hN hM hl
    go_enter Try.func36, Try.ntmps36
    go_wp2
    go_loopw [5] (fun i wr => ∃ k : Nat, k ≤ N ∧ i = .int .i64 (k : Int) ∧ Hid (a.take k = b.take k) ∧ Below w.heap.size w wr) (fun i _ => N - (intOf i).toNat)
    case atStart => exact ⟨0, Nat.zero_le _, rfl, by unfold Hid; simp, hb⟩
    case round =>
      clear hb
      obtain ⟨k, hk, rfl, HT, hb⟩ := hrel
      by_cases hkn : k < N
      · have hkn' : (k : Int) < (N : Int) := by omega
        have hka : k < a.length := by have := HN.out; omega
        have hkb : k < b.length := by have := HM.out; have := HL.out; omega
        have hkm' : (k : Int) < (M : Int) := by have := HL.out; omega
        obtain ⟨g, o, cap, hx, hc⟩ := row_at (HR1.out.below hb) (by omega)
        obtain ⟨g', o', cap', hx', hc'⟩ := row_at (HR2.out.below hb) (by omega)
        simp only [Value.slice.injEq] at hx hx'
        obtain ⟨rfl, -, rfl⟩ := hx
        obtain ⟨rfl, -, rfl⟩ := hx'
        have d0 := hc k _ (tC_at hka)
        have e0 := hc' k _ (tC_at hkb)
        obtain ⟨p, hp⟩ : ∃ p, p = a[k] := ⟨_, rfl⟩
        obtain ⟨q, hq⟩ : ∃ q, q = b[k] := ⟨_, rfl⟩
        have HP : Hid (p = a[k]) := hp
        have HQ : Hid (q = b[k]) := hq
        rw [← hp] at d0
        rw [← hq] at e0
        clear hc hc' hp hq
        by_cases e : p = q
        · have HT2 : Hid (a.take (k + 1) = b.take (k + 1)) := by
            unfold Hid
            rw [List.take_succ_eq_append_getElem hka, List.take_succ_eq_append_getElem hkb, HT.out, ← HP.out, ← HQ.out, e]
          subst e
          go_wp2
          go_region
          go_wp2
          go_roundw
          case rel => exact ⟨k + 1, by omega, by go_num, HT2, next hb (below_drew ⟨1, rfl⟩)⟩
          case measure => simp [intOf]; omega
        · have hpq : (p.toList == q.toList) = false := by rw [str_eqd]; simpa using e
          have HF : Hid (r = false) := by
            unfold Hid
            rw [← HR.out, decide_eq_false_iff_not]
            rintro rfl
            exact e (HP.out.trans HQ.out.symm)
          clear e
          go_wp2
          go_region
          go_wp2
          go_ret
          exact ⟨ret_bool HF.out.symm, next hb (below_drew ⟨1, rfl⟩)⟩
      · have hkn' : decide (k < N) = false := by simpa using hkn
        have HF : Hid (r = true) := by
          unfold Hid
          rw [← HR.out, decide_eq_true_eq]
          have h1 := HT.out
          have h2 := HN.out
          have h3 := HM.out
          have h4 := HL.out
          rw [List.take_of_length_le (by omega), List.take_of_length_le (by omega)] at h1
          exact h1
        go_wp2
        go_ret
        exact ⟨ret_bool HF.out.symm, hb⟩
  · have hne : ((N : Int) != (M : Int)) = true := by simp; omega
    have HF : Hid (r = false) := by
      unfold Hid
      rw [← hr, decide_eq_false_iff_not]
      rintro rfl
      omega
    clear h1 h2 hr hl HR hN hM
    go_enter Try.func36, Try.ntmps36
    go_wp2
    go_ret
    exact ⟨ret_bool HF.out.symm, hb⟩

set_option maxRecDepth 20000 in
set_option maxHeartbeats 1000000 in
theorem sameS_any (n : ByteArray) (t l : Int) (v : Value) (a : List ByteArray) (n' : ByteArray) (t' l' : Int) (u : Value) (b : List ByteArray) (w : World) (h1 : Row w v a.length (tC a)) (h2 : Row w u b.length (tC b)) (hm1 : a.length ≤ maxLen) (hm2 : b.length ≤ maxLen) (r : Bool) (hr : decide (n = n' ∧ t = t' ∧ l = l' ∧ a = b) = r) :
    Calls Try.prog 22 #[.agg #[.string n, .int .i64 t, .int .i64 l, v], .agg #[.string n', .int .i64 t', .int .i64 l', u]] w fun e w' => e = .returned (.bool r) ∧ Below w.heap.size w w' := by
  have hb : Below w.heap.size w w := Below.refl _ _
  obtain ⟨x, c, hv⟩ := row_slice h1
  obtain ⟨x', c', hu⟩ := row_slice h2
  have HR : Hid (decide (n = n' ∧ t = t' ∧ l = l' ∧ a = b) = r) := hr
  clear hr
  by_cases e0 : n = n'
  · by_cases e1 : t = t'
    · by_cases e2 : l = l'
      · have K0 : Hid (∀ u' : World, Below w.heap.size w u' → Calls Try.prog 36 #[v, u] u' fun e w' => e = .returned (.bool r) ∧ Below u'.heap.size u' w') := fun u' hu' => sameT_any v u a b u' (h1.below hu') (h2.below hu') hm1 hm2 r (by rw [← HR.out]; simp [e0, e1, e2])
        subst e0 e1 e2 hv hu
        clear h1 h2 hm1 hm2 HR
        go_enter Try.func22, Try.ntmps22
        go_wp2_with (go_at_call 36; go_must (refine (K0.out _ (lay (lay hb _) _)).mono ?_); rintro e w1 ⟨rfl, b1⟩; replace hb := next (lay (lay hb _) _) b1; clear b1)
        go_ret
        exact ⟨ret_bool (by simp), hb⟩
      · have HF : Hid (r = false) := by unfold Hid; rw [← HR.out]; simp [e2]
        have e2' : (l == l') = false := by simpa using e2
        subst e0 e1 hv hu
        clear h1 h2 hm1 hm2 HR e2
        go_enter Try.func22, Try.ntmps22
        go_wp2
        go_ret
        exact ⟨ret_bool HF.out.symm, lay (lay hb _) _⟩
    · have HF : Hid (r = false) := by unfold Hid; rw [← HR.out]; simp [e1]
      have e1' : (t == t') = false := by simpa using e1
      subst e0 hv hu
      clear h1 h2 hm1 hm2 HR e1
      go_enter Try.func22, Try.ntmps22
      go_wp2
      go_ret
      exact ⟨ret_bool HF.out.symm, lay (lay hb _) _⟩
  · have HF : Hid (r = false) := by unfold Hid; rw [← HR.out]; simp [e0]
    have e0' : (n.toList == n'.toList) = false := by rw [str_eqd]; simpa using e0
    subst hv hu
    clear h1 h2 hm1 hm2 HR e0
    go_enter Try.func22, Try.ntmps22
    go_wp2
    go_ret
    exact ⟨ret_bool HF.out.symm, lay (lay hb _) _⟩

end Go.Proofs.Ytdaegnmokaibpaa
