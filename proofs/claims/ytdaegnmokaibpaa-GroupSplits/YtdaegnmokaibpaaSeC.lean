/- What isWrong, slices.IndexFunc and slices.ContainsFunc give of records: is one of them wrong? -/
import Derived.Test.YtdaegnmokaibpaaSeB
namespace Go.Proofs.Ytdaegnmokaibpaa
open Go.RowKit
open Pl

theorem isWrong_any (n : ByteArray) (t c l : Int) (d : ByteArray) (w : World) (hn : n.size ≤ maxLen) (hd : d.size ≤ maxLen) (b : Bool) (hb : okR ⟨n, t, c, l, d⟩ = b) :
    Calls Try.prog 26 #[.agg #[.string n, .int .i64 t, .int .i64 c, .int .i64 l, .string d]] w fun e w' => e = .returned (.bool (!b)) ∧ Below w.heap.size w w' := by
  unfold okR at hb
  simp only at hb
  cases h1 : isName n.data.toList with
  | false =>
    rw [h1] at hb
    simp only [Bool.false_and] at hb
    subst hb
    go_enter Try.func26, Try.ntmps26
    go_wp2_with (go_at_call 40; go_must (refine (may_as _ false _ hn h1).mono ?_); rintro e w' ⟨rfl, hw⟩; obtain rfl := hw.symm)
    go_ret
    exact ⟨rfl, lay (Below.refl _ _) _⟩
  | true =>
    rw [h1] at hb
    simp only [Bool.true_and] at hb
    by_cases h2 : l < 0
    · have e2 : inB 4294967295 l = false := by unfold inB; simp; omega
      rw [e2] at hb
      simp only [Bool.false_and] at hb
      subst hb
      go_enter Try.func26, Try.ntmps26
      go_wp2_with (go_at_call 40; go_must (refine (may_as _ true _ hn h1).mono ?_); rintro e w' ⟨rfl, hw⟩; obtain rfl := hw.symm)
      go_ret
      exact ⟨rfl, lay (Below.refl _ _) _⟩
    · have h2' : decide (l < 0) = false := by simpa using h2
      by_cases h3 : 4294967295 < l
      · have e2 : inB 4294967295 l = false := by unfold inB; simp; omega
        rw [e2] at hb
        simp only [Bool.false_and] at hb
        subst hb
        go_enter Try.func26, Try.ntmps26
        go_wp2_with (go_at_call 40; go_must (refine (may_as _ true _ hn h1).mono ?_); rintro e w' ⟨rfl, hw⟩; obtain rfl := hw.symm)
        go_ret
        exact ⟨rfl, lay (Below.refl _ _) _⟩
      · have h3' : decide (4294967295 < l) = false := by simpa using h3
        have e2 : inB 4294967295 l = true := by unfold inB; simp; omega
        rw [e2] at hb
        simp only [Bool.true_and] at hb
        have h4 := fun u => may4_any t d u hd
        rw [hb] at h4
        clear e2 hb h2 h3
        go_enter Try.func26, Try.ntmps26
        go_wp2_with (first
          | (go_at_call 40; go_must (refine (may_as _ true _ hn h1).mono ?_); rintro e w' ⟨rfl, hw⟩; obtain rfl := hw.symm)
          | (go_at_call 41; go_must (refine (h4 _).mono ?_); rintro e w' ⟨rfl, m, rfl⟩))
        go_ret
        exact ⟨rfl, next (lay (Below.refl _ _) _) (below_drew ⟨m, rfl⟩)⟩

/-- The function value of isWrong. -/
def wrongF : Value := .func (.func 26) #[] #[]
theorem first_bad (rs : List Rc) : ∃ k, k ≤ rs.length ∧ (∀ j (hj : j < rs.length), j < k → okR rs[j] = true) ∧ (∀ hj : k < rs.length, okR rs[k] = false) ∧ rs.any (fun r => !okR r) = decide (k < rs.length) := by
  refine ⟨rs.findIdx (fun r => !okR r), List.findIdx_le_length, fun j hj h => by simpa using List.not_of_lt_findIdx h, fun hj => by simpa using List.findIdx_getElem (w := hj), ?_⟩
  rw [Bool.eq_iff_iff, List.any_eq_true, decide_eq_true_eq, List.findIdx_lt_length]

set_option maxRecDepth 20000 in
theorem indexR_any (v : Value) (rs : List Rc) (k : Nat) (w : World) (h : RRow w v rs) (hk : k ≤ rs.length) (h1 : ∀ j (hj : j < rs.length), j < k → okR rs[j] = true) (h2 : ∀ hj : k < rs.length, okR rs[k] = false) :
    Calls Try.prog 39 #[v, wrongF] w fun e w' => e = .returned (.int .i64 (if k < rs.length then (k : Int) else -1)) ∧ Below w.heap.size w w' := by
  obtain ⟨n, hn⟩ : ∃ n, n = rs.length := ⟨_, rfl⟩
  have hmax := h.2.1
  rw [← hn] at hmax
  unfold maxLen at hmax
  have hb : Below w.heap.size w w := Below.refl _ _
  obtain ⟨R, hR⟩ : ∃ R : Int, R = if k < rs.length then (k : Int) else -1 := ⟨_, rfl⟩
  have HRR : Hid (R = if k < rs.length then (k : Int) else -1) := hR
  have HN : Hid (n = rs.length) := hn
  obtain ⟨x, c, hv⟩ := row_slice h.1
  rw [← hn] at hv
  subst hv
  have HR : Hid (RRow w (.slice x n c) rs) := h
  have H1 : Hid (∀ j (hj : j < rs.length), j < k → okR rs[j] = true) := h1
  have H2 : Hid (∀ hj : k < rs.length, okR rs[k] = false) := h2
  have HK : Hid (k ≤ rs.length) := hk
  rw [← hR]
  clear hR h hn h1 h2 hk
  unfold wrongF
  go_enter Try.func39, Try.ntmps39
  go_wp2
  go_loopw [8] (fun i wr => ∃ j : Nat, j ≤ n ∧ i = .int .i64 (j : Int) ∧ Hid (j ≤ k) ∧ Below w.heap.size w wr) (fun i _ => n - (intOf i).toNat)
  case atStart => exact ⟨0, Nat.zero_le _, rfl, Nat.zero_le _, hb⟩
  case round =>
    clear hb
    obtain ⟨j, hj, rfl, HJ, hb⟩ := hrel
    by_cases hjn : j < n
    · have hjm : j < rs.length := by have := HN.out; omega
      have hss := HR.out.2.2 _ (List.getElem_mem hjm)
      obtain ⟨g', o, cap, hx, hc⟩ := row_at (HN.out ▸ (HR.out.below hb).1) (by omega)
      simp only [Value.slice.injEq] at hx
      obtain ⟨rfl, -, rfl⟩ := hx
      obtain ⟨d0, d1, d2, d3, d4⟩ := r_cells hc hjm
      obtain ⟨b, hbq⟩ : ∃ b, okR rs[j] = b := ⟨_, rfl⟩
      have hcall := fun u => isWrong_any rs[j].n rs[j].t rs[j].c rs[j].l rs[j].d u hss.1 hss.2 b hbq
      have HB : Hid (okR rs[j] = b) := hbq
      obtain ⟨q, hq⟩ : ∃ q, q = rs[j] := ⟨_, rfl⟩
      simp only [← hq] at d0 d1 d2 d3 d4 hcall
      obtain ⟨q0, q1, q2, q3, q4⟩ := q
      simp only at d0 d1 d2 d3 d4 hcall
      clear hc hq hbq hss
      cases b with
      | true =>
        have HK2 : Hid (j + 1 ≤ k) := by
          unfold Hid
          have h1 := HJ.out
          have h2 := HB.out
          by_cases e : j = k
          · subst e
            rw [H2.out hjm] at h2
            simp at h2
          · omega
        go_wp2_with (go_at_call 26; go_must (refine (hcall _).mono ?_); rintro e w1 ⟨rfl, b1⟩; replace hb := next hb b1; clear b1)
        go_roundw
        case rel => exact ⟨j + 1, by omega, by go_num, HK2, hb⟩
        case measure => simp [intOf]; omega
      | false =>
        have HF : Hid (R = (j : Int)) := by
          unfold Hid
          have h1 := HJ.out
          have h2 := HB.out
          have : j = k := by
            by_cases e : j = k
            · exact e
            · rw [H1.out j hjm (by omega)] at h2
              simp at h2
          subst this
          rw [HRR.out, if_pos hjm]
        go_wp2_with (go_at_call 26; go_must (refine (hcall _).mono ?_); rintro e w1 ⟨rfl, b1⟩; replace hb := next hb b1; clear b1)
        go_ret
        exact ⟨by rw [HF.out]; rfl, hb⟩
    · have hjn' : decide (j < n) = false := by simpa using hjn
      have HF : Hid (R = -1) := by
        unfold Hid
        have h1 := HJ.out
        have h2 := HK.out
        have h3 := HN.out
        rw [HRR.out, if_neg (by omega)]
      go_wp2
      go_ret
      exact ⟨by rw [HF.out]; rfl, hb⟩

theorem containsR_any (v : Value) (rs : List Rc) (w : World) (h : RRow w v rs) (b : Bool) (hb : rs.any (fun r => !okR r) = b) :
    Calls Try.prog 25 #[v, wrongF] w fun e w' => e = .returned (.bool b) ∧ Below w.heap.size w w' := by
  subst hb
  obtain ⟨k, hk, h1, h2, h3⟩ := first_bad rs
  have hc := indexR_any v rs k w h hk h1 h2
  obtain ⟨R, hR⟩ : ∃ R : Int, R = if k < rs.length then (k : Int) else -1 := ⟨_, rfl⟩
  have HF : Hid (rs.any (fun r => !okR r) = decide (0 ≤ R)) := by
    unfold Hid
    rw [h3, hR]
    by_cases e : k < rs.length
    · rw [if_pos e]; simp [e]
    · rw [if_neg e]; simp [e]
  rw [← hR] at hc
  unfold wrongF at hc ⊢
  clear h h1 h2 h3 hk hR
  go_enter Try.func25, Try.ntmps25
  go_wp2_with (go_at_call 39; go_must (refine hc.mono ?_); rintro e w1 ⟨rfl, b1⟩)
  go_ret
  exact ⟨by rw [HF.out]; rfl, b1⟩

end Go.Proofs.Ytdaegnmokaibpaa
