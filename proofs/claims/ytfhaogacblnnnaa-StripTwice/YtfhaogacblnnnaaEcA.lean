/- What ofCode, slices.IndexFunc and Has give of options: is one of Code 8 among them, and the first one's place. -/
import Derived.Test.YtfhaogacblnnnaaOpA
import Derived.Laws.EntriesVeiled
namespace Go.Proofs.Ytfhaogacblnnnaa
open Go.RowKit

/-- Is an option a client's address? -/
def ec (o : On) : Bool := o.c == 8
/-- Options without those. -/
def flt (os : List On) : List On := os.filter (fun o => !ec o)
/-- The function value that ofCode gives. -/
def ofF (g : Nat) : Value := .func (.func 23) #[] #[.pointer (some ⟨g, 0, none⟩)]

theorem pred_any (c : Int) (d : ByteArray) (g : Nat) (w : World) (hg : Blk w g #[.int .i64 8] 3) :
    Calls Try.prog 23 #[.agg #[.int .i64 c, .string d], .pointer (some ⟨g, 0, none⟩)] w fun e w' => e = .returned (.bool (c == 8)) ∧ Below w.heap.size w w' := by
  have c0 := (hg.alloc (.cells #[.int .i64 c, .string d] 33)).cell 0
  simp only [List.getElem?_toArray, List.getElem?_cons_zero] at c0
  go_enter Try.func23, Try.ntmps23
  go_wp2
  go_ret
  exact ⟨rfl, lay (Below.refl _ _) _⟩

theorem ofCode_any (w : World) : Calls Try.prog 19 #[.int .i64 8] w fun e w' => ∃ g, e = .returned (ofF g) ∧ Blk w' g #[.int .i64 8] 3 ∧ w.heap.size ≤ g ∧ Below w.heap.size w w' := by
  have hmf : ∀ (fn : Fn) (first cap : Array Value) (w : World), (Instr.makeFunc fn first cap).run Try.prog w = .ok (.func fn first cap) w := fun _ _ _ _ => rfl
  go_enter Try.func19, Try.ntmps19
  go_wp2
  go_ret
  exact ⟨w.heap.size, rfl, Blk.new w _ _, Nat.le_refl _, lay (Below.refl _ _) _⟩

set_option maxRecDepth 20000 in
theorem index_any (v : Value) (os : List On) (g k : Nat) (w : World) (h : Row w v os.length (oC os)) (hm : os.length ≤ maxLen) (hg : Blk w g #[.int .i64 8] 3) (hk : k ≤ os.length) (h1 : ∀ j (hj : j < os.length), j < k → ec os[j] = false) (h2 : ∀ hj : k < os.length, ec os[k] = true) :
    Calls Try.prog 22 #[v, ofF g] w fun e w' => e = .returned (.int .i64 (if k < os.length then (k : Int) else -1)) ∧ Below w.heap.size w w' := by
  obtain ⟨n, hn⟩ : ∃ n, n = os.length := ⟨_, rfl⟩
  have hmax := hm
  rw [← hn] at hmax
  unfold maxLen at hmax
  have hb : Below w.heap.size w w := Below.refl _ _
  obtain ⟨R, hR⟩ : ∃ R : Int, R = if k < os.length then (k : Int) else -1 := ⟨_, rfl⟩
  have HRR : Hid (R = if k < os.length then (k : Int) else -1) := hR
  have HN : Hid (n = os.length) := hn
  obtain ⟨x, c, hv⟩ := row_slice h
  rw [← hn] at hv
  subst hv
  have HR : Hid (Row w (.slice x n c) os.length (oC os)) := h
  have HG : Hid (Blk w g #[.int .i64 8] 3) := hg
  have H1 : Hid (∀ j (hj : j < os.length), j < k → ec os[j] = false) := h1
  have H2 : Hid (∀ hj : k < os.length, ec os[k] = true) := h2
  have HK : Hid (k ≤ os.length) := hk
  rw [← hR]
  clear hR h hn hg h1 h2 hk hm
  unfold ofF
  go_enter Try.func22, Try.ntmps22
  go_wp2
  go_loopw [8] (fun i wr => ∃ j : Nat, j ≤ n ∧ i = .int .i64 (j : Int) ∧ Hid (j ≤ k) ∧ Below w.heap.size w wr) (fun i _ => n - (intOf i).toNat)
  case atStart => exact ⟨0, Nat.zero_le _, rfl, Nat.zero_le _, hb⟩
  case round =>
    clear hb
    obtain ⟨j, hj, rfl, HJ, hb⟩ := hrel
    by_cases hjn : j < n
    · have hjm : j < os.length := by have := HN.out; omega
      obtain ⟨g', o, cap, hx, hc⟩ := row_at (HR.out.below hb) (by omega)
      simp only [Value.slice.injEq] at hx
      obtain ⟨rfl, -, rfl⟩ := hx
      obtain ⟨d0, d1⟩ := o_cells hc hjm
      have hcall := fun u hu => pred_any os[j].c os[j].d g u hu
      have hgb := HG.out.below hb
      have HGB : Hid (Blk wr g #[.int .i64 8] 3) := hgb
      obtain ⟨q, hq⟩ : ∃ q, q = os[j] := ⟨_, rfl⟩
      simp only [← hq] at d0 d1 hcall
      obtain ⟨b, hbq⟩ : ∃ b, (q.c == 8) = b := ⟨_, rfl⟩
      rw [hbq] at hcall
      have HB : Hid (ec os[j] = b) := by unfold Hid ec; rw [← hq]; exact hbq
      obtain ⟨qc, qd⟩ := q
      simp only at d0 d1 hcall
      clear hc hq hbq hgb
      cases b with
      | false =>
        have HK2 : Hid (j + 1 ≤ k) := by
          unfold Hid
          have h1 := HJ.out
          have h2 := HB.out
          by_cases e : j = k
          · subst e
            rw [H2.out hjm] at h2
            simp at h2
          · omega
        go_wp2_with (go_at_call 23; go_must (refine (hcall _ HGB.out).mono ?_); rintro e w1 ⟨rfl, b1⟩; replace hb := next hb b1; clear b1)
        go_roundw
        case rel => exact ⟨j + 1, by omega, by go_num, HK2, hb⟩
        case measure => simp [intOf]; omega
      | true =>
        have HF : Hid (R = (j : Int)) := by
          unfold Hid
          have h1 := HJ.out
          have h2 := HB.out
          have : j = k := by
            by_cases e : j = k
            · exact e
            · rw [H1.out j hjm (by omega)] at h2
              simp at h2
          subst this
          rw [HRR.out, if_pos hjm]
        go_wp2_with (go_at_call 23; go_must (refine (hcall _ HGB.out).mono ?_); rintro e w1 ⟨rfl, b1⟩; replace hb := next hb b1; clear b1)
        go_ret
        exact ⟨by rw [HF.out]; rfl, hb⟩
    · have hjn' : decide (j < n) = false := by simpa using hjn
      have HF : Hid (R = -1) := by
        unfold Hid
        have h1 := HJ.out
        have h2 := HK.out
        have h3 := HN.out
        rw [HRR.out, if_neg (by omega)]
      go_wp2
      go_ret
      exact ⟨by rw [HF.out]; rfl, hb⟩

/-- Is one of Code 8 among them? -/
def hasE (os : List On) : Bool := os.any ec
theorem first_ec (os : List On) : ∃ k, k ≤ os.length ∧ (∀ j (hj : j < os.length), j < k → ec os[j] = false) ∧ (∀ hj : k < os.length, ec os[k] = true) ∧ hasE os = decide (k < os.length) := by
  refine ⟨os.findIdx ec, List.findIdx_le_length, fun j hj h => by simpa using List.not_of_lt_findIdx h, fun hj => List.findIdx_getElem, ?_⟩
  unfold hasE
  rw [Bool.eq_iff_iff, List.any_eq_true, decide_eq_true_eq, List.findIdx_lt_length]

theorem contains_any (v : Value) (os : List On) (g : Nat) (w : World) (h : Row w v os.length (oC os)) (hm : os.length ≤ maxLen) (hg : Blk w g #[.int .i64 8] 3) :
    Calls Try.prog 21 #[v, ofF g] w fun e w' => e = .returned (.bool (hasE os)) ∧ Below w.heap.size w w' := by
  obtain ⟨k, hk, h1, h2, h3⟩ := first_ec os
  have hc := index_any v os g k w h hm hg hk h1 h2
  obtain ⟨R, hR⟩ : ∃ R : Int, R = if k < os.length then (k : Int) else -1 := ⟨_, rfl⟩
  have HF : Hid (hasE os = decide (0 ≤ R)) := by
    unfold Hid
    rw [h3, hR]
    by_cases e : k < os.length
    · rw [if_pos e]; simp [e]
    · rw [if_neg e]; simp [e]
  rw [← hR] at hc
  unfold ofF at hc ⊢
  clear h h1 h2 h3 hk hm hg hR
  go_enter Try.func21, Try.ntmps21
  go_wp2_with (go_at_call 22; go_must (refine hc.mono ?_); rintro e w1 ⟨rfl, b1⟩)
  go_ret
  exact ⟨by rw [HF.out]; rfl, b1⟩

end Go.Proofs.Ytfhaogacblnnnaa
