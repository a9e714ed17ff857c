/- What Size of package qmin gives. -/
import Derived.Test.YtnjlfbcfnmdkkaaQmA
import Derived.LoopN
namespace Go.Proofs.Ytnjlfbcfnmdkkaa
open Go.RowKit
open Pl
namespace Qm

theorem count_any (s : ByteArray) (w : World) (hs : s.size ≤ maxLen) :
    Calls Try.prog 24 #[.string s] w fun e w' => e = .returned (.int .i64 (cnt s.data.toList)) ∧ w' = w := by
  go_enter Try.func24, Try.ntmps24
  go_wp2_with (go_at_call 32; refine (measure_any _ _ hs).mono ?_; rintro e w' ⟨rfl, hw⟩; obtain rfl := hw.symm)
  go_ret
  exact ⟨rfl, rfl⟩

theorem size3 : Try.t3.size = 1 := by kernel_rfl
theorem idx4 (a b c d : Int) (k : Nat) (hk : k < 4) (u : World) : (Instr.index 52 (.agg #[.int .i64 a, .int .i64 b, .int .i64 c, .int .i64 d]) (.int .i64 (k : Int))).run Try.prog u = .ok (.int .i64 ([a, b, c, d].getD k 0)) u := by
  have : k = 0 ∨ k = 1 ∨ k = 2 ∨ k = 3 := by omega
  rcases this with rfl | rfl | rfl | rfl <;> simp [Instr.index, run_underlying Try.underlying52, asIntOf, go_sem, part, sizeOf, size3]

def okS (y x : Int) : Bool := decide (y ≤ x ∧ x ≤ 1000)
theorem mayS_bad {a b c d : Int} {k : Nat} (hk : k < 4) (h : okS (([0, 1, 0, 0] : List Int).getD k 0) ([a, b, c, d].getD k 0) = false) : mayS a b c d = false := by
  have : k = 0 ∨ k = 1 ∨ k = 2 ∨ k = 3 := by omega
  unfold mayS
  rcases this with rfl | rfl | rfl | rfl <;> simp only [List.getD_cons_zero, List.getD_cons_succ, okS] at h <;> simp only [h] <;> simp
theorem mayS_all {a b c d : Int} (h : ∀ j, j < 4 → okS (([0, 1, 0, 0] : List Int).getD j 0) ([a, b, c, d].getD j 0) = true) : mayS a b c d = true := by
  have h0 := h 0 (by decide)
  have h1 := h 1 (by decide)
  have h2 := h 2 (by decide)
  have h3 := h 3 (by decide)
  simp only [List.getD_cons_zero, List.getD_cons_succ, okS] at h0 h1 h2 h3
  unfold mayS
  simp only [h0, h1, h2, h3]
  rfl

set_option maxRecDepth 20000 in
set_option maxHeartbeats 2000000 in
theorem may4_any (a b c d : Int) (w : World) :
    Calls Try.prog 21 #[.agg #[.int .i64 a, .int .i64 b, .int .i64 c, .int .i64 d]] w fun e w' => e = .returned (.bool (mayS a b c d)) ∧ Below w.heap.size w w' := by
  have hi := idx4 a b c d
  obtain ⟨W, hW⟩ : ∃ W, W = (w.alloc (.cells #[.int .i64 a, .int .i64 b, .int .i64 c, .int .i64 d] 52)).alloc (.cells #[.int .i64 0, .int .i64 1, .int .i64 0, .int .i64 0] 52) := ⟨_, rfl⟩
  have HB : Hid (Below w.heap.size w W) := by
    unfold Hid
    rw [hW]
    exact lay (lay (Below.refl w.heap.size w) _) _
  have HK : Hid (Blk W (w.heap.size + 1) #[.int .i64 0, .int .i64 1, .int .i64 0, .int .i64 0] 52) := by
    unfold Hid
    rw [hW]
    have := Blk.new (w.alloc (.cells #[.int .i64 a, .int .i64 b, .int .i64 c, .int .i64 d] 52)) #[.int .i64 0, .int .i64 1, .int .i64 0, .int .i64 0] 52
    rw [World.size_alloc] at this
    exact this
  go_enter Try.func21, Try.ntmps21
  go_wp2
  go_loopw [8] (fun i wr => ∃ k : Nat, k ≤ 4 ∧ i = .int .i64 (k : Int) ∧ (∀ j, j < k → okS (([0, 1, 0, 0] : List Int).getD j 0) ([a, b, c, d].getD j 0) = true) ∧ wr = W) (fun i _ => 4 - (intOf i).toNat)
  case atStart => exact ⟨0, by decide, rfl, fun j hj => absurd hj (Nat.not_lt_zero _), hW.symm⟩
  case round =>
    clear hW
    obtain ⟨k, hk, rfl, hf, rfl⟩ := hrel
    by_cases h4 : k < 4
    · replace hi := hi k h4
      have HF : Hid (∀ j, j < k → okS (([0, 1, 0, 0] : List Int).getD j 0) ([a, b, c, d].getD j 0) = true) := hf
      have HNo : Hid (okS (([0, 1, 0, 0] : List Int).getD k 0) ([a, b, c, d].getD k 0) = false → mayS a b c d = false) := fun h => mayS_bad h4 h
      have HEx : Hid (okS (([0, 1, 0, 0] : List Int).getD k 0) ([a, b, c, d].getD k 0) = true → ∀ j, j < k + 1 → okS (([0, 1, 0, 0] : List Int).getD j 0) ([a, b, c, d].getD j 0) = true) := fun h j hj => by
        by_cases e : j = k
        · rw [e]; exact h
        · exact hf j (by omega)
      have hc : wr.cell? ⟨w.heap.size + 1, k, none⟩ = some (.int .i64 (([0, 1, 0, 0] : List Int).getD k 0)) := by
        have := HK.out.cell k
        rw [this]
        have e : k = 0 ∨ k = 1 ∨ k = 2 ∨ k = 3 := by omega
        rcases e with rfl | rfl | rfl | rfl <;> rfl
      obtain ⟨x, hx⟩ : ∃ x, x = [a, b, c, d].getD k 0 := ⟨_, rfl⟩
      obtain ⟨y, hy⟩ : ∃ y, y = ([0, 1, 0, 0] : List Int).getD k 0 := ⟨_, rfl⟩
      rw [← hx] at hi HNo HEx
      rw [← hy] at hc HNo HEx
      have h4' : (k : Int) < 4 := by omega
      clear hx hy hf
      by_cases hxy : x < y
      · have hno := HNo.out (by unfold okS; simp; omega)
        have HN : Hid (mayS a b c d = false) := hno
        clear hno
        go_wp2
        go_ret
        exact ⟨ret_bool HN.out.symm, HB.out⟩
      · have hxy' : decide (x < y) = false := by simpa using hxy
        by_cases hx1 : 1000 < x
        · have HN : Hid (mayS a b c d = false) := HNo.out (by unfold okS; simp; omega)
          clear hxy
          go_wp2
          go_ret
          exact ⟨ret_bool HN.out.symm, HB.out⟩
        · have HE : Hid (∀ j, j < k + 1 → okS (([0, 1, 0, 0] : List Int).getD j 0) ([a, b, c, d].getD j 0) = true) := HEx.out (by unfold okS; simp; omega)
          have hx1' : decide (1000 < x) = false := by simpa using hx1
          clear hxy hx1
          go_wp2
          go_roundw
          case rel => exact ⟨k + 1, by omega, by go_num, HE.out, trivial⟩
          case measure => simp [intOf]; omega
    · have h4' : k = 4 := by omega
      subst h4'
      have HR : Hid (mayS a b c d = true) := mayS_all hf
      clear hf hi hk h4
      go_wp2
      go_ret
      exact ⟨ret_bool HR.out.symm, HB.out⟩

theorem may4_as (a b c d : Int) (v : Bool) (w : World) (h : mayS a b c d = v) :
    Calls Try.prog 21 #[.agg #[.int .i64 a, .int .i64 b, .int .i64 c, .int .i64 d]] w fun e w' => e = .returned (.bool v) ∧ Below w.heap.size w w' := by rw [← h]; exact may4_any a b c d w

theorem ceil_any (l d : Int) (w : World) (hd : 1 ≤ d) (hd2 : d ≤ 1000) (hl : 1 ≤ l) (hl2 : l ≤ 1000) :
    Calls Try.prog 22 #[.int .i64 l, .int .i64 d] w fun e w' => e = .returned (.int .i64 ((l + d - 1) / d)) ∧ w' = w := by
  go_enter Try.func22, Try.ntmps22
  go_wp2
  go_ret
  exact ⟨rfl, rfl⟩

set_option maxRecDepth 20000 in
set_option maxHeartbeats 2000000 in
theorem size_any (s l c o : Int) (w : World) :
    Calls Try.prog 9 #[.int .i64 s, .int .i64 l, .int .i64 c, .int .i64 o] w fun e w' => e = .returned (sizeV s l c o) ∧ Below w.heap.size w w' := by
  cases hm : mayS s l c o with
  | false =>
    rw [sizeV_no hm]
    have HM : Hid (mayS s l c o = false) := hm
    clear hm
    go_enter Try.func9, Try.ntmps9
    go_wp2_with (go_at_call 21; go_must (refine (may4_as s l c o false _ HM.out).mono ?_); rintro e w1 ⟨rfl, b1⟩)
    go_ret2
    exact ⟨rfl, b1⟩
  | true =>
    rw [sizeV_yes hm]
    obtain ⟨⟨h1, h2⟩, ⟨h3, h4⟩, ⟨h5, h6⟩, h7, h8⟩ := mayS_iff.1 hm
    have HM : Hid (mayS s l c o = true) := hm
    clear hm
    by_cases hso : s < o
    · have HR : Hid (szI s l c o = 1) := by unfold Hid szI; rw [if_pos (.inl hso)]
      go_enter Try.func9, Try.ntmps9
      go_wp2_with (go_at_call 21; go_must (refine (may4_as s l c o true _ HM.out).mono ?_); rintro e w1 ⟨rfl, b1⟩)
      go_ret2
      exact ⟨by rw [HR.out]; rfl, b1⟩
    · have hso' : decide (s < o) = false := by simpa using hso
      by_cases hlc : l ≤ c - s
      · have HR : Hid (szI s l c o = 1) := by unfold Hid szI; rw [if_pos (.inr hlc)]
        clear hso
        go_enter Try.func9, Try.ntmps9
        go_wp2_with (go_at_call 21; go_must (refine (may4_as s l c o true _ HM.out).mono ?_); rintro e w1 ⟨rfl, b1⟩)
        go_ret2
        exact ⟨by rw [HR.out]; rfl, b1⟩
      · have hlc' : decide (l ≤ c - s) = false := by simpa using hlc
        by_cases hcs : c - s ≤ 0
        · have HR : Hid (szI s l c o = l) := by unfold Hid szI; rw [if_neg (by omega), if_pos (by omega)]
          clear hso hlc
          go_enter Try.func9, Try.ntmps9
          go_wp2_with (go_at_call 21; go_must (refine (may4_as s l c o true _ HM.out).mono ?_); rintro e w1 ⟨rfl, b1⟩)
          go_ret2
          exact ⟨by rw [HR.out]; rfl, b1⟩
        · have HR : Hid (szI s l c o = (l + (c - s) - 1) / (c - s)) := by unfold Hid szI; rw [if_neg (by omega), if_neg (by omega)]
          have hcs' : decide (c - s ≤ 0) = false := by simpa using hcs
          have HC := fun u => ceil_any l (c - s) u (by omega) (by omega) h3 h4
          clear hso hlc hcs
          go_enter Try.func9, Try.ntmps9
          go_wp2_with (first
            | (go_at_call 21; go_must (refine (may4_as s l c o true _ HM.out).mono ?_); rintro e w1 ⟨rfl, b1⟩)
            | (go_at_call 22; go_must (refine (HC _).mono ?_); rintro e w2 ⟨rfl, hw⟩; obtain rfl := hw.symm))
          go_ret2
          exact ⟨by rw [HR.out]; rfl, b1⟩

end Qm
end Go.Proofs.Ytnjlfbcfnmdkkaa
