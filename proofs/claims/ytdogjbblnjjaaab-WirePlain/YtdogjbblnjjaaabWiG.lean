/- What putPart and Put of package wire give. -/
import Derived.Test.YtdogjbblnjjaaabWiF
namespace Go.Proofs.Ytdogjbblnjjaaab
open Go.RowKit
open Pl

set_option maxRecDepth 20000 in
theorem putPartQ_any {w0 w : World} {g h : Nat} {o : Option St} (v : Value) (qs : List Qn) (hr : QRow w0 v qs) (a : WO w0 w g h o) :
    Calls Try.prog 20 #[.pointer (some ⟨g, 0, none⟩), v, .func (.func 21) #[] #[]] w fun e w' => e = .returned (.tuple #[]) ∧ WO w0 w' g h (stAll stQ o qs) ∧ Bes w w' := by
  obtain ⟨n, hn⟩ : ∃ n, n = qs.length := ⟨_, rfl⟩
  have hmax := hr.2.1
  rw [← hn] at hmax
  unfold maxLen at hmax
  have HN : Hid (n = qs.length) := hn
  obtain ⟨x, c, hv⟩ := row_slice hr.1
  rw [← hn] at hv
  subst hv
  have HR : Hid (QRow w0 (.slice x n c) qs) := hr
  have HA : Hid (WO w0 w g h o) := a
  clear hr hn a
  go_enter Try.func20, Try.ntmps20
  go_wp2
  go_loopw [10] (fun i wr => ∃ k : Nat, k ≤ n ∧ i = .int .i64 (k : Int) ∧ Hid (WO w0 wr g h (stAll stQ o (qs.take k)) ∧ Bes w wr)) (fun i _ => n - (intOf i).toNat)
  case atStart => exact ⟨0, Nat.zero_le _, rfl, HA.out, Bes.refl _⟩
  case round =>
    clear HA
    obtain ⟨k, hk, rfl, HK⟩ := hrel
    by_cases hkn : k < n
    · have hkm : k < qs.length := by have := HN.out; omega
      obtain ⟨gr, or, cap, hx, hc⟩ := row_at (HR.out.below HK.out.1.out).1 (by omega)
      simp only [Value.slice.injEq] at hx
      obtain ⟨rfl, -, rfl⟩ := hx
      obtain ⟨d0, d1, d2⟩ := q_cells hc hkm
      have hsz := HR.out.2.2 _ (List.getElem_mem hkm)
      have HS : Hid (stAll stQ o (qs.take (k + 1)) = (stAll stQ o (qs.take k)).bind fun a => stQ a qs[k]) := stAll_snoc _ _ _ _ hkm
      obtain ⟨q, hq⟩ : ∃ q, q = qs[k] := ⟨_, rfl⟩
      simp only [← hq] at d0 d1 d2 HS hsz
      have hcall := fun (u : World) (hu : WO w0 u g h (stAll stQ o (qs.take k))) => wquestion_any q hsz hu
      obtain ⟨qn, qt, qc⟩ := q
      simp only at d0 d1 d2 hcall
      clear hc hq hsz
      go_wp2_with (go_at_call 21; go_must (refine (hcall _ (HK.out.1.below (lay (Below.refl _ _) _))).mono ?_); rintro e w1 ⟨rfl, h1, b1⟩; have H1 : Hid (WO w0 w1 g h (stAll stQ o (qs.take (k + 1))) ∧ Bes w w1) := ⟨(by rw [HS.out]; exact h1), (HK.out.2.trans (Bes.of_below (lay (Below.refl _ _) _))).trans b1⟩; clear h1 b1)
      go_roundw
      case rel => exact ⟨k + 1, by omega, by go_num, H1⟩
      case measure => simp [intOf]; omega
    · have hkn' : decide (k < n) = false := by simpa using hkn
      go_wp2
      go_end0
      obtain ⟨h1, h2⟩ := HK.out
      rw [List.take_of_length_le (by have := HN.out; omega)] at h1
      exact ⟨rfl, h1, h2⟩

set_option maxRecDepth 20000 in
theorem putPartR_any {w0 w : World} {g h : Nat} {o : Option St} (v : Value) (qs : List Rc) (hr : RRow w0 v qs) (a : WO w0 w g h o) :
    Calls Try.prog 22 #[.pointer (some ⟨g, 0, none⟩), v, .func (.func 23) #[] #[]] w fun e w' => e = .returned (.tuple #[]) ∧ WO w0 w' g h (stAll stC o qs) ∧ Bes w w' := by
  obtain ⟨n, hn⟩ : ∃ n, n = qs.length := ⟨_, rfl⟩
  have hmax := hr.2.1
  rw [← hn] at hmax
  unfold maxLen at hmax
  have HN : Hid (n = qs.length) := hn
  obtain ⟨x, c, hv⟩ := row_slice hr.1
  rw [← hn] at hv
  subst hv
  have HR : Hid (RRow w0 (.slice x n c) qs) := hr
  have HA : Hid (WO w0 w g h o) := a
  clear hr hn a
  go_enter Try.func22, Try.ntmps22
  go_wp2
  go_loopw [10] (fun i wr => ∃ k : Nat, k ≤ n ∧ i = .int .i64 (k : Int) ∧ Hid (WO w0 wr g h (stAll stC o (qs.take k)) ∧ Bes w wr)) (fun i _ => n - (intOf i).toNat)
  case atStart => exact ⟨0, Nat.zero_le _, rfl, HA.out, Bes.refl _⟩
  case round =>
    clear HA
    obtain ⟨k, hk, rfl, HK⟩ := hrel
    by_cases hkn : k < n
    · have hkm : k < qs.length := by have := HN.out; omega
      obtain ⟨gr, or, cap, hx, hc⟩ := row_at (HR.out.below HK.out.1.out).1 (by omega)
      simp only [Value.slice.injEq] at hx
      obtain ⟨rfl, -, rfl⟩ := hx
      obtain ⟨d0, d1, d2, d3, d4⟩ := r_cells hc hkm
      have hsz := HR.out.2.2 _ (List.getElem_mem hkm)
      have HS : Hid (stAll stC o (qs.take (k + 1)) = (stAll stC o (qs.take k)).bind fun a => stC a qs[k]) := stAll_snoc _ _ _ _ hkm
      obtain ⟨q, hq⟩ : ∃ q, q = qs[k] := ⟨_, rfl⟩
      simp only [← hq] at d0 d1 d2 d3 d4 HS hsz
      have hcall := fun (u : World) (hu : WO w0 u g h (stAll stC o (qs.take k))) => wrecord_any q hsz.1 hsz.2 hu
      obtain ⟨qn, qt, qc, ql, qd⟩ := q
      simp only at d0 d1 d2 d3 d4 hcall
      clear hc hq hsz
      go_wp2_with (go_at_call 23; go_must (refine (hcall _ (HK.out.1.below (lay (Below.refl _ _) _))).mono ?_); rintro e w1 ⟨rfl, h1, b1⟩; have H1 : Hid (WO w0 w1 g h (stAll stC o (qs.take (k + 1))) ∧ Bes w w1) := ⟨(by rw [HS.out]; exact h1), (HK.out.2.trans (Bes.of_below (lay (Below.refl _ _) _))).trans b1⟩; clear h1 b1)
      go_roundw
      case rel => exact ⟨k + 1, by omega, by go_num, H1⟩
      case measure => simp [intOf]; omega
    · have hkn' : decide (k < n) = false := by simpa using hkn
      go_wp2
      go_end0
      obtain ⟨h1, h2⟩ := HK.out
      rw [List.take_of_length_le (by have := HN.out; omega)] at h1
      exact ⟨rfl, h1, h2⟩

end Go.Proofs.Ytdogjbblnjjaaab
