/- SameEntries of two rows of entries that are the same. -/
import Derived.Test.YtcmhjlflgedcdaaXP6
import Derived.Test.YtcmhjlflgedcdaaXSuC
namespace Go.Proofs.Ytcmhjlflgedcdaa
open Go.RowKit
open Pl

set_option maxRecDepth 20000 in
set_option maxHeartbeats 4000000 in
theorem sameEs_yes {B1 B2 : Nat} {w : World} {v u : Value} {Ma Mb : List (En × Value)} (h1 : ES B1 w v Ma) (h2 : ES B2 w u Mb) (hf : fstL Ma = fstL Mb) (hl : Ma.length ≤ 256) (hk : ∀ p ∈ Ma, p.1.ds.length ≤ 8796093022000) :
    Calls Try.prog 21 #[v, u] w fun e w' => e = .returned (.bool true) ∧ Below w.heap.size w w' := by
  have hlb : Mb.length = Ma.length := by rw [← fst_len, ← fst_len, hf]
  obtain ⟨N, hN⟩ : ∃ N, N = Ma.length := ⟨_, rfl⟩
  have HN : Hid (N = Ma.length) := hN
  have HNb : Hid (N = Mb.length) := by unfold Hid; rw [hlb]; exact hN
  obtain ⟨ya, ca, hva⟩ := row_shape h1.own
  obtain ⟨yb, cb, hvb⟩ := row_shape h2.own
  rw [hlb] at hvb
  rw [← hN] at hva hvb hl
  subst hva hvb
  have HA : Hid (ES B1 w (.slice ya N ca) Ma) := h1
  have HB : Hid (ES B2 w (.slice yb N cb) Mb) := h2
  have HF : Hid (fstL Ma = fstL Mb) := hf
  have HK : Hid (∀ p ∈ Ma, p.1.ds.length ≤ 8796093022000) := hk
  have HW : Hid (Below w.heap.size w w) := Below.refl _ _
  clear hN hlb h1 h2 hf hk
  go_enter Try.func21, Try.ntmps21
  go_wp2
  go_loopw [5] (fun iv wr => ∃ j : Nat, iv = .int .i64 (j : Int) ∧ j ≤ N ∧ Hid (Below w.heap.size w wr)) (fun i _ => N - (intOf i).toNat)
  case atStart => exact ⟨0, rfl, Nat.zero_le _, HW⟩
  case round =>
    clear HW
    obtain ⟨j, rfl, hjN, HW⟩ := hrel
    by_cases hj : j < N
    · have hj' : (j : Int) < (N : Int) := by omega
      have hjA : j < Ma.length := by rw [← HN.out]; exact hj
      have hjB : j < Mb.length := by rw [← HNb.out]; exact hj
      have HA2 := HA.out.below HW.out
      have HB2 := HB.out.below HW.out
      obtain ⟨ga, cap, hya, _, _⟩ := HA2.own.form (by omega)
      rw [← HN.out] at hya
      simp only [Value.slice.injEq, true_and] at hya
      obtain ⟨rfl, rfl⟩ := hya
      obtain ⟨gb, cap, hyb, _, _⟩ := HB2.own.form (by omega)
      rw [← HNb.out] at hyb
      simp only [Value.slice.injEq, true_and] at hyb
      obtain ⟨rfl, rfl⟩ := hyb
      obtain ⟨p, hp⟩ : ∃ p, p = Ma[j] := ⟨_, rfl⟩
      obtain ⟨q, hq⟩ : ∃ q, q = Mb[j] := ⟨_, rfl⟩
      have hpq : p.1 = q.1 := by
        have : (fstL Ma)[j]'(by rw [fst_len]; exact hjA) = (fstL Mb)[j]'(by rw [fst_len]; exact hjB) := by simp only [HF.out]
        rw [hp, hq]
        simpa [fstL] using this
      have hpM : p ∈ Ma := by rw [hp]; exact List.getElem_mem _
      have hqM : q ∈ Mb := by rw [hq]; exact List.getElem_mem _
      have ha : ∀ nb : Bel wr, ∀ i, i < 6 → nb.to.cell? ⟨ga, j * 6 + i, none⟩ = (eVc p)[i]? := fun nb i hi' => by
        have h1 := own_past HA2.own nb.h
        rw [← HN.out] at h1
        rw [h1.cellAt (j * 6 + i) (by omega), hp]
        exact eC_at hjA i hi'
      have hb : ∀ nb : Bel wr, ∀ i, i < 6 → nb.to.cell? ⟨gb, j * 6 + i, none⟩ = (eVc q)[i]? := fun nb i hi' => by
        have h1 := own_past HB2.own nb.h
        rw [← HNb.out] at h1
        rw [h1.cellAt (j * 6 + i) (by omega), hq]
        exact eC_at hjB i hi'
      have hra : ∀ nb : Bel wr, Row nb.to p.2 p.1.ds.length (tC p.1.ds) := fun nb => Row.of_own (own_past (HA2.dat p hpM) nb.h)
      have hrb : ∀ nb : Bel wr, Row nb.to q.2 q.1.ds.length (tC q.1.ds) := fun nb => Row.of_own (own_past (HB2.dat q hqM) nb.h)
      obtain ⟨py, pc, hpd⟩ := row_shape (HA2.dat p hpM)
      obtain ⟨qy, qc, hqd⟩ := row_shape (HB2.dat q hqM)
      have hlen := HK.out p hpM
      clear hp hq hpM hqM HA2 HB2
      obtain ⟨⟨pn, pt, pl, pds, pr, pu⟩, pd⟩ := p
      obtain ⟨q1, qd⟩ := q
      simp only at hpq
      subst hpq
      simp only at hpd hqd hra hrb hlen
      obtain ⟨pN, hpN⟩ : ∃ pN, pN = pds.length := ⟨_, rfl⟩
      have S : ∀ nb : Bel wr, Calls Try.prog 20 #[.agg #[.string pn, .int .i64 pt, .int .i64 pl, pd], .agg #[.string pn, .int .i64 pt, .int .i64 pl, qd]] nb.to fun e w' => e = .returned (.bool true) ∧ Below nb.to.heap.size nb.to w' := fun nb => sameS_any pn pt pl pd pds pn pt pl qd pds nb.to (hra nb) (hrb nb) (by unfold maxLen; omega) (by unfold maxLen; omega) true (by simp)
      rw [← hpN] at hpd hqd
      subst hpd hqd
      clear hra hrb hpN hlen
      have a0 := fun nb : Bel wr => ha nb 0 (by decide)
      have a1 := fun nb : Bel wr => ha nb 1 (by decide)
      have a2 := fun nb : Bel wr => ha nb 2 (by decide)
      have a3 := fun nb : Bel wr => ha nb 3 (by decide)
      have a4 := fun nb : Bel wr => ha nb 4 (by decide)
      have a5 := fun nb : Bel wr => ha nb 5 (by decide)
      have b0 := fun nb : Bel wr => hb nb 0 (by decide)
      have b1 := fun nb : Bel wr => hb nb 1 (by decide)
      have b2 := fun nb : Bel wr => hb nb 2 (by decide)
      have b3 := fun nb : Bel wr => hb nb 3 (by decide)
      have b4 := fun nb : Bel wr => hb nb 4 (by decide)
      have b5 := fun nb : Bel wr => hb nb 5 (by decide)
      simp only [eVc, List.getElem?_cons_succ, List.getElem?_cons_zero, Nat.add_zero] at a0 a1 a2 a3 a4 a5 b0 b1 b2 b3 b4 b5
      clear ha hb
      go_wp2
      refine wp_region_bel (by kernel_rfl) (by kernel_rfl) (fun _ => ?_)
      repeat (go_big_quiet_step ((go_at_call 20; go_must (exact bel_lays (S _)))))
      refine wpQuiet_nil ?_
      intro wn hwn
      have H5 : Hid (Below w.heap.size w wn) := next HW.out (bel_out hwn)
      clear hwn HW a0 a1 a2 a3 a4 a5 b0 b1 b2 b3 b4 b5 S
      go_wp2
      go_roundw
      case rel => exact ⟨j + 1, by go_num, by omega, H5⟩
      case measure => simp [intOf]; omega
    · have hj' : decide (j < N) = false := by simpa using hj
      go_wp2
      go_ret
      exact ⟨rfl, HW.out⟩

end Go.Proofs.Ytcmhjlflgedcdaa
