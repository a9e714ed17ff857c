/- NegRows holds: for every row of texts and every row of numbers, all that is held stands in the row of names, then types; the same again takes its place. -/
import Derived.Test.YtphhljbeaklikaaXNgQ
import Derived.Test.YtphhljbeaklikaaXInB
import Derived.ProofKit
import Derived.OpenShut
import Derived.ShutString
import Derived.Deep.DeepCutAuto
import Derived.BigQuiet
namespace Go.Proofs.Ytphhljbeaklikaa.negRows
open Go.ChangeShapes Go.WideShapes Go.ChangeAt Go.RowKit
open Go.ChangeMaps (open_string shut_string)
open Pl
open Ng

theorem three (q : Int) : ∃ X : Nat, X < 4 ∧ bits .and .i64 q 3 = (X : Int) := by
  refine ⟨(q % 4).toNat, by omega, ?_⟩
  have := mask q 2 (by decide)
  simp only [Nat.reducePow, Nat.reduceSub] at this
  have e : bits .and .i64 q 3 = q % 4 := this
  rw [e]; omega

set_option maxRecDepth 20000 in
set_option maxHeartbeats 4000000 in
theorem walk (v : Value) (ps : List ByteArray) (v' : Value) (qs : List Int) (w : World) (hr : SRow w v ps) (hq : Row w v' qs.length (iC qs) ∧ qs.length ≤ maxLen) :
    Calls Try.prog 7 #[v, v'] w fun e w' => e = .returned (.bool true) ∧ Below w.heap.size w w' := by
  obtain ⟨hrow, hmx, hsz⟩ := hr
  obtain ⟨hrow', hmx'⟩ := hq
  obtain ⟨n, hn⟩ : ∃ n, n = ps.length := ⟨_, rfl⟩
  obtain ⟨m, hm⟩ : ∃ m, m = qs.length := ⟨_, rfl⟩
  obtain ⟨x, c, hv⟩ := row_slice hrow
  obtain ⟨x', c', hv'⟩ := row_slice hrow'
  rw [← hn] at hv
  rw [← hm] at hv'
  subst hv hv'
  have HN : Hid (n = ps.length) := hn
  have HM : Hid (m = qs.length) := hm
  have HR : Hid (Row w (.slice x n c) ps.length (tC ps)) := hrow
  have HQ : Hid (Row w (.slice x' m c') qs.length (iC qs)) := hrow'
  have HS : Hid (∀ d ∈ ps, d.size ≤ maxLen) := hsz
  have hnm : n ≤ maxLen := by rw [hn]; exact hmx
  have hmm : m ≤ maxLen := by rw [hm]; exact hmx'
  unfold maxLen at hnm hmm
  clear hrow hrow' hn hm hmx hmx' hsz
  go_enter Try.func7, Try.ntmps7
  go_wp2_with (first
    | (go_at_call 11; go_must (refine (awake_any _).mono ?_); rintro e w0 ⟨rfl, b0⟩)
    | (go_at_call 8; go_must (refine (lw_new b0 256 (by decide) (by decide)).mono ?_); rintro e w1 ⟨gs, rfl, lw1, _, _⟩; have RV0 : Hid (LW w w1 gs 256 none []) := lw1; clear b0 lw1))
  go_loopw [7, 8] (fun kv iv wr => ∃ (j N : Nat) (mb : Option Nat) (F : List En), kv = .int .i64 (N : Int) ∧ iv = .int .i64 (j : Int) ∧ j ≤ n ∧ j ≤ 60 ∧ N ≤ j ∧ Hid (RwN F ∧ F.length = N) ∧ Hid (LW w wr gs 256 mb F)) (fun _ i _ => 60 - (intOf i).toNat)
  case atStart => exact ⟨0, 0, none, [], rfl, rfl, Nat.zero_le _, Nat.zero_le _, Nat.le_refl _, ⟨rwN_nil, rfl⟩, RV0⟩
  case round =>
    clear RV0
    obtain ⟨j, N, mb, F, rfl, rfl, hjn, hj6, hNj, HP, HH⟩ := hrel
    by_cases hlt : j < n ∧ j < m ∧ j < 60
    · obtain ⟨hj, hjm, h6⟩ := hlt
      have hj' : (j : Int) < (n : Int) := by omega
      have hjm' : (j : Int) < (m : Int) := by omega
      have h6' : (j : Int) < 60 := by omega
      have hjp : j < ps.length := by have := HN.out; omega
      have hjq : j < qs.length := by have := HM.out; omega
      obtain ⟨gp, op, cp, hx, hc⟩ := row_at HR.out (by omega)
      simp only [Value.slice.injEq] at hx
      obtain ⟨rfl, -, rfl⟩ := hx
      obtain ⟨gq, oq, cq, hx', hc'⟩ := row_at HQ.out (by omega)
      simp only [Value.slice.injEq] at hx'
      obtain ⟨rfl, -, rfl⟩ := hx'
      have e0 := hc j _ (tC_at hjp)
      have e1 := hc' j _ (iC_at hjq)
      obtain ⟨p, hp⟩ : ∃ p, p = ps[j] := ⟨_, rfl⟩
      obtain ⟨q, hq⟩ : ∃ q, q = qs[j] := ⟨_, rfl⟩
      rw [← hp] at e0
      rw [← hq] at e1
      have HPS : Hid (p.size ≤ maxLen) := by unfold Hid; rw [hp]; exact HS.out _ (List.getElem_mem _)
      have HE0 : Hid (∀ u, Below w.heap.size w u → u.cell? ⟨gp, op + j, none⟩ = some (.string p)) := fun u hu => by rw [hu.cell (World.block_lt_of_cell? _ _ e0)]; exact e0
      have HE1 : Hid (∀ u, Below w.heap.size w u → u.cell? ⟨gq, oq + j, none⟩ = some (.int .i64 q)) := fun u hu => by rw [hu.cell (World.block_lt_of_cell? _ _ e1)]; exact e1
      clear hc hc' hp hq e0 e1 hjp hjq
      have e0' := HE0.out wr HH.out.bel
      cases hnm1 : isName p.data.toList with
      | false =>
        have hmay : ∀ u : World, Calls Try.prog 21 #[.string p] u fun e w' => e = .returned (.bool false) ∧ Below u.heap.size u w' := fun u => by have := refMay_any p u HPS.out; rw [hnm1] at this; exact this
        go_wp2_with (go_at_call 21; go_must (refine (hmay _).mono ?_); rintro e w2 ⟨rfl, b2⟩; have H2 : Hid (LW w w2 gs 256 mb F) := HH.out.below b2; clear b2 e0')
        go_roundw
        case rel => exact ⟨j + 1, N, mb, F, rfl, by go_num, by omega, by omega, by omega, HP, H2⟩
        case measure => simp [intOf]; omega
      | true =>
        have hmay : ∀ u : World, Calls Try.prog 21 #[.string p] u fun e w' => e = .returned (.bool true) ∧ Below u.heap.size u w' := fun u => by have := refMay_any p u HPS.out; rw [hnm1] at this; exact this
        obtain ⟨X, hX, hXb⟩ := three q
        by_cases hX0 : X = 0
        · subst hX0
          rw [show ((0 : Nat) : Int) = 0 from rfl] at hXb
          cases hh0 : hasN F p 0 5 with
          | true =>
            have HH0 : Hid (hasN F p 0 5 = true) := hh0
            clear hh0
            have HMAY : Hid (mayN (nE p 0 (50 + (j : Int))) 5 = true) := may_yes hnm1 (by show 0 ≤ 0; omega) (by show 0 ≤ 65535; omega) (by show 5 < 50 + (j : Int); omega) (by decide) (by decide)
            obtain ⟨F', hF'⟩ : ∃ F', putN 256 F (nE p 0 (50 + (j : Int))) 5 = F' := ⟨_, rfl⟩
            have HF : Hid (putN 256 F (nE p 0 (50 + (j : Int))) 5 = F') := hF'
            have HST : Hid (RwN F' ∧ F'.length = N + 0) := by
              have h1 := rw_stepN HP.out.1 (by have := HP.out.2; omega) HMAY.out
              rw [hF', HH0.out] at h1
              rw [HP.out.2] at h1
              exact h1
            have HE : Hid (errN (nE p 0 (50 + (j : Int))) 5 = 0) := err_yes HMAY.out
            have HND : Hid ((!decide ((0 : Int) = 0) && hasN F p 0 5) = false) := rfl
            have HNX : Hid (hasN F p 0 5 = true) := HH0.out
            clear hF'
            go_wp2_with (first
              | (go_at_call 21; go_must (refine (hmay _).mono ?_); rintro e w2 ⟨rfl, b2⟩; have lw2 := HH.out.below b2; have e0 := HE0.out w2 lw2.bel; have e1 := HE1.out w2 lw2.bel)
              | (go_at_call 16; go_must (refine (lw2.nodata p 0 5 HPS.out (WalkArith.wf_i64 (by omega)) _ HND.out).mono ?_); rintro e w3 ⟨rfl, lw3, _⟩; have e2 := HE0.out w3 lw3.bel)
              | (go_at_call 14; go_must (refine (lw3.nx p 5 HPS.out _ HNX.out).mono ?_); rintro e w4 ⟨rfl, lw4, _⟩; have e3 := HE0.out w4 lw4.bel)
              | (go_at_call 12; go_must (refine (lw_put lw4 p 0 (50 + (j : Int)) 5 HPS.out 0 HE.out _ HF.out).mono ?_); rintro e w5 ⟨rfl, mb5, lw5, _, _⟩; have hal := lw5.all (N + 0) HST.out.2)
              | (go_at_call 10; refine (num_any _ _).mono ?_; rintro e w' ⟨rfl, hw⟩; obtain rfl := hw.symm)
              | (go_at_call 17; go_must (refine hal.mono ?_); rintro e w6 ⟨y6, c6, rfl, _, lw6, _⟩))
            go_roundw
            case rel => exact ⟨j + 1, N + 0, mb5, F', by go_num, by go_num, by omega, by omega, by omega, ⟨HST.out.1, HST.out.2⟩, lw6⟩
            case measure => simp [intOf]; omega
          | false =>
            have HH0 : Hid (hasN F p 0 5 = false) := hh0
            clear hh0
            have HMAY : Hid (mayN (nE p 0 (50 + (j : Int))) 5 = true) := may_yes hnm1 (by show 0 ≤ 0; omega) (by show 0 ≤ 65535; omega) (by show 5 < 50 + (j : Int); omega) (by decide) (by decide)
            obtain ⟨F', hF'⟩ : ∃ F', putN 256 F (nE p 0 (50 + (j : Int))) 5 = F' := ⟨_, rfl⟩
            have HF : Hid (putN 256 F (nE p 0 (50 + (j : Int))) 5 = F') := hF'
            have HST : Hid (RwN F' ∧ F'.length = N + 1) := by
              have h1 := rw_stepN HP.out.1 (by have := HP.out.2; omega) HMAY.out
              rw [hF', HH0.out] at h1
              rw [HP.out.2] at h1
              exact h1
            have HE : Hid (errN (nE p 0 (50 + (j : Int))) 5 = 0) := err_yes HMAY.out
            have HND : Hid ((!decide ((0 : Int) = 0) && hasN F p 0 5) = false) := rfl
            have HNX : Hid (hasN F p 0 5 = false) := HH0.out
            clear hF'
            go_wp2_with (first
              | (go_at_call 21; go_must (refine (hmay _).mono ?_); rintro e w2 ⟨rfl, b2⟩; have lw2 := HH.out.below b2; have e0 := HE0.out w2 lw2.bel; have e1 := HE1.out w2 lw2.bel)
              | (go_at_call 16; go_must (refine (lw2.nodata p 0 5 HPS.out (WalkArith.wf_i64 (by omega)) _ HND.out).mono ?_); rintro e w3 ⟨rfl, lw3, _⟩; have e2 := HE0.out w3 lw3.bel)
              | (go_at_call 14; go_must (refine (lw3.nx p 5 HPS.out _ HNX.out).mono ?_); rintro e w4 ⟨rfl, lw4, _⟩; have e3 := HE0.out w4 lw4.bel)
              | (go_at_call 12; go_must (refine (lw_put lw4 p 0 (50 + (j : Int)) 5 HPS.out 0 HE.out _ HF.out).mono ?_); rintro e w5 ⟨rfl, mb5, lw5, _, _⟩; have hal := lw5.all (N + 1) HST.out.2)
              | (go_at_call 10; refine (num_any _ _).mono ?_; rintro e w' ⟨rfl, hw⟩; obtain rfl := hw.symm)
              | (go_at_call 17; go_must (refine hal.mono ?_); rintro e w6 ⟨y6, c6, rfl, _, lw6, _⟩))
            go_roundw
            case rel => exact ⟨j + 1, N + 1, mb5, F', by go_num, by go_num, by omega, by omega, by omega, ⟨HST.out.1, HST.out.2⟩, lw6⟩
            case measure => simp [intOf]; omega
        · cases hh0 : hasN F p (X : Int) 5 with
          | true =>
            have HH0 : Hid (hasN F p (X : Int) 5 = true) := hh0
            clear hh0
            have HMAY : Hid (mayN (nE p (X : Int) (50 + (j : Int))) 5 = true) := may_yes hnm1 (by show 0 ≤ (X : Int); omega) (by show (X : Int) ≤ 65535; omega) (by show 5 < 50 + (j : Int); omega) (by decide) (by decide)
            obtain ⟨F', hF'⟩ : ∃ F', putN 256 F (nE p (X : Int) (50 + (j : Int))) 5 = F' := ⟨_, rfl⟩
            have HF : Hid (putN 256 F (nE p (X : Int) (50 + (j : Int))) 5 = F') := hF'
            have HST : Hid (RwN F' ∧ F'.length = N + 0) := by
              have h1 := rw_stepN HP.out.1 (by have := HP.out.2; omega) HMAY.out
              rw [hF', HH0.out] at h1
              rw [HP.out.2] at h1
              exact h1
            have HE : Hid (errN (nE p (X : Int) (50 + (j : Int))) 5 = 0) := err_yes HMAY.out
            have hx1 : decide ((X : Int) = 0) = false := by simp; omega
            have HND : Hid ((!decide ((X : Int) = 0) && hasN F p (X : Int) 5) = true) := by unfold Hid; rw [HH0.out, hx1]; rfl
            clear hx1
            have hx0 : ((X : Int) == 0) = false := by rw [beq_eq_false_iff_ne]; omega
            clear hF'
            go_wp2_with (first
              | (go_at_call 21; go_must (refine (hmay _).mono ?_); rintro e w2 ⟨rfl, b2⟩; have lw2 := HH.out.below b2; have e0 := HE0.out w2 lw2.bel; have e1 := HE1.out w2 lw2.bel)
              | (go_at_call 16; go_must (refine (lw2.nodata p (X : Int) 5 HPS.out (WalkArith.wf_i64 (by omega)) _ HND.out).mono ?_); rintro e w3 ⟨rfl, lw3, _⟩; have e2 := HE0.out w3 lw3.bel)
              | (go_at_call 12; go_must (refine (lw_put lw3 p (X : Int) (50 + (j : Int)) 5 HPS.out 0 HE.out _ HF.out).mono ?_); rintro e w5 ⟨rfl, mb5, lw5, _, _⟩; have hal := lw5.all (N + 0) HST.out.2)
              | (go_at_call 10; refine (num_any _ _).mono ?_; rintro e w' ⟨rfl, hw⟩; obtain rfl := hw.symm)
              | (go_at_call 17; go_must (refine hal.mono ?_); rintro e w6 ⟨y6, c6, rfl, _, lw6, _⟩))
            go_roundw
            case rel => exact ⟨j + 1, N + 0, mb5, F', by go_num, by go_num, by omega, by omega, by omega, ⟨HST.out.1, HST.out.2⟩, lw6⟩
            case measure => simp [intOf]; omega
          | false =>
            have HH0 : Hid (hasN F p (X : Int) 5 = false) := hh0
            clear hh0
            have HMAY : Hid (mayN (nE p (X : Int) (50 + (j : Int))) 5 = true) := may_yes hnm1 (by show 0 ≤ (X : Int); omega) (by show (X : Int) ≤ 65535; omega) (by show 5 < 50 + (j : Int); omega) (by decide) (by decide)
            obtain ⟨F', hF'⟩ : ∃ F', putN 256 F (nE p (X : Int) (50 + (j : Int))) 5 = F' := ⟨_, rfl⟩
            have HF : Hid (putN 256 F (nE p (X : Int) (50 + (j : Int))) 5 = F') := hF'
            have HST : Hid (RwN F' ∧ F'.length = N + 1) := by
              have h1 := rw_stepN HP.out.1 (by have := HP.out.2; omega) HMAY.out
              rw [hF', HH0.out] at h1
              rw [HP.out.2] at h1
              exact h1
            have HE : Hid (errN (nE p (X : Int) (50 + (j : Int))) 5 = 0) := err_yes HMAY.out
            have hx1 : decide ((X : Int) = 0) = false := by simp; omega
            have HND : Hid ((!decide ((X : Int) = 0) && hasN F p (X : Int) 5) = false) := by unfold Hid; rw [HH0.out, hx1]; rfl
            clear hx1
            have hx0 : ((X : Int) == 0) = false := by rw [beq_eq_false_iff_ne]; omega
            clear hF'
            go_wp2_with (first
              | (go_at_call 21; go_must (refine (hmay _).mono ?_); rintro e w2 ⟨rfl, b2⟩; have lw2 := HH.out.below b2; have e0 := HE0.out w2 lw2.bel; have e1 := HE1.out w2 lw2.bel)
              | (go_at_call 16; go_must (refine (lw2.nodata p (X : Int) 5 HPS.out (WalkArith.wf_i64 (by omega)) _ HND.out).mono ?_); rintro e w3 ⟨rfl, lw3, _⟩; have e2 := HE0.out w3 lw3.bel)
              | (go_at_call 12; go_must (refine (lw_put lw3 p (X : Int) (50 + (j : Int)) 5 HPS.out 0 HE.out _ HF.out).mono ?_); rintro e w5 ⟨rfl, mb5, lw5, _, _⟩; have hal := lw5.all (N + 1) HST.out.2)
              | (go_at_call 10; refine (num_any _ _).mono ?_; rintro e w' ⟨rfl, hw⟩; obtain rfl := hw.symm)
              | (go_at_call 17; go_must (refine hal.mono ?_); rintro e w6 ⟨y6, c6, rfl, _, lw6, _⟩))
            go_roundw
            case rel => exact ⟨j + 1, N + 1, mb5, F', by go_num, by go_num, by omega, by omega, by omega, ⟨HST.out.1, HST.out.2⟩, lw6⟩
            case measure => simp [intOf]; omega
    · have he : decide (j < n) = false ∨ (j < n ∧ decide (j < m) = false) ∨ (j < n ∧ j < m ∧ decide ((j : Int) < 60) = false) := by
        by_cases h : j < n
        · by_cases h' : j < m
          · exact .inr (.inr ⟨h, h', by simp; omega⟩)
          · exact .inr (.inl ⟨h, by simp; omega⟩)
        · exact .inl (by simp; omega)
      clear hlt
      have hal := HH.out.all N HP.out.2
      have HB : Hid (Below w.heap.size w wr) := HH.out.bel
      have HRW : Hid (RwN F) := HP.out.1
      have HML : Hid ((allP F).length = N) := by unfold Hid; rw [all_len]; exact HP.out.2
      clear HH HP
      rcases he with he | ⟨he, he2⟩ | ⟨he, he2, he3⟩
      all_goals
        go_wp2_with (go_at_call 17; go_must (refine hal.mono ?_); rintro e w5 ⟨y5, c5, rfl, es5, lw5, b5⟩; have HE5 : Hid (w5.ownsRow w.heap.size 33 3 (.slice y5 N c5) N (nC (allP F))) := own_base es5 HB.out.size; have HB5 : Hid (Below w.heap.size w w5) := next HB.out b5; clear es5 lw5 b5 hal HB)
        go_loopw [13] (fun qv wq => ∃ q : Nat, qv = .int .i64 (q : Int) ∧ 1 ≤ q ∧ q ≤ N + 1 ∧ Hid (wq.ownsRow w.heap.size 33 3 (.slice y5 N c5) N (nC (allP F))) ∧ Hid (Below w.heap.size w wq)) (fun q _ => N + 1 - (intOf q).toNat)
        case atStart => exact ⟨1, rfl, Nat.le_refl _, by omega, HE5, HB5⟩
        case round =>
          clear HE5 HB5 he
          try clear he2
          try clear he3
          obtain ⟨q, rfl, hq1, hqN, HE5, HB5⟩ := hrel
          by_cases hq : q < N
          · have hq2 : (q : Int) < (N : Int) := by omega
            obtain ⟨g5, cap5, hy5, _, _⟩ := HE5.out.form (by omega)
            simp only [Value.slice.injEq, true_and] at hy5
            obtain ⟨rfl, rfl⟩ := hy5
            have hqm : q < (allP F).length := by have := HML.out; omega
            have hqm1 : q - 1 < (allP F).length := by omega
            obtain ⟨a, ha⟩ : ∃ a, a = (allP F)[q - 1] := ⟨_, rfl⟩
            obtain ⟨b, hb⟩ : ∃ b, b = (allP F)[q] := ⟨_, rfl⟩
            have HC : Hid (cmpN a.n.data.toList b.n.data.toList < 0 ∨ cmpN a.n.data.toList b.n.data.toList = 0 ∧ a.t < b.t) := by
              have := rw_nextN HRW.out hq1 hqm
              rw [← ha, ← hb] at this
              exact this
            have HSA : Hid (a.n.size ≤ maxLen) := by
              have := rw_sizeN HRW.out hqm1
              rw [← ha] at this
              unfold Hid maxLen; omega
            have HSB : Hid (b.n.size ≤ maxLen) := by
              have := rw_sizeN HRW.out hqm
              rw [← hb] at this
              unfold Hid maxLen; omega
            obtain ⟨qa, hqa⟩ : ∃ qa, q = qa + 1 := ⟨q - 1, by omega⟩
            have HCE : Hid (∀ u, Below wr.heap.size wr u → u.cell? ⟨g5, qa * 3, none⟩ = some (.string a.n) ∧ u.cell? ⟨g5, qa * 3 + 1, none⟩ = some (.int .i64 a.t) ∧ u.cell? ⟨g5, (qa + 1) * 3, none⟩ = some (.string b.n) ∧ u.cell? ⟨g5, (qa + 1) * 3 + 1, none⟩ = some (.int .i64 b.t)) := fun u hu => by
              have ho := own_past HE5.out hu
              subst hqa
              have A := fun i (hi : i < 3) => nC_at hqm1 i hi
              have B := fun i (hi : i < 3) => nC_at hqm i hi
              simp only [Nat.add_sub_cancel] at A ha
              refine ⟨?_, ?_, ?_, ?_⟩
              · have := A 0 (by decide)
                rw [Nat.add_zero] at this
                rw [ho.cellAt _ (by omega), this, ha]; rfl
              · rw [ho.cellAt _ (by omega), A 1 (by decide), ha]; rfl
              · have := B 0 (by decide)
                rw [Nat.add_zero] at this
                rw [ho.cellAt _ (by omega), this, hb]; rfl
              · rw [ho.cellAt _ (by omega), B 1 (by decide), hb]; rfl
            clear ha hb hqm1
            subst hqa
            obtain ⟨an, at', al, ads, ar, au⟩ := a
            obtain ⟨bn, bt, bl, bds, br, bu⟩ := b
            simp only at HC HSA HSB HCE
            have HCMP : Hid (∀ u : World, Calls Try.prog 23 #[.string an, .string bn] u fun e w' => e = .returned (.int .i64 (cmpN an.data.toList bn.data.toList)) ∧ Below u.heap.size u w') := fun u => refCompare_any an bn u HSA.out HSB.out
            generalize cmpN an.data.toList bn.data.toList = cc at HC HCMP
            have ca : ∀ nb : Bel wr, nb.to.cell? ⟨g5, qa * 3, none⟩ = some (.string an) := fun nb => (HCE.out _ nb.h).1
            have cb : ∀ nb : Bel wr, nb.to.cell? ⟨g5, (qa + 1) * 3, none⟩ = some (.string bn) := fun nb => (HCE.out _ nb.h).2.2.1
            have S := fun nb : Bel wr => HCMP.out nb.to
            have hqb : ((qa + 1 : Nat) : Int) - 1 = (qa : Int) := by omega
            have hqc : (qa : Int) < (N : Int) := by omega
            go_wp2
            refine wp_region_bel (by kernel_rfl) (by kernel_rfl) (fun _ => ?_)
            repeat (go_big_quiet_step ((go_at_call 23; go_must (exact bel_lays (S _)))))
            refine wpQuiet_nil ?_
            intro wn hwn
            have hbn := bel_out hwn
            have HE6 : Hid (wn.ownsRow w.heap.size 33 3 (.slice (some ⟨g5, 0, none⟩) N c5) N (nC (allP F))) := own_past HE5.out hbn
            have HB6 : Hid (Below w.heap.size w wn) := next HB5.out hbn
            have HC6 : Hid (∀ u, Below wn.heap.size wn u → u.cell? ⟨g5, qa * 3 + 1, none⟩ = some (.int .i64 at') ∧ u.cell? ⟨g5, (qa + 1) * 3 + 1, none⟩ = some (.int .i64 bt)) := fun u hu => ⟨(HCE.out _ (next hbn hu)).2.1, (HCE.out _ (next hbn hu)).2.2.2⟩
            clear hwn hbn HE5 HB5 HCE ca cb S HCMP HSA HSB
            rcases HC.out with hcc | ⟨hcc, htt⟩
            · have g1 : decide (0 < cc) = false := by simp; omega
              have g2 : (cc == 0) = false := by rw [beq_eq_false_iff_ne]; omega
              go_wp2
              refine wp_region_bel (by kernel_rfl) (by kernel_rfl) (fun _ => ?_)
              repeat (go_big_quiet_step (fail))
              refine wpQuiet_nil ?_
              intro wm hwm
              have hbm := bel_out hwm
              have HE7 : Hid (wm.ownsRow w.heap.size 33 3 (.slice (some ⟨g5, 0, none⟩) N c5) N (nC (allP F))) := own_past HE6.out hbm
              have HB7 : Hid (Below w.heap.size w wm) := next HB6.out hbm
              clear hwm hbm HC6
              go_wp2
              go_roundw
              case rel => exact ⟨qa + 1 + 1, by go_num, by omega, by omega, HE7, HB7⟩
              case measure => simp [intOf]; omega
            · subst hcc
              have ca : ∀ nb : Bel wn, nb.to.cell? ⟨g5, qa * 3 + 1, none⟩ = some (.int .i64 at') := fun nb => (HC6.out _ nb.h).1
              have cb : ∀ nb : Bel wn, nb.to.cell? ⟨g5, (qa + 1) * 3 + 1, none⟩ = some (.int .i64 bt) := fun nb => (HC6.out _ nb.h).2
              have g3 : decide (bt ≤ at') = false := by simp; omega
              go_wp2
              refine wp_region_bel (by kernel_rfl) (by kernel_rfl) (fun _ => ?_)
              repeat (go_big_quiet_step (fail))
              refine wpQuiet_nil ?_
              intro wm hwm
              have hbm := bel_out hwm
              have HE7 : Hid (wm.ownsRow w.heap.size 33 3 (.slice (some ⟨g5, 0, none⟩) N c5) N (nC (allP F))) := own_past HE6.out hbm
              have HB7 : Hid (Below w.heap.size w wm) := next HB6.out hbm
              clear hwm hbm HC6 ca cb
              go_wp2
              go_roundw
              case rel => exact ⟨qa + 1 + 1, by go_num, by omega, by omega, HE7, HB7⟩
              case measure => simp [intOf]; omega
          · have hq2 : decide (q < N) = false := by simpa using hq
            go_wp2_with (go_at_call 10; refine (num_any _ _).mono ?_; rintro e w' ⟨rfl, hw⟩; obtain rfl := hw.symm)
            go_ret
            exact ⟨ret_bool (by simp), HB5.out⟩

theorem own : ownKnob Try.prog.godebug = none := by kernel_rfl
theorem laidOut : laidOutB Try.prog = true := by kernel_rfl
theorem cells9 : Try.prog.cellsOf 9 = 1 := by kernel_rfl

set_option maxRecDepth 100000 in
theorem lifted (os : Os) (started : os.Started) (H : Type) (enc : TypeId × Value → H) :
    ReturnsInHanded {} Try.checked os 7 .any (Rows.negRowsSpec.pre6 enc Try.prog Try.f7 Rows.negRowsRow.domain false) (Rows.negRowsSpec.post enc Try.prog Try.f7 false true false false) := by
  refine returnsInHanded_of_change (C := Try.checked) own started (by kernel_rfl) Try.func7
    (ChangeSpec.witness6 (enc := enc) (C := Try.checked) false ⟨#[], #[.slice none 0 0, .slice none 0 0], []⟩ 8 (by kernel_rfl) (by kernel_rfl) (by kernel_rfl) (by kernel_rfl)) ?_
  intro W base args ds gs before hval0 hW _ _
  have hval : ∀ (j : Nat) t v, Try.f7.params[j]? = some t → args[j]? = some v → Value.okWide Try.prog W .any base t v := hval0
  have hW' := hW
  obtain ⟨p, q, hA0, hV, rfl, hfz, hnd⟩ := hW
  have hA : DataW.TrodAll enc Try.prog W 0 (fun _ => true) true Try.f7.params.toList args.toList ds p := hA0
  rw [Try.params7] at hA hval
  obtain ⟨v0, vs0, d0, ds0, p0, q0, hargs, rfl, rfl, h0, r0⟩ := trodAll_cons hA
  obtain ⟨v1, vs1, d1, ds1, p1, q1, rfl, rfl, rfl, h1, r1⟩ := trodAll_cons r0
  obtain ⟨rfl, rfl, rfl⟩ := trodAll_nil r1
  obtain rfl : args = #[v0, v1] := by cases args; simp_all
  obtain ⟨rfl, rfl⟩ := trodVars_none hV
  obtain ⟨a0, h0k, d0k, w0⟩ := open_srow (hval 0 53 v0 rfl rfl) h0
  obtain ⟨a1, w1⟩ := open_irow (hval 1 50 v1 rfl rfl) h1
  have hlt0 : ∀ x ∈ p0, x.block < W.heap.size := fun x hx => by
    have := hW'.lt x (by simp [hx])
    simpa using this
  have hlt1 : ∀ x ∈ p1, x.block < W.heap.size := fun x hx => by
    have := hW'.lt x (by simp [hx])
    simpa using this
  clear hA0 hval0
  simp only [List.append_nil] at hW'
  refine (walk v0 a0 v1 a1  W w0 w1).mono fun e W' ⟨he, bel⟩ => ?_
  subst he
  exact ⟨_, rfl, _, _, _, [], _, [], hW', trodAll_mk1 (shut_bool Try.underlying4 _), (trodAll_cons_mk (Below.trod laidOut (by kernel_rfl) (of_decide_eq_true (by kernel_rfl)) h0k bel hlt0) (trodAll_cons_mk (Below.trod laidOut (by kernel_rfl) (of_decide_eq_true (by kernel_rfl)) h1 bel hlt1) trodAll_mk0)), rfl, bel.frame _, fun h => by cases h⟩

/-- The statement. -/
theorem proved : Rows.NegRowsSaid :=
  OpenClaim.holds_of_wide 7 Try.f7 rfl rfl rfl rfl rfl rfl rfl ⟨rfl, rfl, rfl, rfl, rfl⟩ rfl rfl rfl rfl rfl (by kernel_rfl) Try.func7 (by kernel_rfl)
    (of_decide_eq_true (by kernel_rfl)) (by unfold Func.isWrapper; first | (rw [if_pos (by decide +kernel)]; kernel_rfl) | (rw [if_neg (by decide +kernel)]; exact ⟨rfl, rfl⟩))
    (fun os started H enc _ => lifted os started H enc)
#print axioms proved


end Go.Proofs.Ytphhljbeaklikaa.negRows
