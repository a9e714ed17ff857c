/- ServeOnce holds: for every hosts and bindings, each address is there once, in the row of its first binding; whoever has a binding is not wanting; without bindings all are. -/
import Derived.Test.YtpaebheklhlipaaSvI
import Derived.BigQuiet
import Derived.ProofKit
import Derived.OpenShut
import Derived.ShutString
namespace Go.Proofs.Ytpaebheklhlipaa.serveOnce
open Go.ChangeShapes Go.WideShapes Go.ChangeAt Go.RowKit
open Go.ChangeMaps (open_string shut_string)
open Pl

/-- A host that is wanting and bears a binding's name is no name. -/
theorem want_no {hosts : List ByteArray} {bs : List Sv.Bn} {s : ByteArray} {j : Nat} (hj : j < bs.length) (hs : s ∈ Sv.wantL hosts bs) (he : bs[j].h = s) : isName s.data.toList = false := by
  have h1 := (List.mem_filter.1 hs).2
  unfold Sv.wantB at h1
  rw [Bool.and_eq_true] at h1
  have h2 : Sv.hasH bs s = false := by simpa using h1.1
  unfold Sv.hasH at h2
  rw [List.any_eq_false] at h2
  have h3 := h2 _ (List.getElem_mem hj)
  rw [he] at h3
  cases hn : isName s.data.toList with
  | false => rfl
  | true =>
    exfalso
    apply h3
    unfold sameB
    rw [hn]
    simp

set_option maxRecDepth 20000 in
set_option maxHeartbeats 8000000 in
theorem walk (v0 : Value) (hosts : List ByteArray) (v1 : Value) (bs : List Sv.Bn) (w : World) (hh : Sv.TxIn w v0 hosts) (hi : Sv.BnIn w v1 bs) :
    Calls Try.prog 4 #[v0, v1] w fun e w' => e = .returned (.bool true) ∧ Below w.heap.size w w' := by
  have HH : Hid (Sv.TxIn w v0 hosts) := hh
  have HI : Hid (Sv.BnIn w v1 bs) := hi
  obtain ⟨M, hM⟩ : ∃ M, M = bs.length := ⟨_, rfl⟩
  have HM : Hid (M = bs.length) := hM
  have hMl : M ≤ 2199023255490 := by rw [hM]; exact hi.len
  have HRB : Hid (Row w v1 M (Sv.bC bs)) := by unfold Hid; rw [hM]; exact hi.row
  obtain ⟨x1, c1, rfl, _⟩ := HRB.out.src
  obtain ⟨XS, hXS⟩ : ∃ XS, XS = Sv.asL bs := ⟨_, rfl⟩
  have HXS : Hid (XS = Sv.asL bs) := hXS
  have HXL : Hid (XS.length = M) := by unfold Hid; rw [hXS, Sv.asL_len, hM]
  obtain ⟨IA, hIA⟩ : ∃ IA, IA = Sv.adF XS := ⟨_, rfl⟩
  have HIA : Hid (IA = Sv.adF XS) := hIA
  obtain ⟨K, hK⟩ : ∃ K, K = IA.length := ⟨_, rfl⟩
  have HK : Hid (K = IA.length) := hK
  have hKM : K ≤ M := by rw [hK, hIA, ← HXL.out]; exact Sv.adF_len _
  obtain ⟨WA, hWA⟩ : ∃ WA, WA = Sv.wantL hosts bs := ⟨_, rfl⟩
  have HWA : Hid (WA = Sv.wantL hosts bs) := hWA
  obtain ⟨N, hN⟩ : ∃ N, N = WA.length := ⟨_, rfl⟩
  have HN : Hid (N = WA.length) := hN
  have hNl : N ≤ 8796093022000 := by rw [hN, hWA]; exact Nat.le_trans (Sv.want_len _ _) hh.len
  have HAB : Hid (∀ j (hj : j < bs.length), ∀ u, Below w.heap.size w u → ∃ g o cap, Value.slice x1 M c1 = .slice (some ⟨g, o, none⟩) M cap ∧ u.cell? ⟨g, o + j * 5 + 2, none⟩ = some (.int .i64 bs[j].a) ∧ u.cell? ⟨g, o + j * 5 + 1, none⟩ = some (.string bs[j].h)) := fun j hj u hu => by
    obtain ⟨g, o, cap, hx, hc⟩ := row_at (HRB.out.below hu) (by have := HM.out; omega)
    refine ⟨g, o, cap, hx, ?_, ?_⟩
    · rw [Nat.add_assoc]; exact hc (j * 5 + 2) _ (Sv.atBg hj 2 (by decide))
    · rw [Nat.add_assoc]; exact hc (j * 5 + 1) _ (Sv.atBg hj 1 (by decide))
  clear hh hi hM hXS hIA hK hWA hN
  go_enter Try.func4, Try.ntmps4
  go_wp2_with (first
    | (go_at_call 18; go_must (refine (Sv.awake_any _).mono ?_); rintro e w1 ⟨rfl, b1⟩; have ha := Sv.addrs_any _ bs w1 (by have := HI.out.below b1; exact this); rw [← HXS.out, ← HIA.out, ← HK.out] at ha)
    | (go_at_call 8; go_must (refine ha.mono ?_); rintro e w2 ⟨v2, rfl, o2, b2⟩; obtain ⟨y2, q2, rfl⟩ := row_slice (Row.of_own o2); have HB2 : Hid (Below w.heap.size w w2) := next b1 b2; have HO2 : Hid (Row w2 (.slice y2 K q2) K (iC IA)) := Row.of_own o2; clear o2 b1 b2 ha))
  go_loopw [6, 7] (fun kk ii wr => ∃ (k i : Nat), i ≤ M ∧ k ≤ i ∧ kk = .int .i64 (k : Int) ∧ ii = .int .i64 (i : Int) ∧ Hid (k = (Sv.adF (XS.take i)).length) ∧ Hid (Below w2.heap.size w2 wr)) (fun _ ii _ => M - (intOf ii).toNat)
  case atStart => exact ⟨0, 0, Nat.zero_le _, Nat.le_refl _, rfl, rfl, rfl, Below.refl _ _⟩
  case round =>
    obtain ⟨k, i, hiM, hki, rfl, rfl, HKK, HW⟩ := hrel
    obtain ⟨we, hwe⟩ : ∃ z, z = wr := ⟨_, rfl⟩
    subst hwe
    by_cases hiM' : i < M
    · have hi1 : (i : Int) < (M : Int) := by omega
      have hiu : i < bs.length := by have := HM.out; omega
      have hix : i < XS.length := by have := HXL.out; omega
      obtain ⟨g, o, cap, hx, hca, _⟩ := HAB.out i hiu we (next HB2.out HW.out)
      simp only [Value.slice.injEq, true_and] at hx
      obtain ⟨rfl, rfl⟩ := hx
      obtain ⟨xa, hxa⟩ : ∃ xa, xa = XS[i] := ⟨_, rfl⟩
      have HXA : Hid (xa = XS[i]) := hxa
      have HD : Hid (∀ j (hj : j < XS.length), ∀ u, Below we.heap.size we u → u.cell? ⟨g, o + j * 5 + 2, none⟩ = some (.int .i64 XS[j])) := fun j hj u hu => by
        have hjb : j < bs.length := by have h1 := HM.out; have h2 := HXL.out; omega
        obtain ⟨g', o', cap', hx', h2, _⟩ := HAB.out j hjb u (next (next HB2.out HW.out) hu)
        simp only [Value.slice.injEq, true_and, Option.some.injEq, Addr.mk.injEq, and_true] at hx'
        obtain ⟨⟨rfl, rfl⟩, rfl⟩ := hx'
        have e : XS[j] = bs[j].a := by simp only [HXS.out, Sv.asL_at hjb]
        rw [e]; exact h2
      clear hca hxa
      go_wp2
      go_loopw [8, 9] (fun t jj wr => ∃ (j : Nat) (b : Bool), j ≤ i ∧ t = .bool b ∧ jj = .int .i64 (j : Int) ∧ Hid (b = !Sv.hasI (XS.take j) xa) ∧ Hid (Below we.heap.size we wr)) (fun _ jj _ => i - (intOf jj).toNat)
      case atStart => exact ⟨0, true, Nat.zero_le _, rfl, rfl, rfl, Below.refl _ _⟩
      case round =>
        obtain ⟨j, b, hji, rfl, rfl, HB, HW2⟩ := hrel
        by_cases hj : j < i
        · have hj' : (j : Int) < (i : Int) := by omega
          have hjx : j < XS.length := by omega
          have hjM : (j : Int) < (M : Int) := by omega
          cases b with
          | false =>
            have HB2' : Hid (false = !Sv.hasI (XS.take (j + 1)) xa) := by
              unfold Hid
              have h1 := HB.out
              rw [Sv.hasI_take hjx]
              cases h : Sv.hasI (XS.take j) xa with
              | true => rfl
              | false => rw [h] at h1; cases h1
            go_wp2
            go_quiet (fail)
            go_wp2
            go_roundw
            case rel => exact ⟨j + 1, false, by omega, rfl, by go_num, HB2', next HW2.out (below_drew ⟨_, rfl⟩)⟩
            case measure => simp [intOf]; omega
          | true =>
            obtain ⟨q, hq⟩ : ∃ q, q = XS[j] := ⟨_, rfl⟩
            have d1 := HD.out j hjx wr HW2.out
            rw [← hq] at d1
            have d2 := HD.out i hix wr HW2.out
            rw [← HXA.out] at d2
            obtain ⟨r, hr⟩ : ∃ r, (q != xa) = r := ⟨_, rfl⟩
            have HB2' : Hid (r = !Sv.hasI (XS.take (j + 1)) xa) := by
              unfold Hid
              have h1 := HB.out
              rw [Sv.hasI_take hjx, ← hq, ← hr]
              cases h : Sv.hasI (XS.take j) xa with
              | true => rw [h] at h1; cases h1
              | false =>
                by_cases e : q = xa
                · subst e; simp
                · simp [e]
            clear hq
            go_wp2
            go_quiet (fail)
            go_wp2
            go_roundw
            case rel => exact ⟨j + 1, r, by omega, rfl, by go_num, HB2', next HW2.out (below_drew ⟨_, rfl⟩)⟩
            case measure => simp [intOf]; omega
        · have hj' : decide (j < i) = false := by simpa using hj
          obtain rfl : j = i := by omega
          cases b with
          | false =>
            have HS : Hid (k = (Sv.adF (XS.take (j + 1))).length) := by
              unfold Hid
              have h1 := HB.out
              rw [Sv.adF_next hix, ← HXA.out, if_pos (by cases h : Sv.hasI (XS.take j) xa with | true => rfl | false => rw [h] at h1; cases h1)]
              exact HKK.out
            go_wp2
            go_roundw
            case rel => exact ⟨k, j + 1, by omega, by omega, rfl, by go_num, HS, next HW.out HW2.out⟩
            case measure => simp [intOf]; omega
          | true =>
            have hno : Sv.hasI (XS.take j) xa = false := by have h1 := HB.out; cases h : Sv.hasI (XS.take j) xa with | true => rw [h] at h1; cases h1 | false => rfl
            obtain ⟨hlt, hat⟩ := Sv.adF_at hix (by rw [← HXA.out]; exact hno)
            rw [← HKK.out, ← HIA.out, ← HK.out] at hlt
            rw [← HKK.out, ← HIA.out, ← HXA.out] at hat
            have HS : Hid (k + 1 = (Sv.adF (XS.take (j + 1))).length) := by
              unfold Hid
              rw [Sv.adF_next hix, ← HXA.out, if_neg (by rw [hno]; simp), ← HKK.out]
            obtain ⟨g2, o2, cap2, hx2, hc2⟩ := row_at (HO2.out.below (next HW.out HW2.out)) (by omega)
            simp only [Value.slice.injEq, true_and] at hx2
            obtain ⟨rfl, rfl⟩ := hx2
            have dk : wr.cell? ⟨g2, o2 + k, none⟩ = some (.int .i64 xa) := hc2 k _ (by
              unfold iC
              have hk2 : k < IA.length := by have := HK.out; omega
              have := iC_at hk2
              rw [List.getElem?_eq_getElem hk2] at hat
              rw [Option.some.injEq] at hat
              rw [hat] at this
              exact this)
            have d2 := HD.out j hix wr HW2.out
            rw [← HXA.out] at d2
            have hge : decide ((K : Int) ≤ (k : Int)) = false := by simp; omega
            have hge2 : decide (K ≤ k) = false := by simp; omega
            have hkK : (k : Int) < (K : Int) := by omega
            clear hc2 hat hno
            go_wp2
            go_quiet (fail)
            go_wp2
            go_roundw
            case rel => exact ⟨k + 1, j + 1, by omega, by omega, by go_num, by go_num, HS, next HW.out (next HW2.out (below_drew ⟨_, rfl⟩))⟩
            case measure => simp [intOf]; omega
    · have hi1 : decide (i < M) = false := by simpa using hiM'
      obtain rfl : i = M := by omega
      have hkK : k = K := by
        rw [HKK.out, List.take_of_length_le (by rw [HXL.out]; exact Nat.le_refl _), HK.out, HIA.out]
      subst hkK
      have hwa := Sv.wanting_any v0 _ hosts bs we (HH.out.below (next HB2.out HW.out)) (HI.out.below (next HB2.out HW.out))
      rw [← HWA.out, ← HN.out] at hwa
      have HBE : Hid (Below w.heap.size w we) := next HB2.out HW.out
      go_wp2_with (go_at_call 9; go_must (refine hwa.mono ?_); rintro e w5 ⟨v5, rfl, o5, b5⟩; obtain ⟨y5, q5, rfl⟩ := row_slice (Row.of_own o5); have HB5 : Hid (Below w.heap.size w w5) := next HBE.out b5; have HO5 : Hid (Row w5 (.slice y5 N q5) N (tC WA)) := Row.of_own o5; clear o5 b5 hwa)
      go_loopw [11] (fun ii wr => ∃ (p : Nat), p ≤ N ∧ ii = .int .i64 (p : Int) ∧ Hid (Below w5.heap.size w5 wr)) (fun ii _ => N - (intOf ii).toNat)
      case atStart => exact ⟨0, Nat.zero_le _, rfl, Below.refl _ _⟩
      case round =>
        obtain ⟨p, hp, rfl, HP⟩ := hrel
        obtain ⟨wf, hwf⟩ : ∃ z, z = wr := ⟨_, rfl⟩
        subst hwf
        by_cases hpN : p < N
        · have hpN' : (p : Int) < (N : Int) := by omega
          have hpu : p < WA.length := by have := HN.out; omega
          obtain ⟨g5, o5, cap5, hx5, hc5⟩ := row_at (HO5.out.below HP.out) (by omega)
          simp only [Value.slice.injEq, true_and] at hx5
          obtain ⟨rfl, rfl⟩ := hx5
          obtain ⟨s, hs⟩ : ∃ s, s = WA[p] := ⟨_, rfl⟩
          have HSM : Hid (s ∈ Sv.wantL hosts bs) := by unfold Hid; rw [hs, ← HWA.out]; exact List.getElem_mem _
          have hsz : s.size ≤ 140737488351232 := HH.out.size s (List.mem_filter.1 HSM.out).1
          have HDS : Hid (∀ u, Below wf.heap.size wf u → u.cell? ⟨g5, o5 + p, none⟩ = some (.string s)) := fun u hu => by
            obtain ⟨g', o', cap', hx', hc'⟩ := row_at (HO5.out.below (next HP.out hu)) (by omega)
            simp only [Value.slice.injEq, true_and, Option.some.injEq, Addr.mk.injEq, and_true] at hx'
            obtain ⟨⟨rfl, rfl⟩, rfl⟩ := hx'
            rw [hs]
            exact hc' p _ (tC_at hpu)
          clear hc5 hs
          go_wp2
          go_loopw [12] (fun jj wr => ∃ (j : Nat), j ≤ i ∧ jj = .int .i64 (j : Int) ∧ Hid (Below wf.heap.size wf wr)) (fun jj _ => i - (intOf jj).toNat)
          case atStart => exact ⟨0, Nat.zero_le _, rfl, Below.refl _ _⟩
          case round =>
            obtain ⟨j, hji, rfl, HJ⟩ := hrel
            by_cases hj : j < i
            · have hj' : (j : Int) < (i : Int) := by omega
              have hjb : j < bs.length := by have := HM.out; omega
              obtain ⟨g, o, cap, hx, _, dh⟩ := HAB.out j hjb wr (next HB5.out (next HP.out HJ.out))
              simp only [Value.slice.injEq, true_and] at hx
              obtain ⟨rfl, rfl⟩ := hx
              obtain ⟨H, hH⟩ : ∃ H, H = bs[j].h := ⟨_, rfl⟩
              rw [← hH] at dh
              have HHE : Hid (bs[j].h = H) := hH.symm
              have ds := HDS.out wr HJ.out
              have HJ2 : Hid (∀ m, Below wf.heap.size wf (wr.drewN m)) := fun m => next HJ.out (below_drew ⟨m, rfl⟩)
              clear hH
              by_cases he : s = H
              · subst he
                have hnn := want_no hjb HSM.out HHE.out
                by_cases h0 : s.size = 0
                · have hse : s = ⟨#[]⟩ := by
                    apply ByteArray.ext
                    exact Array.eq_empty_of_size_eq_zero h0
                  have t0 : (s.toList == []) = true := by rw [hse, ByteArray.toList_eq]; rfl
                  clear hse hnn
                  go_wp2
                  go_quiet (fail)
                  go_wp2
                  go_roundw
                  case rel => exact ⟨j + 1, by omega, by go_num, HJ2.out _⟩
                  case measure => simp [intOf]; omega
                · have t0 : (s.toList == []) = false := by
                    rw [ByteArray.toList_eq, beq_eq_false_iff_ne]
                    intro e
                    apply h0
                    rw [← data_len, e]; rfl
                  by_cases h1 : s.size = 1
                  · have t1 : decide ((1 : Int) < (s.size : Int)) = false := by rw [h1]; rfl
                    clear hnn
                    go_wp2
                    go_quiet (fail)
                    go_wp2
                    go_roundw
                    case rel => exact ⟨j + 1, by omega, by go_num, HJ2.out _⟩
                    case measure => simp [intOf]; omega
                  · have t1 : (1 : Int) < (s.size : Int) := by omega
                    have hix := fun u => idx s (s.size - 1) ((s.size : Int) - 1) (by omega) (by omega) u
                    obtain ⟨z, hz⟩ : ∃ z, z = (s[s.size - 1]'(by omega)).toNat := ⟨_, rfl⟩
                    simp only [← hz] at hix
                    by_cases hz0 : z = 0
                    · have hsg := fun u => Sv.single_any s u (by omega) (by unfold maxLen; omega)
                      have hsb : Sv.singB (s[0]'(by omega)).toNat s.size = false := by
                        cases hsi : Sv.singB (s[0]'(by omega)).toNat s.size with
                        | false => rfl
                        | true =>
                          unfold Sv.singB at hsi
                          simp only [Bool.and_eq_true, decide_eq_true_eq] at hsi
                          rw [Sv.single_name (s := s) (n := (s[0]'(by omega)).toNat) (by omega) (by omega) (by omega) rfl (by rw [← hz]; exact hz0)] at hnn
                          cases hnn
                      rw [hsb] at hsg
                      subst hz0
                      clear hnn hsb hz
                      go_wp2
                      go_quiet ((go_at_call 19; exact Calls.quiet_of_same (hsg _)))
                      go_wp2
                      go_roundw
                      case rel => exact ⟨j + 1, by omega, by go_num, HJ2.out _⟩
                      case measure => simp [intOf]; omega
                    · have tz : ((z : Int) == 0) = false := by rw [beq_eq_false_iff_ne]; omega
                      clear hnn hz
                      go_wp2
                      go_quiet (fail)
                      go_wp2
                      go_roundw
                      case rel => exact ⟨j + 1, by omega, by go_num, HJ2.out _⟩
                      case measure => simp [intOf]; omega
              · have te : (s.toList == H.toList) = false := by rw [str_eqd]; simpa using he
                clear he
                go_wp2
                go_quiet (fail)
                go_wp2
                go_roundw
                case rel => exact ⟨j + 1, by omega, by go_num, HJ2.out _⟩
                case measure => simp [intOf]; omega
            · have hj' : decide (j < i) = false := by simpa using hj
              go_wp2
              go_roundw
              case rel => exact ⟨p + 1, by omega, by go_num, next HP.out HJ.out⟩
              case measure => simp [intOf]; omega
        · have hpN' : decide (p < N) = false := by simpa using hpN
          have HBF : Hid (Below w.heap.size w wf) := next HB5.out HP.out
          have hw0 := Sv.wanting_any v0 (.slice none 0 0) hosts [] wf (HH.out.below HBF.out) ⟨Row.nil _ _, by simp, fun b hb => by simp at hb⟩
          rw [Sv.want_none] at hw0
          go_wp2_with (first
            | (go_at_call 9; go_must (refine hw0.mono ?_); rintro e w7 ⟨v7, rfl, o7, b7⟩; have HB7 : Hid (Below w.heap.size w w7) := next HBF.out b7; have hl7 : hosts.length ≤ maxLen := (by have := HH.out.len; unfold maxLen; omega); have hs7 := sameT_any v7 v0 hosts hosts w7 (Row.of_own o7) (HH.out.below HB7.out).row hl7 hl7 true (by simp); clear o7 b7 hw0)
            | (go_at_call 12; go_must (refine hs7.mono ?_); rintro e w8 ⟨rfl, b8⟩))
          go_ret
          exact ⟨rfl, next HB7.out b8⟩

theorem own : ownKnob Try.prog.godebug = none := by kernel_rfl
theorem laidOut : laidOutB Try.prog = true := by kernel_rfl

set_option maxRecDepth 100000 in
theorem lifted (os : Os) (started : os.Started) (H : Type) (enc : TypeId × Value → H) :
    ReturnsInHanded {} Try.checked os 4 .any (Rows.serveOnceSpec.pre6 enc Try.prog Try.f4 Rows.serveOnceRow.domain false) (Rows.serveOnceSpec.post enc Try.prog Try.f4 false true false false) := by
  refine returnsInHanded_of_change_sized (C := Try.checked) own started (by kernel_rfl) Try.func4
    (ChangeSpec.witness6 (enc := enc) (C := Try.checked) false ⟨#[], #[.slice none 0 0, .slice none 0 0], []⟩ 8 (by kernel_rfl) (by kernel_rfl) (by kernel_rfl) (by kernel_rfl)) ?_
  intro W base args ds gs before hval0 hW _ hsz0 _
  have hval : ∀ (j : Nat) t v, Try.f4.params[j]? = some t → args[j]? = some v → Value.okWide Try.prog W .any base t v := hval0
  have hsz : (DataW.weightsEach Try.prog (Try.f4.params.toList ++ Rows.serveOnceSpec.plain.varTypes Try.prog) (ds ++ gs)).all (· ≤ reachBytes) = true := hsz0
  have hW' := hW
  obtain ⟨p, q, hA0, hV, rfl, hfz, hnd⟩ := hW
  have hA : DataW.TrodAll enc Try.prog W 0 (fun _ => true) true Try.f4.params.toList args.toList ds p := hA0
  rw [Try.params4] at hA hval hsz
  obtain ⟨v0, vs0, d0, ds0, p0, q0, hargs, rfl, rfl, h0, r0⟩ := trodAll_cons hA
  obtain ⟨v1, vs1, d1, ds1, p1, q1, rfl, rfl, rfl, h1, r1⟩ := trodAll_cons r0
  obtain ⟨rfl, rfl, rfl⟩ := trodAll_nil r1
  obtain rfl : args = #[v0, v1] := by cases args; simp_all
  obtain ⟨rfl, rfl⟩ := trodVars_none hV
  obtain ⟨a0, w0⟩ := Sv.open_texts (hval 0 22 v0 rfl rfl) h0 (weights_all hsz (j := 0) rfl rfl)
  obtain ⟨a1, w1⟩ := Sv.open_binds (hval 1 23 v1 rfl rfl) h1 (weights_all hsz (j := 1) rfl rfl)
  have hlt0 : ∀ x ∈ p0, x.block < W.heap.size := fun x hx => by
    have := hW'.lt x (by simp [hx])
    simpa using this
  have hlt1 : ∀ x ∈ p1, x.block < W.heap.size := fun x hx => by
    have := hW'.lt x (by simp [hx])
    simpa using this
  clear hA0 hval0 hsz0 hsz
  simp only [List.append_nil] at hW'
  refine (walk v0 a0 v1 a1   W w0 w1).mono fun e W' ⟨he, bel⟩ => ?_
  subst he
  exact ⟨_, rfl, _, _, _, [], _, [], hW', trodAll_mk1 (shut_bool Try.underlying4 _), (trodAll_cons_mk (Below.trod laidOut (by kernel_rfl) (of_decide_eq_true (by kernel_rfl)) h0 bel hlt0) (trodAll_cons_mk (Below.trod laidOut (by kernel_rfl) (of_decide_eq_true (by kernel_rfl)) h1 bel hlt1) trodAll_mk0)), rfl, bel.frame _, fun h => by cases h⟩

/-- The statement. -/
theorem proved : Rows.ServeOnceSaid :=
  OpenClaim.holds_of_wide 4 Try.f4 rfl rfl rfl rfl rfl rfl rfl ⟨rfl, rfl, rfl, rfl, rfl⟩ rfl rfl rfl rfl rfl (by kernel_rfl) Try.func4 (by kernel_rfl)
    (of_decide_eq_true (by kernel_rfl)) (by unfold Func.isWrapper; first | (rw [if_pos (by decide +kernel)]; kernel_rfl) | (rw [if_neg (by decide +kernel)]; exact ⟨rfl, rfl⟩))
    (fun os started H enc _ => lifted os started H enc)
#print axioms proved


end Go.Proofs.Ytpaebheklhlipaa.serveOnce
