/- ServeCut holds: for every cut, hosts and host of a binding, the hosts that are wanting are those that the cut is not above and that are not the binding's. -/
import Derived.Test.YtpaebheklhlipaaSvF
import Derived.BigQuiet
import Derived.ProofKit
import Derived.OpenShut
import Derived.ShutString
namespace Go.Proofs.Ytpaebheklhlipaa.serveCut
open Go.ChangeShapes Go.WideShapes Go.ChangeAt Go.RowKit
open Go.ChangeMaps (open_string shut_string)
open Pl

/-- One binding. -/
def oneB (cut own : ByteArray) : List Sv.Bn := [⟨cut, own, 1, ⟨#[]⟩, 0⟩]
theorem one_want (cut own h : ByteArray) : Sv.wantB (oneB cut own) h = (!sameB own.data.toList h.data.toList && !aboveB cut.data.toList h.data.toList) := by
  unfold Sv.wantB Sv.hasH oneB Sv.cutL
  simp
theorem one_addr (cut own : ByteArray) : Sv.adF (Sv.asL (oneB cut own)) = [1] := rfl
/-- The place of a host that is wanting. -/
theorem want_at {hosts : List ByteArray} {bs : List Sv.Bn} {i : Nat} (hi : i < hosts.length) (hw : Sv.wantB bs hosts[i] = true) : (Sv.wantL (hosts.take i) bs).length < (Sv.wantL hosts bs).length ∧ (tC (Sv.wantL hosts bs))[(Sv.wantL (hosts.take i) bs).length]? = some (.string hosts[i]) := by
  have e : Sv.wantL hosts bs = Sv.wantL (hosts.take i) bs ++ hosts[i] :: Sv.wantL (hosts.drop (i + 1)) bs := by
    have h1 : hosts = hosts.take i ++ hosts[i] :: hosts.drop (i + 1) := by rw [← List.drop_eq_getElem_cons hi, List.take_append_drop]
    conv => lhs; rw [h1]
    unfold Sv.wantL
    rw [List.filter_append, List.filter_cons, if_pos hw]
  refine ⟨by rw [e, List.length_append, List.length_cons]; omega, ?_⟩
  rw [e]
  unfold tC
  rw [List.getElem?_map, List.getElem?_append_right (Nat.le_refl _), Nat.sub_self]
  rfl

set_option maxRecDepth 20000 in
set_option maxHeartbeats 4000000 in
theorem walk (cut : ByteArray) (v1 : Value) (hosts : List ByteArray) (own : ByteArray) (hc0 : cut.size ≤ maxLen) (hw0 : own.size ≤ maxLen) (_ : cut.size ≤ 140737488351232) (_ : own.size ≤ 140737488351232) (w : World) (hh : Sv.TxIn w v1 hosts) :
    Calls Try.prog 5 #[.string cut, v1, .string own] w fun e w' => e = .returned (.bool true) ∧ Below w.heap.size w w' := by
  have hma := fun u => refMay_any cut u hc0
  have hmb := fun u => refMay_any own u hw0
  obtain ⟨x1, c1, rfl, _⟩ := hh.row.src
  obtain ⟨N, hN⟩ : ∃ N, N = hosts.length := ⟨_, rfl⟩
  have HN : Hid (N = hosts.length) := hN
  cases hA : isName cut.data.toList with
  | false =>
    rw [hA] at hma
    clear hN hA
    go_enter Try.func5, Try.ntmps5
    go_wp2_with (first
      | (go_at_call 18; go_must (refine (Sv.awake_any _).mono ?_); rintro e w1 ⟨rfl, b1⟩)
      | (go_at_call_of 20 (#[Value.string cut]); go_must (refine (hma _).mono ?_); rintro e w2 ⟨rfl, b2⟩))
    go_ret
    exact ⟨rfl, next b1 b2⟩
  | true =>
  rw [hA] at hma
  cases hB : isName own.data.toList with
  | false =>
    rw [hB] at hmb
    clear hN hA hB
    have t1 : True := trivial
    go_enter Try.func5, Try.ntmps5
    go_wp2_with (first
      | (go_at_call 18; go_must (refine (Sv.awake_any _).mono ?_); rintro e w1 ⟨rfl, b1⟩)
      | (go_at_call_of 20 (#[Value.string cut]); have _t := t1; go_must (refine (hma _).mono ?_); rintro e w2 ⟨rfl, b2⟩; clear t1)
      | (go_at_call_of 20 (#[Value.string own]); go_must (refine (hmb _).mono ?_); rintro e w3 ⟨rfl, b3⟩))
    go_ret
    exact ⟨rfl, next (next b1 b2) b3⟩
  | true =>
  rw [hB] at hmb
  have hs1 := name_size hA
  have hs2 := name_size hB
  have HH : Hid (Sv.TxIn w (.slice x1 N c1) hosts) := by unfold Hid; rw [hN]; exact hh
  have HR0 : Hid (Row w (.slice x1 N c1) N (tC hosts)) := by unfold Hid; rw [hN]; exact hh.row
  have hNl : N ≤ 8796093022000 := by rw [hN]; exact hh.len
  have HOK : Hid (∀ b ∈ oneB cut own, Sv.BnOk b) := fun b hb => by
    simp [oneB] at hb
    subst hb
    exact ⟨hc0, hw0, by show (Lit.int .i64 1).wf = true; decide⟩
  rw [← hN]
  clear hN hA hB hh
  have t1 : True := trivial
  go_enter Try.func5, Try.ntmps5
  go_wp2_with (first
    | (go_at_call 18; go_must (refine (Sv.awake_any _).mono ?_); rintro e w1 ⟨rfl, b1⟩)
    | (go_at_call 20; have _t := t1; go_must (refine (hma _).mono ?_); rintro e w2 ⟨rfl, b2⟩; clear t1)
    | (go_at_call 20; go_must (refine (hmb _).mono ?_); rintro e w3 ⟨rfl, b3⟩; have hb3 := next (next b1 b2) b3; have hb4 := lay hb3 (.cells #[.string cut, .string own, .int .i64 1, .string ⟨#[]⟩, .int .i64 0] 37); have hbi : Sv.BnIn (w3.alloc (.cells #[.string cut, .string own, .int .i64 1, .string ⟨#[]⟩, .int .i64 0] 37)) (.slice (some ⟨w3.heap.size, 0, none⟩) 1 1) (oneB cut own) := ⟨Row.of_blk (Blk.new _ _ _) rfl 1 1, (by simp [oneB]), HOK.out⟩; clear b1 b2 b3)
    | (go_at_call 9; go_must (refine (Sv.wanting_any _ _ hosts (oneB cut own) _ (HH.out.below hb4) hbi).mono ?_); rintro e w4 ⟨v4, rfl, o4, b4⟩; have HB4 : Hid (Below w.heap.size w w4) := next hb4 b4; have HBI : Hid (Sv.BnIn w4 (.slice (some ⟨w3.heap.size, 0, none⟩) 1 1) (oneB cut own)) := hbi.below b4; have HO4 : Hid (Row w4 v4 (Sv.wantL hosts (oneB cut own)).length (tC (Sv.wantL hosts (oneB cut own)))) := Row.of_own o4; clear o4 b4 hb4 hbi hb3))
  obtain ⟨M, hM⟩ : ∃ M, M = (Sv.wantL hosts (oneB cut own)).length := ⟨_, rfl⟩
  have HM : Hid (M = (Sv.wantL hosts (oneB cut own)).length) := hM
  have hml : M ≤ N := by rw [hM, HN.out]; exact Sv.want_len _ _
  rw [← hM] at HO4
  obtain ⟨x4, c4, rfl, _⟩ := HO4.out.src
  clear hM
  go_loopw [9, 10] (fun kk ii wr => ∃ (k i : Nat), i ≤ N ∧ k ≤ i ∧ kk = .int .i64 (k : Int) ∧ ii = .int .i64 (i : Int) ∧ Hid (k = (Sv.wantL (hosts.take i) (oneB cut own)).length) ∧ Hid (Below w4.heap.size w4 wr)) (fun _ ii _ => N - (intOf ii).toNat)
  case atStart => exact ⟨0, 0, Nat.zero_le _, Nat.le_refl _, rfl, rfl, rfl, Below.refl _ _⟩
  case round =>
    obtain ⟨k, i, hi, hki, rfl, rfl, HK, HW⟩ := hrel
    by_cases hin : i < N
    · have hin' : (i : Int) < (N : Int) := by omega
      have hiu : i < hosts.length := by have := HN.out; omega
      obtain ⟨g, o, cap, hx, hc⟩ := row_at (HR0.out.below (next HB4.out HW.out)) (by omega)
      simp only [Value.slice.injEq, true_and] at hx
      obtain ⟨rfl, rfl⟩ := hx
      obtain ⟨s, hs⟩ : ∃ s, s = hosts[i] := ⟨_, rfl⟩
      have d0 := hc i _ (tC_at hiu)
      rw [← hs] at d0
      have HD : Hid (∀ u, Below wr.heap.size wr u → u.cell? ⟨g, o + i, none⟩ = some (.string s)) := fun u hu => by
        have h1 := HR0.out.below (next (next HB4.out HW.out) hu)
        obtain ⟨g', o', cap', hx', hc'⟩ := row_at h1 (by omega)
        simp only [Value.slice.injEq, true_and, Option.some.injEq, Addr.mk.injEq, and_true] at hx'
        obtain ⟨⟨rfl, rfl⟩, rfl⟩ := hx'
        rw [hs]
        exact hc' i _ (tC_at hiu)
      have HXS : Hid (hosts[i] = s) := hs.symm
      have hsm : s.size ≤ maxLen := by have := HH.out.size hosts[i] (List.getElem_mem _); rw [← hs] at this; unfold maxLen; omega
      have hab := fun u => refAbove_any cut s u hc0 hsm
      have hsa := fun u => refSame_any own s u hw0 hsm
      obtain ⟨A, hA⟩ : ∃ A, A = aboveB cut.data.toList s.data.toList := ⟨_, rfl⟩
      obtain ⟨S, hS⟩ : ∃ S, S = sameB own.data.toList s.data.toList := ⟨_, rfl⟩
      have HWB : Hid (Sv.wantB (oneB cut own) s = (!S && !A)) := by unfold Hid; rw [one_want, hA, hS]
      simp only [← hA] at hab
      simp only [← hS] at hsa
      have HNO : Hid ((!S && !A) = false → k = (Sv.wantL (hosts.take (i + 1)) (oneB cut own)).length) := fun h => by
        rw [Sv.want_take hiu, HXS.out, HWB.out, h, HK.out]; simp
      clear hs hc hA hS
      cases A with
      | true =>
        have HK2 : Hid (k = (Sv.wantL (hosts.take (i + 1)) (oneB cut own)).length) := HNO.out (by simp)
        go_wp2_with (go_at_call 21; go_must (refine (hab _).mono ?_); rintro e w5 ⟨rfl, b5⟩; have HB5 : Hid (Below w4.heap.size w4 w5) := next HW.out b5; clear b5)
        go_roundw
        case rel => exact ⟨k, i + 1, by omega, by omega, rfl, by go_num, HK2, HB5⟩
        case measure => simp [intOf]; omega
      | false =>
        cases S with
        | true =>
          have HK2 : Hid (k = (Sv.wantL (hosts.take (i + 1)) (oneB cut own)).length) := HNO.out (by simp)
          go_wp2_with (first
            | (go_at_call 21; go_must (refine (hab _).mono ?_); rintro e w5 ⟨rfl, b5⟩; have d1 := HD.out w5 b5)
            | (go_at_call 22; go_must (refine (hsa _).mono ?_); rintro e w6 ⟨rfl, b6⟩; have HB6 : Hid (Below w4.heap.size w4 w6) := next (next HW.out b5) b6; clear b6 b5))
          go_roundw
          case rel => exact ⟨k, i + 1, by omega, by omega, rfl, by go_num, HK2, HB6⟩
          case measure => simp [intOf]; omega
        | false =>
          have hwt : Sv.wantB (oneB cut own) hosts[i] = true := by rw [HXS.out, HWB.out]; rfl
          obtain ⟨hlt, hat⟩ := want_at hiu hwt
          rw [← HK.out, ← HM.out] at hlt
          rw [← HK.out, HXS.out] at hat
          have HAT : Hid ((tC (Sv.wantL hosts (oneB cut own)))[k]? = some (.string s)) := hat
          have HK2 : Hid (k + 1 = (Sv.wantL (hosts.take (i + 1)) (oneB cut own)).length) := by
            unfold Hid
            rw [Sv.want_take hiu, hwt, HK.out]; simp
          obtain ⟨g4, o4, cap4, hx4, hc4⟩ := row_at HO4.out (by omega)
          simp only [Value.slice.injEq, true_and] at hx4
          obtain ⟨rfl, rfl⟩ := hx4
          have HD4 : Hid (∀ u, Below w4.heap.size w4 u → u.cell? ⟨g4, o4 + k, none⟩ = some (.string s)) := fun u hu => by
            obtain ⟨g', o', cap', hx', hc'⟩ := row_at (HO4.out.below hu) (by omega)
            simp only [Value.slice.injEq, true_and, Option.some.injEq, Addr.mk.injEq, and_true] at hx'
            obtain ⟨⟨rfl, rfl⟩, rfl⟩ := hx'
            exact hc' k _ HAT.out
          have hge : decide ((M : Int) ≤ (k : Int)) = false := by simp; omega
          have hge2 : decide (M ≤ k) = false := by simp; omega
          have hkM : (k : Int) < (M : Int) := by omega
          clear hat hc4 hwt
          go_wp2_with (first
            | (go_at_call 21; go_must (refine (hab _).mono ?_); rintro e w5 ⟨rfl, b5⟩; have d1 := HD.out w5 b5)
            | (go_at_call 22; go_must (refine (hsa _).mono ?_); rintro e w6 ⟨rfl, b6⟩; have d2 := HD.out w6 (next b5 b6); have d4 := HD4.out w6 (next (next HW.out b5) b6); have HB6 : Hid (Below w4.heap.size w4 w6) := next (next HW.out b5) b6; clear b6 b5 d1 d0))
          go_quiet (fail)
          go_wp2
          go_roundw
          case rel => exact ⟨k + 1, i + 1, by omega, by omega, by go_num, by go_num, HK2, next HB6.out (below_drew ⟨_, rfl⟩)⟩
          case measure => simp [intOf]; omega
    · have hin' : decide (i < N) = false := by simpa using hin
      obtain rfl : k = M := by rw [HK.out, HM.out, List.take_of_length_le (by have := HN.out; omega)]
      have t1 : True := trivial
      have ha1 := Sv.addrs_any _ _ wr (HBI.out.below HW.out)
      rw [one_addr] at ha1
      go_wp2_with (first
        | (go_at_call 8; have _t := t1; go_must (refine ha1.mono ?_); rintro e w5 ⟨v5, rfl, o5, b5⟩; have hb5 := next (next HB4.out HW.out) b5; have HO5 : Hid (Row w5 v5 1 (iC [1])) := Row.of_own o5; have hsi := Sv.sameI_any v5 (.slice (some ⟨w5.heap.size, 0, none⟩) 1 1) [1] [1] (w5.alloc (.cells #[.int .i64 1] 3)) (HO5.out.below (lay (Below.refl _ _) _)) (Row.of_blk (Blk.new _ _ _) rfl 1 1) (by decide) (by decide) true rfl; have hb6 := lay hb5 (.cells #[.int .i64 1] 3); clear o5 b5 ha1 hb5 t1)
        | (go_at_call 10; go_must (refine hsi.mono ?_); rintro e w6 ⟨rfl, b6⟩; have hb7 := next hb6 b6; have ha2 := Sv.addrs_any (.slice none 0 0) [] w6 ⟨Row.nil _ _, (by decide), (fun b hb => by simp at hb)⟩; clear hsi b6 hb6)
        | (go_at_call 8; go_must (refine ha2.mono ?_); rintro e w7 ⟨v7, rfl, o7, b7⟩; have hb8 := next hb7 b7; obtain ⟨x7, c7, rfl, _⟩ := (Row.of_own o7).src; have h7 : (Sv.adF (Sv.asL [])).length = 0 := rfl; clear b7 hb7 ha2)
        | (go_at_call 23; refine (num_any _ _).mono ?_; rintro e w' ⟨rfl, hw⟩; obtain rfl := hw.symm))
      go_ret
      exact ⟨rfl, hb8⟩

theorem own : ownKnob Try.prog.godebug = none := by kernel_rfl
theorem laidOut : laidOutB Try.prog = true := by kernel_rfl

set_option maxRecDepth 100000 in
theorem lifted (os : Os) (started : os.Started) (H : Type) (enc : TypeId × Value → H) :
    ReturnsInHanded {} Try.checked os 5 .any (Rows.serveCutSpec.pre6 enc Try.prog Try.f5 Rows.serveCutRow.domain false) (Rows.serveCutSpec.post enc Try.prog Try.f5 false true false false) := by
  refine returnsInHanded_of_change_sized (C := Try.checked) own started (by kernel_rfl) Try.func5
    (ChangeSpec.witness6 (enc := enc) (C := Try.checked) false ⟨#[], #[.string ByteArray.empty, .slice none 0 0, .string ByteArray.empty], []⟩ 8 (by kernel_rfl) (by kernel_rfl) (by kernel_rfl) (by kernel_rfl)) ?_
  intro W base args ds gs before hval0 hW _ hsz0 _
  have hval : ∀ (j : Nat) t v, Try.f5.params[j]? = some t → args[j]? = some v → Value.okWide Try.prog W .any base t v := hval0
  have hsz : (DataW.weightsEach Try.prog (Try.f5.params.toList ++ Rows.serveCutSpec.plain.varTypes Try.prog) (ds ++ gs)).all (· ≤ reachBytes) = true := hsz0
  have hW' := hW
  obtain ⟨p, q, hA0, hV, rfl, hfz, hnd⟩ := hW
  have hA : DataW.TrodAll enc Try.prog W 0 (fun _ => true) true Try.f5.params.toList args.toList ds p := hA0
  rw [Try.params5] at hA hval hsz
  obtain ⟨v0, vs0, d0, ds0, p0, q0, hargs, rfl, rfl, h0, r0⟩ := trodAll_cons hA
  obtain ⟨v1, vs1, d1, ds1, p1, q1, rfl, rfl, rfl, h1, r1⟩ := trodAll_cons r0
  obtain ⟨v2, vs2, d2, ds2, p2, q2, rfl, rfl, rfl, h2, r2⟩ := trodAll_cons r1
  obtain ⟨rfl, rfl, rfl⟩ := trodAll_nil r2
  obtain rfl : args = #[v0, v1, v2] := by cases args; simp_all
  obtain ⟨rfl, rfl⟩ := trodVars_none hV
  obtain ⟨a0, rfl, rfl, rfl, w0⟩ := open_string Try.underlying9 (hval 0 9 v0 rfl rfl) h0
  obtain ⟨a1, w1⟩ := Sv.open_texts (hval 1 22 v1 rfl rfl) h1 (weights_all hsz (j := 1) rfl rfl)
  obtain ⟨a2, rfl, rfl, rfl, w2⟩ := open_string Try.underlying9 (hval 2 9 v2 rfl rfl) h2
  have hlt1 : ∀ x ∈ p1, x.block < W.heap.size := fun x hx => by
    have := hW'.lt x (by simp [hx])
    simpa using this
  have z0 : a0.size ≤ 140737488351232 := by have := sized_string hsz (j := 0) (t := 9) rfl rfl; rw [data_len] at this; unfold reachBytes at this; omega
  have z2 : a2.size ≤ 140737488351232 := by have := sized_string hsz (j := 2) (t := 9) rfl rfl; rw [data_len] at this; unfold reachBytes at this; omega
  clear hA0 hval0 hsz0 hsz
  simp only [List.append_nil] at hW'
  refine (walk a0 v1 a1 a2 w0 w2 z0 z2 W w1).mono fun e W' ⟨he, bel⟩ => ?_
  subst he
  exact ⟨_, rfl, _, _, _, [], _, [], hW', trodAll_mk1 (shut_bool Try.underlying4 _), (trodAll_cons_mk (shut_string Try.underlying9 w0) (trodAll_cons_mk (Below.trod laidOut (by kernel_rfl) (of_decide_eq_true (by kernel_rfl)) h1 bel hlt1) (trodAll_cons_mk (shut_string Try.underlying9 w2) trodAll_mk0))), rfl, bel.frame _, fun h => by cases h⟩

/-- The statement. -/
theorem proved : Rows.ServeCutSaid :=
  OpenClaim.holds_of_wide 5 Try.f5 rfl rfl rfl rfl rfl rfl rfl ⟨rfl, rfl, rfl, rfl, rfl⟩ rfl rfl rfl rfl rfl (by kernel_rfl) Try.func5 (by kernel_rfl)
    (of_decide_eq_true (by kernel_rfl)) (by unfold Func.isWrapper; first | (rw [if_pos (by decide +kernel)]; kernel_rfl) | (rw [if_neg (by decide +kernel)]; exact ⟨rfl, rfl⟩))
    (fun os started H enc _ => lifted os started H enc)
#print axioms proved


end Go.Proofs.Ytpaebheklhlipaa.serveCut
