/- CutsTrace holds: for every row of acts and every tick, each address of a cut is of one of its hosts, and was told by a cut strictly above it. -/
import Derived.Test.YtnjgdfmldjgloaaXCtB
import Derived.ProofKit
import Derived.OpenShut
import Derived.ShutString
namespace Go.Proofs.Ytnjgdfmldjgloaa.cutsTrace
open Go.ChangeShapes Go.WideShapes Go.ChangeAt Go.RowKit
open Go.ChangeMaps (open_string shut_string)
open Pl

theorem refBelow_as (a b : ByteArray) (r : Bool) (w : World) (ha : a.size ≤ maxLen) (hb : b.size ≤ maxLen) (h : Cu.tellOk a b = r) :
    Calls Try.prog 19 #[.string a, .string b] w fun e w' => e = .returned (.bool r) ∧ Below w.heap.size w w' := by
  unfold Cu.tellOk at h
  have hab := fun u => refAbove_any a b u ha hb
  cases h1 : aboveB a.data.toList b.data.toList with
  | false =>
    rw [h1] at h hab
    simp only [Bool.false_and] at h
    subst h
    go_enter Try.func19, Try.ntmps19
    go_wp2_with (go_at_call 15; go_must (refine (hab _).mono ?_); rintro e w1 ⟨rfl, b1⟩)
    go_ret
    exact ⟨rfl, b1⟩
  | true =>
    rw [h1] at h hab
    simp only [Bool.true_and] at h
    obtain ⟨s, hs⟩ : ∃ s, sameB a.data.toList b.data.toList = s := ⟨_, rfl⟩
    rw [hs] at h
    subst h
    go_enter Try.func19, Try.ntmps19
    go_wp2_with (first
      | (go_at_call 15; go_must (refine (hab _).mono ?_); rintro e w1 ⟨rfl, b1⟩)
      | (go_at_call 42; go_must (refine (refSame_as a b s _ ha hb hs).mono ?_); rintro e w2 ⟨rfl, b2⟩))
    go_ret
    exact ⟨rfl, next b1 b2⟩
def WX (w w7 wr : World) (o : Cu.OB) (F : List Cu.Ct) (M : Nat → Prop) (kb : Nat) (C : Array Value) : Prop := Below w7.heap.size w7 wr ∧ Cu.LW w wr o Cu.Hs2 Cu.Hb2 F M ∧ Blk wr kb C 45
def BX7 (w w7 wr : World) (o : Cu.OB) (F : List Cu.Ct) (M : Nat → Prop) : Prop := Below w7.heap.size w7 wr ∧ Cu.LW w wr o Cu.Hs2 Cu.Hb2 F M

set_option maxRecDepth 20000 in
set_option maxHeartbeats 16000000 in
theorem walk (v0 : Value) (rs : List Cu.Ca) (now : Int) (_ : (Lit.int .i64 now).wf = true) (w : World) (hr0 : Row w v0 rs.length (Cu.caC rs) ∧ rs.length ≤ maxLen ∧ ∀ r ∈ rs, Cu.CaOk w r) :
    Calls Try.prog 3 #[v0, .int .i64 now] w fun e w' => e = .returned (.bool true) ∧ Below w.heap.size w w' := by
  obtain ⟨x0, c0, rfl, _⟩ := hr0.1.src
  obtain ⟨n0, hn0⟩ : ∃ n, n = rs.length := ⟨_, rfl⟩
  have HN0 : Hid (n0 = rs.length) := hn0
  have HR0 : Hid (Row w (.slice x0 n0 c0) n0 (Cu.caC rs)) := by unfold Hid; rw [hn0]; exact hr0.1
  have HOK : Hid (∀ r ∈ rs, Cu.CaOk w r) := hr0.2.2
  have hm0 : n0 ≤ maxLen := by rw [hn0]; exact hr0.2.1
  unfold maxLen at hm0
  rw [← hn0]
  clear hr0 hn0
  go_enter Try.func3, Try.ntmps3
  go_wp2_with (first
    | (go_at_call 8; go_must (refine (Cu.awake_any _).mono ?_); rintro e w1 ⟨rfl, b1⟩)
    | (go_at_call 10; go_must (refine (Cu.hints_any _).mono ?_); rintro e wh ⟨rfl, rfl⟩)
    | (go_at_call 9; go_must (refine (Cu.lw_hints (M := fun _ => False) b1 (fun _ h => h.elim)).mono ?_); rintro e w2 ⟨o, rfl, s2, _⟩; have HD0 : Hid (∃ F, Cu.FTr 0 F ∧ Cu.LW w w2 o Cu.Hs2 Cu.Hb2 F (fun _ => False)) := ⟨[], Cu.FTr.start, s2⟩; clear b1 s2))
  go_loopw [7, 8] (fun s7 k wr => ∃ (i t : Nat), i ≤ n0 ∧ i ≤ 60 ∧ t ≤ 3 * i ∧ s7 = .int .i64 (t : Int) ∧ k = .int .i64 (i : Int) ∧ Hid (∃ F, Cu.FTr i F ∧ Cu.LW w wr o Cu.Hs2 Cu.Hb2 F (fun _ => False))) (fun _ k _ => 60 - (intOf k).toNat)
  case atStart => exact ⟨0, 0, Nat.zero_le _, Nat.zero_le _, Nat.zero_le _, rfl, rfl, HD0⟩
  case round =>
    clear HD0
    obtain ⟨i, t, hi0, hi6, ht, rfl, rfl, HX⟩ := hrel
    by_cases hlt : i < n0 ∧ i < 60
    · obtain ⟨h0, h60⟩ := hlt
      have h60' : (i : Int) < 60 := by omega
      obtain ⟨F, hF, hW⟩ := HX.out
      have him : i < rs.length := by have := HN0.out; omega
      obtain ⟨g0, o0, cp0, hx, hc0⟩ := row_at (HR0.out.below hW.bel) (by omega)
      simp only [Value.slice.injEq] at hx
      obtain ⟨rfl, -, rfl⟩ := hx
      have hpk := HOK.out _ (List.getElem_mem him)
      obtain ⟨⟨pk, ⟨pc, phs, pgl, pttl⟩, phv, pgv, pfr, pnow, ph, pa, pu, pn⟩, hp⟩ : ∃ p, p = rs[i] := ⟨_, rfl⟩
      have hat := fun k hk => Cu.caC_at him k hk
      rw [← hp] at hat hpk
      have d0 := hc0 (i * 11 + 0) _ (hat 0 (by omega))
      have d1 := hc0 (i * 11 + 1) _ (hat 1 (by omega))
      have d2 := hc0 (i * 11 + 2) _ (hat 2 (by omega))
      have d3 := hc0 (i * 11 + 3) _ (hat 3 (by omega))
      have d4 := hc0 (i * 11 + 4) _ (hat 4 (by omega))
      have d5 := hc0 (i * 11 + 5) _ (hat 5 (by omega))
      have d6 := hc0 (i * 11 + 6) _ (hat 6 (by omega))
      have d7 := hc0 (i * 11 + 7) _ (hat 7 (by omega))
      have d8 := hc0 (i * 11 + 8) _ (hat 8 (by omega))
      have d9 := hc0 (i * 11 + 9) _ (hat 9 (by omega))
      have d10 := hc0 (i * 11 + 10) _ (hat 10 (by omega))
      simp only [Nat.add_zero, ← Nat.add_assoc] at d0 d1 d2 d3 d4 d5 d6 d7 d8 d9 d10
      obtain ⟨xh, ch, hhv, _⟩ := hpk.din.hc
      obtain ⟨xg, cg, hgv, _⟩ := hpk.din.gr.src
      simp only at hhv hgv
      subst hhv hgv
      have HCA : Hid (Cu.CaOk w ⟨pk, ⟨pc, phs, pgl, pttl⟩, .slice xh phs.length ch, .slice xg pgl.length cg, pfr, pnow, ph, pa, pu, pn⟩) := hpk
      obtain ⟨dd, hdd, hdb⟩ : ∃ dd : Nat, dd < 4 ∧ bits .and .i64 pnow 3 = (dd : Int) := by
        refine ⟨(pnow % 4).toNat, by omega, ?_⟩
        have := mask pnow 2 (by decide)
        simp only [Nat.reducePow, Nat.reduceSub] at this
        have e : bits .and .i64 pnow 3 = pnow % 4 := this
        rw [e]; omega
      obtain ⟨t', ht'⟩ : ∃ t' : Nat, t' = t + dd := ⟨_, rfl⟩
      have hti : (t : Int) + (dd : Int) = (t' : Int) := by omega
      have htb : t' ≤ 3 * (i + 1) := by omega
      obtain ⟨CA, hCA⟩ : ∃ CA : Array Value, CA = #[.int .i64 pk, .string pc, .slice xh phs.length ch, .slice xg pgl.length cg, .int .i64 pttl, .string pfr, .int .i64 pnow, .string ph, .int .i64 pa, .int .i64 pu, .string pn] := ⟨_, rfl⟩
      have HPN : Hid (pn.size ≤ maxLen) := hpk.n
      have h1 := hW.more (M' := fun k => k = wr.heap.size) (lay (Below.refl wr.heap.size wr) (.cells #[.int .i64 pk, .string pc, .slice xh phs.length ch, .slice xg pgl.length cg, .int .i64 pttl, .string pfr, .int .i64 pnow, .string ph, .int .i64 pa, .int .i64 pu, .string pn] 35)) (fun k hk => ⟨.inr (by rw [hk]; exact Nat.le_refl _), by rw [hk, World.size_alloc]; exact Nat.lt_succ_self _⟩)
      have HKY : Hid (Blk (wr.alloc (.cells #[.int .i64 pk, .string pc, .slice xh phs.length ch, .slice xg pgl.length cg, .int .i64 pttl, .string pfr, .int .i64 pnow, .string ph, .int .i64 pa, .int .i64 pu, .string pn] 35)) wr.heap.size #[.int .i64 pk, .string pc, .slice xh phs.length ch, .slice xg pgl.length cg, .int .i64 pttl, .string pfr, .int .i64 pnow, .string ph, .int .i64 pa, .int .i64 pu, .string pn] 35) := Blk.new wr _ _
      have HF : Hid (Cu.FTr i F) := hF
      have HFEW : Hid (∀ c ∈ F, c.bs.length < 256) := hF.few (by omega)
      clear hc0 hat hp him hpk hW HX hF hCA CA ht'
      by_cases hk6 : pk < 6
      · have hpt := h1.put (d := ⟨pc, phs, pgl, pttl⟩) (HCA.out.din.below h1.bel) pfr (t' : Int) HCA.out.fr _ rfl _ rfl
        obtain ⟨F4, hF4⟩ : ∃ F4, F4 = Cu.putC F ⟨pc, phs, pgl, pttl⟩ pfr (t' : Int) := ⟨_, rfl⟩
        have HF4 : Hid (Cu.FTr (i + 1) F4) := by unfold Hid; rw [hF4]; exact HF.out.put _ _ _
        obtain ⟨er, her⟩ : ∃ er, er = Cu.errC ⟨pc, phs, pgl, pttl⟩ pfr (t' : Int) := ⟨_, rfl⟩
        rw [← hF4, ← her] at hpt
        unfold Cu.dV at hpt
        simp only at hpt
        clear hF4 her h1
        go_wp2_with (go_at_call 11; go_must (refine hpt.mono ?_); rintro e w4 ⟨rfl, lw4, T4⟩; have HKN : Hid (∀ U, Below w4.heap.size w4 U → U.cell? ⟨wr.heap.size, 10, none⟩ = some (.string pn)) := (fun U hU => ((T4.blk HKY.out (fun h => h.2 rfl)).below hU).cell 10); have n4 := HKN.out w4 (Below.refl _ _); have HL4 : Hid (Cu.LW w w4 o Cu.Hs2 Cu.Hb2 F4 (fun k => k = wr.heap.size)) := lw4; clear hpt lw4 T4)
        obtain ⟨M, hM⟩ : ∃ M : Nat → Prop, M = fun k => k = wr.heap.size := ⟨_, rfl⟩
        rw [← hM] at HL4
        clear hM d0 d1 d2 d3 d4 d5 d6 d7 d8 d9 d10 HFEW HF HKY
        obtain ⟨CC, hCC⟩ : ∃ CC, Cu.deepF F4 pn (t' : Int) = CC := ⟨_, rfl⟩
        have HDI : Hid (Cu.DeepIs F4 pn (t' : Int) CC) := by unfold Hid; rw [← hCC]; exact Cu.deep_is HF4.out pn (t' : Int)
        have HCS : Hid (CC.size ≤ maxLen) := by have := HDI.out.size; unfold Hid maxLen; omega
        have hok4 := HL4.out.ok
        obtain ⟨HX, hHX⟩ : ∃ HX, Cu.hostsF Cu.Hs2 F4 CC (t' : Int) = HX := ⟨_, rfl⟩
        obtain ⟨BX, hBX⟩ : ∃ BX, Cu.bindF Cu.Hb2 F4 CC (t' : Int) = BX := ⟨_, rfl⟩
        obtain ⟨NH9, hNH⟩ : ∃ n, HX.length = n := ⟨_, rfl⟩
        obtain ⟨NB9, hNB⟩ : ∃ n, BX.length = n := ⟨_, rfl⟩
        have hfew := Cu.few_hosts hok4 CC (t' : Int)
        rw [hHX, hBX, hNH, hNB] at hfew
        obtain ⟨hf8, hf256⟩ := hfew
        have HBG : Hid (∀ b ∈ BX, Cu.BGood CC HX (t' : Int) b) := by
          have := Cu.binds_good HF4.out hok4 HDI.out
          rw [hHX, hBX] at this
          exact this
        have HNH : Hid (HX.length = NH9) := hNH
        have HNB : Hid (BX.length = NB9) := hNB
        have hde := HL4.out.deep pn (t' : Int) HPN.out CC hCC
        have HHX : Hid (Cu.hostsF Cu.Hs2 F4 CC (t' : Int) = HX ∧ Cu.bindF Cu.Hb2 F4 CC (t' : Int) = BX) := ⟨hHX, hBX⟩
        have HFD : Hid (foldR CC.data.toList = CC.data.toList) := by
          have := congrArg (fun z : ByteArray => z.data.toList) HDI.out.fd
          simp only [fdB_list] at this
          exact this
        clear hCC hHX hBX hNH hNB hok4
        cases hnm : isName pn.data.toList with
        | false =>
          go_wp2_with (first
            | (go_at_call 13; go_must (refine hde.mono ?_); rintro e w5 ⟨rfl, lw5, b5⟩; have n5 := HKN.out w5 b5; have HL5 : Hid (Below w4.heap.size w4 w5 ∧ Cu.LW w w5 o Cu.Hs2 Cu.Hb2 F4 M) := ⟨b5, lw5⟩; clear hde lw5 b5)
            | (go_at_call 14; go_must (refine (refMay_as pn false _ HPN.out hnm).mono ?_); rintro e w6 ⟨rfl, b6⟩; have HL6 : Hid (Cu.LW w w6 o Cu.Hs2 Cu.Hb2 F4 M) := HL5.out.2.below b6; clear b6 n5)
            | (go_at_call 16; go_must (refine (refFold_as CC CC _ HCS.out HFD.out).mono ?_); rintro e wf ⟨rfl, bf⟩; have hho := (HL6.out.below bf).hosts CC (t' : Int) HCS.out HX HHX.out.1 NH9 HNH.out; clear bf)
            | (go_at_call 17; go_must (refine hho.mono ?_); rintro e wg ⟨ys, cs, rfl, og, lg, _⟩; have hbi := lg.binds CC (t' : Int) HCS.out BX HHX.out.2 NB9 HNB.out; have HOG : Hid (wg.ownsRow _ 9 1 (.slice ys NH9 cs) NH9 (tC HX)) := og; clear hho lg og)
            | (go_at_call 18; go_must (refine hbi.mono ?_); rintro e w7 ⟨yb, cb, rfl, ob, lb, bb⟩; have HROW : Hid (∀ U, Below w7.heap.size w7 U → U.ownsRow _ 9 1 (.slice ys NH9 cs) NH9 (tC HX) ∧ U.ownsRow _ 45 5 (.slice yb NB9 cb) NB9 (Cu.bC BX)) := fun U hU => ⟨own_past (own_past HOG.out bb) hU, own_past ob hU⟩; have HW7 : Hid (BX7 w w7 w7 o F4 M) := ⟨Below.refl _ _, lb⟩; clear hbi lb ob bb))
          clear HL5 HL6 HOG
          go_loopw [13] (fun k wr => ∃ q : Nat, q ≤ NB9 ∧ k = .int .i64 (q : Int) ∧ Hid (BX7 w w7 wr o F4 M)) (fun k _ => NB9 - (intOf k).toNat)
          case atStart => exact ⟨0, Nat.zero_le _, rfl, HW7⟩
          case round =>
            clear HW7
            obtain ⟨q, hq, rfl, HWQ⟩ := hrel
            by_cases hqn : q < NB9
            · have hqn' : (q : Int) < (NB9 : Int) := by omega
              have hqX : q < BX.length := by have := HNB.out; omega
              obtain ⟨gb, cx, hxb, _, _⟩ := (HROW.out _ HWQ.out.1).2.form (by omega)
              simp only [Value.slice.injEq] at hxb
              obtain ⟨rfl, -, rfl⟩ := hxb
              obtain ⟨⟨bc, bh, ba, bf, bu⟩, hp⟩ : ∃ p, p = BX[q] := ⟨_, rfl⟩
              have hgb := HBG.out _ (List.getElem_mem hqX)
              rw [← hp] at hgb
              have hcut := hgb.cut
              simp only at hcut
              subst hcut
              have HGB : Hid (Cu.BGood bc HX (t' : Int) ⟨bc, bh, ba, bf, bu⟩) := hgb
              have hL := (lies_own (HROW.out _ HWQ.out.1).2).1
              have hfl := fun k hk => flat_get (f := Cu.bV) (z := 5) (fun _ => rfl) BX q hqX k hk
              rw [← hp] at hfl
              have d0 := hL (q * 5 + 0) _ (hfl 0 (by omega))
              have d1 := hL (q * 5 + 1) _ (hfl 1 (by omega))
              have d2 := hL (q * 5 + 2) _ (hfl 2 (by omega))
              have d3 := hL (q * 5 + 3) _ (hfl 3 (by omega))
              have d4 := hL (q * 5 + 4) _ (hfl 4 (by omega))
              simp only [Nat.add_zero] at d0
              clear hL hfl hp hgb hqX
              go_wp2
              obtain ⟨we, hwe⟩ : ∃ we, we = wr.alloc (.cells #[.string bc, .string bh, .int .i64 ba, .string bf, .int .i64 bu] 45) := ⟨_, rfl⟩
              obtain ⟨kb, hkb⟩ : ∃ kb, kb = wr.heap.size := ⟨_, rfl⟩
              have HWE0 : Hid (WX w w7 we o F4 M kb #[.string bc, .string bh, .int .i64 ba, .string bf, .int .i64 bu]) := by
                rw [hwe, hkb]
                exact ⟨next HWQ.out.1 (lay (Below.refl _ _) _), HWQ.out.2.below (lay (Below.refl _ _) _), Blk.new wr _ _⟩
              rw [← hwe, ← hkb]
              clear hwe hkb d0 d1 d2 d3 d4 HWQ
              go_loopw [15, 16] (fun s15 k wr => ∃ (m : Nat) (kn : Bool), m ≤ NH9 ∧ s15 = .bool kn ∧ k = .int .i64 (m : Int) ∧ Hid (kn = (HX.take m).any fun z => decide (z = bh)) ∧ Hid (WX w w7 wr o F4 M kb #[.string bc, .string bh, .int .i64 ba, .string bf, .int .i64 bu])) (fun _ k _ => NH9 - (intOf k).toNat)
              case atStart => exact ⟨0, _, Nat.zero_le _, rfl, rfl, rfl, HWE0⟩
              case round =>
                clear HWE0
                obtain ⟨m, kn, hm, rfl, rfl, HKN, HWE⟩ := hrel
                have HWD : Hid (WX w w7 wr.drew o F4 M kb #[.string bc, .string bh, .int .i64 ba, .string bf, .int .i64 bu]) := ⟨next HWE.out.1 (Below.refl _ _).drew, HWE.out.2.1.below (Below.refl _ _).drew, HWE.out.2.2.below (Below.refl _ _).drew⟩
                by_cases hmn : m < NH9
                · have hmn' : (m : Int) < (NH9 : Int) := by omega
                  have hmX : m < HX.length := by have := HNH.out; omega
                  have HTK : Hid ((HX.take (m + 1)).any (fun z => decide (z = bh)) = ((HX.take m).any (fun z => decide (z = bh)) || decide (HX[m] = bh))) := by
                    unfold Hid
                    rw [List.take_succ_eq_append_getElem hmX, List.any_append]
                    simp
                  cases kn with
                  | true =>
                    have HK2 : Hid (true = (HX.take (m + 1)).any fun z => decide (z = bh)) := by
                      unfold Hid
                      rw [HTK.out, ← HKN.out]
                      rfl
                    clear HTK HKN
                    go_wp2
                    refine wp_region_held_drew (S := fun _ => True) (by kernel_rfl) trivial (fun hHeld => ?_)
                    refine wpAnyH_take (i := 0) (v := .bool true) rfl (by kernel_rfl) (by kernel_rfl) (by kernel_rfl) (fun _ _ _ h => h) (Or.inl ⟨by rfl, ?_⟩) hHeld ?_
                    · intro u hu
                      go_simp
                    simp only [Act.put, List.getElem_toArray, List.getElem_cons_zero, List.setIfInBounds_toArray, List.set_cons_zero, List.set_cons_succ]
                    refine wpAnyH_take (i := 1) (v := .bool true) rfl (by kernel_rfl) (by kernel_rfl) (by kernel_rfl) (fun _ _ _ h => h) (Or.inl ⟨by rfl, ?_⟩) hHeld ?_
                    · intro u hu
                      go_simp
                    simp only [Act.put, List.getElem_toArray, List.getElem_cons_succ, List.getElem_cons_zero, List.setIfInBounds_toArray, List.set_cons_zero, List.set_cons_succ]
                    refine wpAnyH_take (i := 2) (v := undef) rfl (by kernel_rfl) (by kernel_rfl) (by kernel_rfl) (fun _ _ _ h => h) (Or.inr ⟨by rfl, rfl⟩) hHeld ?_
                    simp only [Act.put, List.getElem_toArray, List.getElem_cons_succ, List.getElem_cons_zero, List.setIfInBounds_toArray, List.set_cons_zero, List.set_cons_succ]
                    refine wpAnyH_take (i := 3) (v := undef) rfl (by kernel_rfl) (by kernel_rfl) (by kernel_rfl) (fun _ _ _ h => h) (Or.inr ⟨by rfl, rfl⟩) hHeld ?_
                    simp only [Act.put, List.getElem_toArray, List.getElem_cons_succ, List.getElem_cons_zero, List.setIfInBounds_toArray, List.set_cons_zero, List.set_cons_succ]
                    refine wpAnyH_take (i := 4) (v := undef) rfl (by kernel_rfl) (by kernel_rfl) (by kernel_rfl) (fun _ _ _ h => h) (Or.inr ⟨by rfl, rfl⟩) hHeld ?_
                    simp only [Act.put, List.getElem_toArray, List.getElem_cons_succ, List.getElem_cons_zero, List.setIfInBounds_toArray, List.set_cons_zero, List.set_cons_succ]
                    refine wpAnyH_take (i := 5) (v := undef) rfl (by kernel_rfl) (by kernel_rfl) (by kernel_rfl) (fun _ _ _ h => h) (Or.inr ⟨by rfl, rfl⟩) hHeld ?_
                    simp only [Act.put, List.getElem_toArray, List.getElem_cons_succ, List.getElem_cons_zero, List.setIfInBounds_toArray, List.set_cons_zero, List.set_cons_succ]
                    refine wpAnyH_take (i := 6) (v := undef) rfl (by kernel_rfl) (by kernel_rfl) (by kernel_rfl) (fun _ _ _ h => h) (Or.inr ⟨by rfl, rfl⟩) hHeld ?_
                    simp only [Act.put, List.getElem_toArray, List.getElem_cons_succ, List.getElem_cons_zero, List.setIfInBounds_toArray, List.set_cons_zero, List.set_cons_succ]
                    refine wpAnyH_take (i := 7) (v := undef) rfl (by kernel_rfl) (by kernel_rfl) (by kernel_rfl) (fun _ _ _ h => h) (Or.inr ⟨by rfl, rfl⟩) hHeld ?_
                    simp only [Act.put, List.getElem_toArray, List.getElem_cons_succ, List.getElem_cons_zero, List.setIfInBounds_toArray, List.set_cons_zero, List.set_cons_succ]
                    refine wpAnyH_take (i := 8) (v := undef) rfl (by kernel_rfl) (by kernel_rfl) (by kernel_rfl) (fun _ _ _ h => h) (Or.inr ⟨by rfl, rfl⟩) hHeld ?_
                    simp only [Act.put, List.getElem_toArray, List.getElem_cons_succ, List.getElem_cons_zero, List.setIfInBounds_toArray, List.set_cons_zero, List.set_cons_succ]
                    refine wpAnyH_take (i := 9) (v := .bool true) rfl (by kernel_rfl) (by kernel_rfl) (by kernel_rfl) (fun _ _ _ h => h) (Or.inl ⟨by rfl, ?_⟩) hHeld ?_
                    · intro u hu
                      go_simp
                    simp only [Act.put, List.getElem_toArray, List.getElem_cons_succ, List.getElem_cons_zero, List.setIfInBounds_toArray, List.set_cons_zero, List.set_cons_succ]
                    refine wpAnyH_take (i := 10) (v := .bool true) rfl (by kernel_rfl) (by kernel_rfl) (by kernel_rfl) (fun _ _ _ h => h) (Or.inl ⟨by rfl, ?_⟩) hHeld ?_
                    · intro u hu
                      go_simp
                    simp only [Act.put, List.getElem_toArray, List.getElem_cons_succ, List.getElem_cons_zero, List.setIfInBounds_toArray, List.set_cons_zero, List.set_cons_succ]
                    refine wpAnyH_done (by kernel_rfl) ?_ _
                    go_wp2
                    go_roundw
                    case rel => exact ⟨m + 1, _, by omega, rfl, by go_num, HK2, HWD⟩
                    case measure => simp [intOf]; omega
                  | false =>
                    obtain ⟨gh, cx, hxh, _, _⟩ := (HROW.out _ HWE.out.1).1.form (by omega)
                    simp only [Value.slice.injEq] at hxh
                    obtain ⟨rfl, -, rfl⟩ := hxh
                    obtain ⟨hk, hhk⟩ : ∃ hk, hk = HX[m] := ⟨_, rfl⟩
                    have hbd : Below wr.heap.size wr wr.drew := (Below.refl _ _).drew
                    have HCL : Hid (∀ U, Below wr.heap.size wr U → U.cell? ⟨gh, m, none⟩ = some (.string hk) ∧ U.cell? ⟨kb, 1, none⟩ = some (.string bh)) := fun U hU => ⟨by
                      have := (lies_own (HROW.out U (next HWE.out.1 hU)).1).1 m _ (tC_at hmX)
                      rw [hhk]
                      simpa using this, (HWE.out.2.2.below hU).cell 1⟩
                    rw [← hhk] at HTK
                    have hex : (hk.toList == bh.toList) = decide (hk = bh) := str_eqd hk bh
                    clear hhk
                    cases heq : decide (hk = bh) with
                    | true =>
                      rw [heq] at hex
                      have HK2 : Hid (true = (HX.take (m + 1)).any fun z => decide (z = bh)) := by
                        unfold Hid
                        rw [HTK.out, heq, Bool.or_true]
                      clear HTK HKN heq
                      go_wp2
                      refine wp_region_held_drew (S := fun U => Below wr.heap.size wr U) (by kernel_rfl) hbd (fun hHeld => ?_)
                      refine wpAnyH_take (i := 0) (v := .bool false) rfl (by kernel_rfl) (by kernel_rfl) (by kernel_rfl) (fun _ _ _ h => h) (Or.inl ⟨by rfl, ?_⟩) hHeld ?_
                      · intro u hu
                        go_simp
                      simp only [Act.put, List.getElem_toArray, List.getElem_cons_zero, List.setIfInBounds_toArray, List.set_cons_zero, List.set_cons_succ]
                      refine wpAnyH_take (i := 1) (v := .bool false) rfl (by kernel_rfl) (by kernel_rfl) (by kernel_rfl) (fun _ _ _ h => h) (Or.inl ⟨by rfl, ?_⟩) hHeld ?_
                      · intro u hu
                        go_simp
                      simp only [Act.put, List.getElem_toArray, List.getElem_cons_succ, List.getElem_cons_zero, List.setIfInBounds_toArray, List.set_cons_zero, List.set_cons_succ]
                      refine wpAnyH_take (i := 2) (v := .slice (some ⟨gh, 0, none⟩) NH9 cs) rfl (by kernel_rfl) (by kernel_rfl) (by kernel_rfl) (fun _ _ _ h => h) (Or.inl ⟨by rfl, ?_⟩) hHeld ?_
                      · intro u hu
                        go_simp
                      simp only [Act.put, List.getElem_toArray, List.getElem_cons_succ, List.getElem_cons_zero, List.setIfInBounds_toArray, List.set_cons_zero, List.set_cons_succ]
                      refine wpAnyH_take (i := 3) (v := .int .i64 (m : Int)) rfl (by kernel_rfl) (by kernel_rfl) (by kernel_rfl) (fun _ _ _ h => h) (Or.inl ⟨by rfl, ?_⟩) hHeld ?_
                      · intro u hu
                        go_simp
                      simp only [Act.put, List.getElem_toArray, List.getElem_cons_succ, List.getElem_cons_zero, List.setIfInBounds_toArray, List.set_cons_zero, List.set_cons_succ]
                      refine wpAnyH_take (i := 4) (v := .pointer (some ⟨gh, m, none⟩)) rfl (by kernel_rfl) (by kernel_rfl) (by kernel_rfl) (fun _ _ _ h => h) (Or.inl ⟨by rfl, ?_⟩) hHeld ?_
                      · intro u hu
                        go_simp
                      simp only [Act.put, List.getElem_toArray, List.getElem_cons_succ, List.getElem_cons_zero, List.setIfInBounds_toArray, List.set_cons_zero, List.set_cons_succ]
                      refine wpAnyH_take (i := 5) (v := .string hk) rfl (by kernel_rfl) (by kernel_rfl) (by kernel_rfl) (fun _ _ _ h => h) (Or.inl ⟨by rfl, ?_⟩) hHeld ?_
                      · intro u hu
                        obtain ⟨a0, a1⟩ := HCL.out _ hu; clear hu
                        go_simp
                      simp only [Act.put, List.getElem_toArray, List.getElem_cons_succ, List.getElem_cons_zero, List.setIfInBounds_toArray, List.set_cons_zero, List.set_cons_succ]
                      refine wpAnyH_take (i := 6) (v := .pointer (some ⟨kb, 1, none⟩)) rfl (by kernel_rfl) (by kernel_rfl) (by kernel_rfl) (fun _ _ _ h => h) (Or.inl ⟨by rfl, ?_⟩) hHeld ?_
                      · intro u hu
                        go_simp
                      simp only [Act.put, List.getElem_toArray, List.getElem_cons_succ, List.getElem_cons_zero, List.setIfInBounds_toArray, List.set_cons_zero, List.set_cons_succ]
                      refine wpAnyH_take (i := 7) (v := .string bh) rfl (by kernel_rfl) (by kernel_rfl) (by kernel_rfl) (fun _ _ _ h => h) (Or.inl ⟨by rfl, ?_⟩) hHeld ?_
                      · intro u hu
                        obtain ⟨a0, a1⟩ := HCL.out _ hu; clear hu
                        go_simp
                      simp only [Act.put, List.getElem_toArray, List.getElem_cons_succ, List.getElem_cons_zero, List.setIfInBounds_toArray, List.set_cons_zero, List.set_cons_succ]
                      refine wpAnyH_take (i := 8) (v := .bool true) rfl (by kernel_rfl) (by kernel_rfl) (by kernel_rfl) (fun _ _ _ h => h) (Or.inl ⟨by rfl, ?_⟩) hHeld ?_
                      · intro u hu
                        go_simp
                      simp only [Act.put, List.getElem_toArray, List.getElem_cons_succ, List.getElem_cons_zero, List.setIfInBounds_toArray, List.set_cons_zero, List.set_cons_succ]
                      refine wpAnyH_take (i := 9) (v := .bool true) rfl (by kernel_rfl) (by kernel_rfl) (by kernel_rfl) (fun _ _ _ h => h) (Or.inl ⟨by rfl, ?_⟩) hHeld ?_
                      · intro u hu
                        go_simp
                      simp only [Act.put, List.getElem_toArray, List.getElem_cons_succ, List.getElem_cons_zero, List.setIfInBounds_toArray, List.set_cons_zero, List.set_cons_succ]
                      refine wpAnyH_take (i := 10) (v := .bool true) rfl (by kernel_rfl) (by kernel_rfl) (by kernel_rfl) (fun _ _ _ h => h) (Or.inl ⟨by rfl, ?_⟩) hHeld ?_
                      · intro u hu
                        go_simp
                      simp only [Act.put, List.getElem_toArray, List.getElem_cons_succ, List.getElem_cons_zero, List.setIfInBounds_toArray, List.set_cons_zero, List.set_cons_succ]
                      refine wpAnyH_done (by kernel_rfl) ?_ _
                      go_wp2
                      go_roundw
                      case rel => exact ⟨m + 1, _, by omega, rfl, by go_num, HK2, HWD⟩
                      case measure => simp [intOf]; omega
                    | false =>
                      rw [heq] at hex
                      have HK2 : Hid (false = (HX.take (m + 1)).any fun z => decide (z = bh)) := by
                        unfold Hid
                        rw [HTK.out, heq, ← HKN.out]
                        rfl
                      clear HTK HKN heq
                      go_wp2
                      refine wp_region_held_drew (S := fun U => Below wr.heap.size wr U) (by kernel_rfl) hbd (fun hHeld => ?_)
                      refine wpAnyH_take (i := 0) (v := .bool false) rfl (by kernel_rfl) (by kernel_rfl) (by kernel_rfl) (fun _ _ _ h => h) (Or.inl ⟨by rfl, ?_⟩) hHeld ?_
                      · intro u hu
                        go_simp
                      simp only [Act.put, List.getElem_toArray, List.getElem_cons_zero, List.setIfInBounds_toArray, List.set_cons_zero, List.set_cons_succ]
                      refine wpAnyH_take (i := 1) (v := .bool false) rfl (by kernel_rfl) (by kernel_rfl) (by kernel_rfl) (fun _ _ _ h => h) (Or.inl ⟨by rfl, ?_⟩) hHeld ?_
                      · intro u hu
                        go_simp
                      simp only [Act.put, List.getElem_toArray, List.getElem_cons_succ, List.getElem_cons_zero, List.setIfInBounds_toArray, List.set_cons_zero, List.set_cons_succ]
                      refine wpAnyH_take (i := 2) (v := .slice (some ⟨gh, 0, none⟩) NH9 cs) rfl (by kernel_rfl) (by kernel_rfl) (by kernel_rfl) (fun _ _ _ h => h) (Or.inl ⟨by rfl, ?_⟩) hHeld ?_
                      · intro u hu
                        go_simp
                      simp only [Act.put, List.getElem_toArray, List.getElem_cons_succ, List.getElem_cons_zero, List.setIfInBounds_toArray, List.set_cons_zero, List.set_cons_succ]
                      refine wpAnyH_take (i := 3) (v := .int .i64 (m : Int)) rfl (by kernel_rfl) (by kernel_rfl) (by kernel_rfl) (fun _ _ _ h => h) (Or.inl ⟨by rfl, ?_⟩) hHeld ?_
                      · intro u hu
                        go_simp
                      simp only [Act.put, List.getElem_toArray, List.getElem_cons_succ, List.getElem_cons_zero, List.setIfInBounds_toArray, List.set_cons_zero, List.set_cons_succ]
                      refine wpAnyH_take (i := 4) (v := .pointer (some ⟨gh, m, none⟩)) rfl (by kernel_rfl) (by kernel_rfl) (by kernel_rfl) (fun _ _ _ h => h) (Or.inl ⟨by rfl, ?_⟩) hHeld ?_
                      · intro u hu
                        go_simp
                      simp only [Act.put, List.getElem_toArray, List.getElem_cons_succ, List.getElem_cons_zero, List.setIfInBounds_toArray, List.set_cons_zero, List.set_cons_succ]
                      refine wpAnyH_take (i := 5) (v := .string hk) rfl (by kernel_rfl) (by kernel_rfl) (by kernel_rfl) (fun _ _ _ h => h) (Or.inl ⟨by rfl, ?_⟩) hHeld ?_
                      · intro u hu
                        obtain ⟨a0, a1⟩ := HCL.out _ hu; clear hu
                        go_simp
                      simp only [Act.put, List.getElem_toArray, List.getElem_cons_succ, List.getElem_cons_zero, List.setIfInBounds_toArray, List.set_cons_zero, List.set_cons_succ]
                      refine wpAnyH_take (i := 6) (v := .pointer (some ⟨kb, 1, none⟩)) rfl (by kernel_rfl) (by kernel_rfl) (by kernel_rfl) (fun _ _ _ h => h) (Or.inl ⟨by rfl, ?_⟩) hHeld ?_
                      · intro u hu
                        go_simp
                      simp only [Act.put, List.getElem_toArray, List.getElem_cons_succ, List.getElem_cons_zero, List.setIfInBounds_toArray, List.set_cons_zero, List.set_cons_succ]
                      refine wpAnyH_take (i := 7) (v := .string bh) rfl (by kernel_rfl) (by kernel_rfl) (by kernel_rfl) (fun _ _ _ h => h) (Or.inl ⟨by rfl, ?_⟩) hHeld ?_
                      · intro u hu
                        obtain ⟨a0, a1⟩ := HCL.out _ hu; clear hu
                        go_simp
                      simp only [Act.put, List.getElem_toArray, List.getElem_cons_succ, List.getElem_cons_zero, List.setIfInBounds_toArray, List.set_cons_zero, List.set_cons_succ]
                      refine wpAnyH_take (i := 8) (v := .bool false) rfl (by kernel_rfl) (by kernel_rfl) (by kernel_rfl) (fun _ _ _ h => h) (Or.inl ⟨by rfl, ?_⟩) hHeld ?_
                      · intro u hu
                        go_simp
                      simp only [Act.put, List.getElem_toArray, List.getElem_cons_succ, List.getElem_cons_zero, List.setIfInBounds_toArray, List.set_cons_zero, List.set_cons_succ]
                      refine wpAnyH_take (i := 9) (v := .bool false) rfl (by kernel_rfl) (by kernel_rfl) (by kernel_rfl) (fun _ _ _ h => h) (Or.inl ⟨by rfl, ?_⟩) hHeld ?_
                      · intro u hu
                        go_simp
                      simp only [Act.put, List.getElem_toArray, List.getElem_cons_succ, List.getElem_cons_zero, List.setIfInBounds_toArray, List.set_cons_zero, List.set_cons_succ]
                      refine wpAnyH_take (i := 10) (v := .bool false) rfl (by kernel_rfl) (by kernel_rfl) (by kernel_rfl) (fun _ _ _ h => h) (Or.inl ⟨by rfl, ?_⟩) hHeld ?_
                      · intro u hu
                        go_simp
                      simp only [Act.put, List.getElem_toArray, List.getElem_cons_succ, List.getElem_cons_zero, List.setIfInBounds_toArray, List.set_cons_zero, List.set_cons_succ]
                      refine wpAnyH_done (by kernel_rfl) ?_ _
                      go_wp2
                      go_roundw
                      case rel => exact ⟨m + 1, _, by omega, rfl, by go_num, HK2, HWD⟩
                      case measure => simp [intOf]; omega
                · have hmn' : decide (m < NH9) = false := by simpa using hmn
                  obtain rfl : kn = true := by
                    rw [HKN.out, List.take_of_length_le (by have := HNH.out; omega), List.any_eq_true]
                    exact ⟨bh, HGB.out.host, by simp⟩
                  clear HKN hmn
                  have y0 := HWE.out.2.2.cell 0
                  have y3 := HWE.out.2.2.cell 3
                  have y4 := HWE.out.2.2.cell 4
                  simp only [List.getElem?_toArray, List.getElem?_cons_succ, List.getElem?_cons_zero] at y0 y3 y4
                  have HWN : Hid (BX7 w w7 wr o F4 M) := ⟨HWE.out.1, HWE.out.2.1⟩
                  rcases HGB.out.from' with ⟨hC, hbf⟩ | ⟨hC, hte, hlt⟩
                  · have hroot : (bc.toList == [0]) = true := by rw [Cu.root_as, hC]; decide
                    have hbr : (bf.toList == [0]) = true := by rw [Cu.root_as]; simp only at hbf; rw [hbf]; decide
                    clear hC hbf HWE
                    go_wp2
                    go_roundw
                    case rel => exact ⟨q + 1, by omega, by go_num, HWN⟩
                    case measure => simp [intOf]; omega
                  · have hroot : (bc.toList == [0]) = false := by rw [Cu.root_as]; exact decide_eq_false hC
                    have hle : decide (bu ≤ (t' : Int)) = false := by simp only at hlt; simp; omega
                    have hfs : bf.size ≤ maxLen := by have := HGB.out.fsz; simp only at this; unfold maxLen; omega
                    have hbw := refBelow_as bf bc true wr hfs HCS.out hte
                    clear hC hte hlt HWE
                    go_wp2_with (go_at_call 19; go_must (refine hbw.mono ?_); rintro e wz ⟨rfl, bz⟩; have HWZ : Hid (BX7 w w7 wz o F4 M) := ⟨next HWN.out.1 bz, HWN.out.2.below bz⟩; have z4 : wz.cell? ⟨kb, 4, none⟩ = some (.int .i64 bu) := (bz.cell (p := ⟨kb, 4, none⟩) (World.block_lt_of_cell? _ _ y4)).trans y4; clear bz hbw y0 y3 y4)
                    go_roundw
                    case rel => exact ⟨q + 1, by omega, by go_num, HWZ⟩
                    case measure => simp [intOf]; omega
            · have hqn' : decide (q < NB9) = false := by simpa using hqn
              have HEN : Hid (∃ F, Cu.FTr (i + 1) F ∧ Cu.LW w wr o Cu.Hs2 Cu.Hb2 F (fun _ => False)) := ⟨F4, HF4.out, HWQ.out.2.more (Below.refl _ _) (fun _ h => h.elim)⟩
              clear HWQ hqn
              go_wp2
              go_roundw
              case rel => exact ⟨i + 1, t', by omega, by omega, by omega, rfl, by go_num, HEN⟩
              case measure => simp [intOf]; omega
        | true =>
          go_wp2_with (first
            | (go_at_call 13; go_must (refine hde.mono ?_); rintro e w5 ⟨rfl, lw5, b5⟩; have n5 := HKN.out w5 b5; have HL5 : Hid (Below w4.heap.size w4 w5 ∧ Cu.LW w w5 o Cu.Hs2 Cu.Hb2 F4 M) := ⟨b5, lw5⟩; clear hde lw5 b5)
            | (go_at_call 14; go_must (refine (refMay_as pn true _ HPN.out hnm).mono ?_); rintro e w6 ⟨rfl, b6⟩; have n6 := HKN.out w6 (next HL5.out.1 b6); have HL6 : Hid (Cu.LW w w6 o Cu.Hs2 Cu.Hb2 F4 M) := HL5.out.2.below b6; have hab := refAbove_any CC pn w6 HCS.out HPN.out; rw [HDI.out.above hnm] at hab; clear b6 n5)
            | (go_at_call 15; go_must (refine hab.mono ?_); rintro e wa ⟨rfl, ba⟩; have HLA : Hid (Cu.LW w wa o Cu.Hs2 Cu.Hb2 F4 M) := HL6.out.below ba; clear ba n6 hab)
            | (go_at_call 16; go_must (refine (refFold_as CC CC _ HCS.out HFD.out).mono ?_); rintro e wf ⟨rfl, bf⟩; have hho := (HLA.out.below bf).hosts CC (t' : Int) HCS.out HX HHX.out.1 NH9 HNH.out; clear bf)
            | (go_at_call 17; go_must (refine hho.mono ?_); rintro e wg ⟨ys, cs, rfl, og, lg, _⟩; have hbi := lg.binds CC (t' : Int) HCS.out BX HHX.out.2 NB9 HNB.out; have HOG : Hid (wg.ownsRow _ 9 1 (.slice ys NH9 cs) NH9 (tC HX)) := og; clear hho lg og)
            | (go_at_call 18; go_must (refine hbi.mono ?_); rintro e w7 ⟨yb, cb, rfl, ob, lb, bb⟩; have HROW : Hid (∀ U, Below w7.heap.size w7 U → U.ownsRow _ 9 1 (.slice ys NH9 cs) NH9 (tC HX) ∧ U.ownsRow _ 45 5 (.slice yb NB9 cb) NB9 (Cu.bC BX)) := fun U hU => ⟨own_past (own_past HOG.out bb) hU, own_past ob hU⟩; have HW7 : Hid (BX7 w w7 w7 o F4 M) := ⟨Below.refl _ _, lb⟩; clear hbi lb ob bb))
          clear HL5 HL6 HLA HOG
          go_loopw [13] (fun k wr => ∃ q : Nat, q ≤ NB9 ∧ k = .int .i64 (q : Int) ∧ Hid (BX7 w w7 wr o F4 M)) (fun k _ => NB9 - (intOf k).toNat)
          case atStart => exact ⟨0, Nat.zero_le _, rfl, HW7⟩
          case round =>
            clear HW7
            obtain ⟨q, hq, rfl, HWQ⟩ := hrel
            by_cases hqn : q < NB9
            · have hqn' : (q : Int) < (NB9 : Int) := by omega
              have hqX : q < BX.length := by have := HNB.out; omega
              obtain ⟨gb, cx, hxb, _, _⟩ := (HROW.out _ HWQ.out.1).2.form (by omega)
              simp only [Value.slice.injEq] at hxb
              obtain ⟨rfl, -, rfl⟩ := hxb
              obtain ⟨⟨bc, bh, ba, bf, bu⟩, hp⟩ : ∃ p, p = BX[q] := ⟨_, rfl⟩
              have hgb := HBG.out _ (List.getElem_mem hqX)
              rw [← hp] at hgb
              have hcut := hgb.cut
              simp only at hcut
              subst hcut
              have HGB : Hid (Cu.BGood bc HX (t' : Int) ⟨bc, bh, ba, bf, bu⟩) := hgb
              have hL := (lies_own (HROW.out _ HWQ.out.1).2).1
              have hfl := fun k hk => flat_get (f := Cu.bV) (z := 5) (fun _ => rfl) BX q hqX k hk
              rw [← hp] at hfl
              have d0 := hL (q * 5 + 0) _ (hfl 0 (by omega))
              have d1 := hL (q * 5 + 1) _ (hfl 1 (by omega))
              have d2 := hL (q * 5 + 2) _ (hfl 2 (by omega))
              have d3 := hL (q * 5 + 3) _ (hfl 3 (by omega))
              have d4 := hL (q * 5 + 4) _ (hfl 4 (by omega))
              simp only [Nat.add_zero] at d0
              clear hL hfl hp hgb hqX
              go_wp2
              obtain ⟨we, hwe⟩ : ∃ we, we = wr.alloc (.cells #[.string bc, .string bh, .int .i64 ba, .string bf, .int .i64 bu] 45) := ⟨_, rfl⟩
              obtain ⟨kb, hkb⟩ : ∃ kb, kb = wr.heap.size := ⟨_, rfl⟩
              have HWE0 : Hid (WX w w7 we o F4 M kb #[.string bc, .string bh, .int .i64 ba, .string bf, .int .i64 bu]) := by
                rw [hwe, hkb]
                exact ⟨next HWQ.out.1 (lay (Below.refl _ _) _), HWQ.out.2.below (lay (Below.refl _ _) _), Blk.new wr _ _⟩
              rw [← hwe, ← hkb]
              clear hwe hkb d0 d1 d2 d3 d4 HWQ
              go_loopw [15, 16] (fun s15 k wr => ∃ (m : Nat) (kn : Bool), m ≤ NH9 ∧ s15 = .bool kn ∧ k = .int .i64 (m : Int) ∧ Hid (kn = (HX.take m).any fun z => decide (z = bh)) ∧ Hid (WX w w7 wr o F4 M kb #[.string bc, .string bh, .int .i64 ba, .string bf, .int .i64 bu])) (fun _ k _ => NH9 - (intOf k).toNat)
              case atStart => exact ⟨0, _, Nat.zero_le _, rfl, rfl, rfl, HWE0⟩
              case round =>
                clear HWE0
                obtain ⟨m, kn, hm, rfl, rfl, HKN, HWE⟩ := hrel
                have HWD : Hid (WX w w7 wr.drew o F4 M kb #[.string bc, .string bh, .int .i64 ba, .string bf, .int .i64 bu]) := ⟨next HWE.out.1 (Below.refl _ _).drew, HWE.out.2.1.below (Below.refl _ _).drew, HWE.out.2.2.below (Below.refl _ _).drew⟩
                by_cases hmn : m < NH9
                · have hmn' : (m : Int) < (NH9 : Int) := by omega
                  have hmX : m < HX.length := by have := HNH.out; omega
                  have HTK : Hid ((HX.take (m + 1)).any (fun z => decide (z = bh)) = ((HX.take m).any (fun z => decide (z = bh)) || decide (HX[m] = bh))) := by
                    unfold Hid
                    rw [List.take_succ_eq_append_getElem hmX, List.any_append]
                    simp
                  cases kn with
                  | true =>
                    have HK2 : Hid (true = (HX.take (m + 1)).any fun z => decide (z = bh)) := by
                      unfold Hid
                      rw [HTK.out, ← HKN.out]
                      rfl
                    clear HTK HKN
                    go_wp2
                    refine wp_region_held_drew (S := fun _ => True) (by kernel_rfl) trivial (fun hHeld => ?_)
                    refine wpAnyH_take (i := 0) (v := .bool true) rfl (by kernel_rfl) (by kernel_rfl) (by kernel_rfl) (fun _ _ _ h => h) (Or.inl ⟨by rfl, ?_⟩) hHeld ?_
                    · intro u hu
                      go_simp
                    simp only [Act.put, List.getElem_toArray, List.getElem_cons_zero, List.setIfInBounds_toArray, List.set_cons_zero, List.set_cons_succ]
                    refine wpAnyH_take (i := 1) (v := .bool true) rfl (by kernel_rfl) (by kernel_rfl) (by kernel_rfl) (fun _ _ _ h => h) (Or.inl ⟨by rfl, ?_⟩) hHeld ?_
                    · intro u hu
                      go_simp
                    simp only [Act.put, List.getElem_toArray, List.getElem_cons_succ, List.getElem_cons_zero, List.setIfInBounds_toArray, List.set_cons_zero, List.set_cons_succ]
                    refine wpAnyH_take (i := 2) (v := undef) rfl (by kernel_rfl) (by kernel_rfl) (by kernel_rfl) (fun _ _ _ h => h) (Or.inr ⟨by rfl, rfl⟩) hHeld ?_
                    simp only [Act.put, List.getElem_toArray, List.getElem_cons_succ, List.getElem_cons_zero, List.setIfInBounds_toArray, List.set_cons_zero, List.set_cons_succ]
                    refine wpAnyH_take (i := 3) (v := undef) rfl (by kernel_rfl) (by kernel_rfl) (by kernel_rfl) (fun _ _ _ h => h) (Or.inr ⟨by rfl, rfl⟩) hHeld ?_
                    simp only [Act.put, List.getElem_toArray, List.getElem_cons_succ, List.getElem_cons_zero, List.setIfInBounds_toArray, List.set_cons_zero, List.set_cons_succ]
                    refine wpAnyH_take (i := 4) (v := undef) rfl (by kernel_rfl) (by kernel_rfl) (by kernel_rfl) (fun _ _ _ h => h) (Or.inr ⟨by rfl, rfl⟩) hHeld ?_
                    simp only [Act.put, List.getElem_toArray, List.getElem_cons_succ, List.getElem_cons_zero, List.setIfInBounds_toArray, List.set_cons_zero, List.set_cons_succ]
                    refine wpAnyH_take (i := 5) (v := undef) rfl (by kernel_rfl) (by kernel_rfl) (by kernel_rfl) (fun _ _ _ h => h) (Or.inr ⟨by rfl, rfl⟩) hHeld ?_
                    simp only [Act.put, List.getElem_toArray, List.getElem_cons_succ, List.getElem_cons_zero, List.setIfInBounds_toArray, List.set_cons_zero, List.set_cons_succ]
                    refine wpAnyH_take (i := 6) (v := undef) rfl (by kernel_rfl) (by kernel_rfl) (by kernel_rfl) (fun _ _ _ h => h) (Or.inr ⟨by rfl, rfl⟩) hHeld ?_
                    simp only [Act.put, List.getElem_toArray, List.getElem_cons_succ, List.getElem_cons_zero, List.setIfInBounds_toArray, List.set_cons_zero, List.set_cons_succ]
                    refine wpAnyH_take (i := 7) (v := undef) rfl (by kernel_rfl) (by kernel_rfl) (by kernel_rfl) (fun _ _ _ h => h) (Or.inr ⟨by rfl, rfl⟩) hHeld ?_
                    simp only [Act.put, List.getElem_toArray, List.getElem_cons_succ, List.getElem_cons_zero, List.setIfInBounds_toArray, List.set_cons_zero, List.set_cons_succ]
                    refine wpAnyH_take (i := 8) (v := undef) rfl (by kernel_rfl) (by kernel_rfl) (by kernel_rfl) (fun _ _ _ h => h) (Or.inr ⟨by rfl, rfl⟩) hHeld ?_
                    simp only [Act.put, List.getElem_toArray, List.getElem_cons_succ, List.getElem_cons_zero, List.setIfInBounds_toArray, List.set_cons_zero, List.set_cons_succ]
                    refine wpAnyH_take (i := 9) (v := .bool true) rfl (by kernel_rfl) (by kernel_rfl) (by kernel_rfl) (fun _ _ _ h => h) (Or.inl ⟨by rfl, ?_⟩) hHeld ?_
                    · intro u hu
                      go_simp
                    simp only [Act.put, List.getElem_toArray, List.getElem_cons_succ, List.getElem_cons_zero, List.setIfInBounds_toArray, List.set_cons_zero, List.set_cons_succ]
                    refine wpAnyH_take (i := 10) (v := .bool true) rfl (by kernel_rfl) (by kernel_rfl) (by kernel_rfl) (fun _ _ _ h => h) (Or.inl ⟨by rfl, ?_⟩) hHeld ?_
                    · intro u hu
                      go_simp
                    simp only [Act.put, List.getElem_toArray, List.getElem_cons_succ, List.getElem_cons_zero, List.setIfInBounds_toArray, List.set_cons_zero, List.set_cons_succ]
                    refine wpAnyH_done (by kernel_rfl) ?_ _
                    go_wp2
                    go_roundw
                    case rel => exact ⟨m + 1, _, by omega, rfl, by go_num, HK2, HWD⟩
                    case measure => simp [intOf]; omega
                  | false =>
                    obtain ⟨gh, cx, hxh, _, _⟩ := (HROW.out _ HWE.out.1).1.form (by omega)
                    simp only [Value.slice.injEq] at hxh
                    obtain ⟨rfl, -, rfl⟩ := hxh
                    obtain ⟨hk, hhk⟩ : ∃ hk, hk = HX[m] := ⟨_, rfl⟩
                    have hbd : Below wr.heap.size wr wr.drew := (Below.refl _ _).drew
                    have HCL : Hid (∀ U, Below wr.heap.size wr U → U.cell? ⟨gh, m, none⟩ = some (.string hk) ∧ U.cell? ⟨kb, 1, none⟩ = some (.string bh)) := fun U hU => ⟨by
                      have := (lies_own (HROW.out U (next HWE.out.1 hU)).1).1 m _ (tC_at hmX)
                      rw [hhk]
                      simpa using this, (HWE.out.2.2.below hU).cell 1⟩
                    rw [← hhk] at HTK
                    have hex : (hk.toList == bh.toList) = decide (hk = bh) := str_eqd hk bh
                    clear hhk
                    cases heq : decide (hk = bh) with
                    | true =>
                      rw [heq] at hex
                      have HK2 : Hid (true = (HX.take (m + 1)).any fun z => decide (z = bh)) := by
                        unfold Hid
                        rw [HTK.out, heq, Bool.or_true]
                      clear HTK HKN heq
                      go_wp2
                      refine wp_region_held_drew (S := fun U => Below wr.heap.size wr U) (by kernel_rfl) hbd (fun hHeld => ?_)
                      refine wpAnyH_take (i := 0) (v := .bool false) rfl (by kernel_rfl) (by kernel_rfl) (by kernel_rfl) (fun _ _ _ h => h) (Or.inl ⟨by rfl, ?_⟩) hHeld ?_
                      · intro u hu
                        go_simp
                      simp only [Act.put, List.getElem_toArray, List.getElem_cons_zero, List.setIfInBounds_toArray, List.set_cons_zero, List.set_cons_succ]
                      refine wpAnyH_take (i := 1) (v := .bool false) rfl (by kernel_rfl) (by kernel_rfl) (by kernel_rfl) (fun _ _ _ h => h) (Or.inl ⟨by rfl, ?_⟩) hHeld ?_
                      · intro u hu
                        go_simp
                      simp only [Act.put, List.getElem_toArray, List.getElem_cons_succ, List.getElem_cons_zero, List.setIfInBounds_toArray, List.set_cons_zero, List.set_cons_succ]
                      refine wpAnyH_take (i := 2) (v := .slice (some ⟨gh, 0, none⟩) NH9 cs) rfl (by kernel_rfl) (by kernel_rfl) (by kernel_rfl) (fun _ _ _ h => h) (Or.inl ⟨by rfl, ?_⟩) hHeld ?_
                      · intro u hu
                        go_simp
                      simp only [Act.put, List.getElem_toArray, List.getElem_cons_succ, List.getElem_cons_zero, List.setIfInBounds_toArray, List.set_cons_zero, List.set_cons_succ]
                      refine wpAnyH_take (i := 3) (v := .int .i64 (m : Int)) rfl (by kernel_rfl) (by kernel_rfl) (by kernel_rfl) (fun _ _ _ h => h) (Or.inl ⟨by rfl, ?_⟩) hHeld ?_
                      · intro u hu
                        go_simp
                      simp only [Act.put, List.getElem_toArray, List.getElem_cons_succ, List.getElem_cons_zero, List.setIfInBounds_toArray, List.set_cons_zero, List.set_cons_succ]
                      refine wpAnyH_take (i := 4) (v := .pointer (some ⟨gh, m, none⟩)) rfl (by kernel_rfl) (by kernel_rfl) (by kernel_rfl) (fun _ _ _ h => h) (Or.inl ⟨by rfl, ?_⟩) hHeld ?_
                      · intro u hu
                        go_simp
                      simp only [Act.put, List.getElem_toArray, List.getElem_cons_succ, List.getElem_cons_zero, List.setIfInBounds_toArray, List.set_cons_zero, List.set_cons_succ]
                      refine wpAnyH_take (i := 5) (v := .string hk) rfl (by kernel_rfl) (by kernel_rfl) (by kernel_rfl) (fun _ _ _ h => h) (Or.inl ⟨by rfl, ?_⟩) hHeld ?_
                      · intro u hu
                        obtain ⟨a0, a1⟩ := HCL.out _ hu; clear hu
                        go_simp
                      simp only [Act.put, List.getElem_toArray, List.getElem_cons_succ, List.getElem_cons_zero, List.setIfInBounds_toArray, List.set_cons_zero, List.set_cons_succ]
                      refine wpAnyH_take (i := 6) (v := .pointer (some ⟨kb, 1, none⟩)) rfl (by kernel_rfl) (by kernel_rfl) (by kernel_rfl) (fun _ _ _ h => h) (Or.inl ⟨by rfl, ?_⟩) hHeld ?_
                      · intro u hu
                        go_simp
                      simp only [Act.put, List.getElem_toArray, List.getElem_cons_succ, List.getElem_cons_zero, List.setIfInBounds_toArray, List.set_cons_zero, List.set_cons_succ]
                      refine wpAnyH_take (i := 7) (v := .string bh) rfl (by kernel_rfl) (by kernel_rfl) (by kernel_rfl) (fun _ _ _ h => h) (Or.inl ⟨by rfl, ?_⟩) hHeld ?_
                      · intro u hu
                        obtain ⟨a0, a1⟩ := HCL.out _ hu; clear hu
                        go_simp
                      simp only [Act.put, List.getElem_toArray, List.getElem_cons_succ, List.getElem_cons_zero, List.setIfInBounds_toArray, List.set_cons_zero, List.set_cons_succ]
                      refine wpAnyH_take (i := 8) (v := .bool true) rfl (by kernel_rfl) (by kernel_rfl) (by kernel_rfl) (fun _ _ _ h => h) (Or.inl ⟨by rfl, ?_⟩) hHeld ?_
                      · intro u hu
                        go_simp
                      simp only [Act.put, List.getElem_toArray, List.getElem_cons_succ, List.getElem_cons_zero, List.setIfInBounds_toArray, List.set_cons_zero, List.set_cons_succ]
                      refine wpAnyH_take (i := 9) (v := .bool true) rfl (by kernel_rfl) (by kernel_rfl) (by kernel_rfl) (fun _ _ _ h => h) (Or.inl ⟨by rfl, ?_⟩) hHeld ?_
                      · intro u hu
                        go_simp
                      simp only [Act.put, List.getElem_toArray, List.getElem_cons_succ, List.getElem_cons_zero, List.setIfInBounds_toArray, List.set_cons_zero, List.set_cons_succ]
                      refine wpAnyH_take (i := 10) (v := .bool true) rfl (by kernel_rfl) (by kernel_rfl) (by kernel_rfl) (fun _ _ _ h => h) (Or.inl ⟨by rfl, ?_⟩) hHeld ?_
                      · intro u hu
                        go_simp
                      simp only [Act.put, List.getElem_toArray, List.getElem_cons_succ, List.getElem_cons_zero, List.setIfInBounds_toArray, List.set_cons_zero, List.set_cons_succ]
                      refine wpAnyH_done (by kernel_rfl) ?_ _
                      go_wp2
                      go_roundw
                      case rel => exact ⟨m + 1, _, by omega, rfl, by go_num, HK2, HWD⟩
                      case measure => simp [intOf]; omega
                    | false =>
                      rw [heq] at hex
                      have HK2 : Hid (false = (HX.take (m + 1)).any fun z => decide (z = bh)) := by
                        unfold Hid
                        rw [HTK.out, heq, ← HKN.out]
                        rfl
                      clear HTK HKN heq
                      go_wp2
                      refine wp_region_held_drew (S := fun U => Below wr.heap.size wr U) (by kernel_rfl) hbd (fun hHeld => ?_)
                      refine wpAnyH_take (i := 0) (v := .bool false) rfl (by kernel_rfl) (by kernel_rfl) (by kernel_rfl) (fun _ _ _ h => h) (Or.inl ⟨by rfl, ?_⟩) hHeld ?_
                      · intro u hu
                        go_simp
                      simp only [Act.put, List.getElem_toArray, List.getElem_cons_zero, List.setIfInBounds_toArray, List.set_cons_zero, List.set_cons_succ]
                      refine wpAnyH_take (i := 1) (v := .bool false) rfl (by kernel_rfl) (by kernel_rfl) (by kernel_rfl) (fun _ _ _ h => h) (Or.inl ⟨by rfl, ?_⟩) hHeld ?_
                      · intro u hu
                        go_simp
                      simp only [Act.put, List.getElem_toArray, List.getElem_cons_succ, List.getElem_cons_zero, List.setIfInBounds_toArray, List.set_cons_zero, List.set_cons_succ]
                      refine wpAnyH_take (i := 2) (v := .slice (some ⟨gh, 0, none⟩) NH9 cs) rfl (by kernel_rfl) (by kernel_rfl) (by kernel_rfl) (fun _ _ _ h => h) (Or.inl ⟨by rfl, ?_⟩) hHeld ?_
                      · intro u hu
                        go_simp
                      simp only [Act.put, List.getElem_toArray, List.getElem_cons_succ, List.getElem_cons_zero, List.setIfInBounds_toArray, List.set_cons_zero, List.set_cons_succ]
                      refine wpAnyH_take (i := 3) (v := .int .i64 (m : Int)) rfl (by kernel_rfl) (by kernel_rfl) (by kernel_rfl) (fun _ _ _ h => h) (Or.inl ⟨by rfl, ?_⟩) hHeld ?_
                      · intro u hu
                        go_simp
                      simp only [Act.put, List.getElem_toArray, List.getElem_cons_succ, List.getElem_cons_zero, List.setIfInBounds_toArray, List.set_cons_zero, List.set_cons_succ]
                      refine wpAnyH_take (i := 4) (v := .pointer (some ⟨gh, m, none⟩)) rfl (by kernel_rfl) (by kernel_rfl) (by kernel_rfl) (fun _ _ _ h => h) (Or.inl ⟨by rfl, ?_⟩) hHeld ?_
                      · intro u hu
                        go_simp
                      simp only [Act.put, List.getElem_toArray, List.getElem_cons_succ, List.getElem_cons_zero, List.setIfInBounds_toArray, List.set_cons_zero, List.set_cons_succ]
                      refine wpAnyH_take (i := 5) (v := .string hk) rfl (by kernel_rfl) (by kernel_rfl) (by kernel_rfl) (fun _ _ _ h => h) (Or.inl ⟨by rfl, ?_⟩) hHeld ?_
                      · intro u hu
                        obtain ⟨a0, a1⟩ := HCL.out _ hu; clear hu
                        go_simp
                      simp only [Act.put, List.getElem_toArray, List.getElem_cons_succ, List.getElem_cons_zero, List.setIfInBounds_toArray, List.set_cons_zero, List.set_cons_succ]
                      refine wpAnyH_take (i := 6) (v := .pointer (some ⟨kb, 1, none⟩)) rfl (by kernel_rfl) (by kernel_rfl) (by kernel_rfl) (fun _ _ _ h => h) (Or.inl ⟨by rfl, ?_⟩) hHeld ?_
                      · intro u hu
                        go_simp
                      simp only [Act.put, List.getElem_toArray, List.getElem_cons_succ, List.getElem_cons_zero, List.setIfInBounds_toArray, List.set_cons_zero, List.set_cons_succ]
                      refine wpAnyH_take (i := 7) (v := .string bh) rfl (by kernel_rfl) (by kernel_rfl) (by kernel_rfl) (fun _ _ _ h => h) (Or.inl ⟨by rfl, ?_⟩) hHeld ?_
                      · intro u hu
                        obtain ⟨a0, a1⟩ := HCL.out _ hu; clear hu
                        go_simp
                      simp only [Act.put, List.getElem_toArray, List.getElem_cons_succ, List.getElem_cons_zero, List.setIfInBounds_toArray, List.set_cons_zero, List.set_cons_succ]
                      refine wpAnyH_take (i := 8) (v := .bool false) rfl (by kernel_rfl) (by kernel_rfl) (by kernel_rfl) (fun _ _ _ h => h) (Or.inl ⟨by rfl, ?_⟩) hHeld ?_
                      · intro u hu
                        go_simp
                      simp only [Act.put, List.getElem_toArray, List.getElem_cons_succ, List.getElem_cons_zero, List.setIfInBounds_toArray, List.set_cons_zero, List.set_cons_succ]
                      refine wpAnyH_take (i := 9) (v := .bool false) rfl (by kernel_rfl) (by kernel_rfl) (by kernel_rfl) (fun _ _ _ h => h) (Or.inl ⟨by rfl, ?_⟩) hHeld ?_
                      · intro u hu
                        go_simp
                      simp only [Act.put, List.getElem_toArray, List.getElem_cons_succ, List.getElem_cons_zero, List.setIfInBounds_toArray, List.set_cons_zero, List.set_cons_succ]
                      refine wpAnyH_take (i := 10) (v := .bool false) rfl (by kernel_rfl) (by kernel_rfl) (by kernel_rfl) (fun _ _ _ h => h) (Or.inl ⟨by rfl, ?_⟩) hHeld ?_
                      · intro u hu
                        go_simp
                      simp only [Act.put, List.getElem_toArray, List.getElem_cons_succ, List.getElem_cons_zero, List.setIfInBounds_toArray, List.set_cons_zero, List.set_cons_succ]
                      refine wpAnyH_done (by kernel_rfl) ?_ _
                      go_wp2
                      go_roundw
                      case rel => exact ⟨m + 1, _, by omega, rfl, by go_num, HK2, HWD⟩
                      case measure => simp [intOf]; omega
                · have hmn' : decide (m < NH9) = false := by simpa using hmn
                  obtain rfl : kn = true := by
                    rw [HKN.out, List.take_of_length_le (by have := HNH.out; omega), List.any_eq_true]
                    exact ⟨bh, HGB.out.host, by simp⟩
                  clear HKN hmn
                  have y0 := HWE.out.2.2.cell 0
                  have y3 := HWE.out.2.2.cell 3
                  have y4 := HWE.out.2.2.cell 4
                  simp only [List.getElem?_toArray, List.getElem?_cons_succ, List.getElem?_cons_zero] at y0 y3 y4
                  have HWN : Hid (BX7 w w7 wr o F4 M) := ⟨HWE.out.1, HWE.out.2.1⟩
                  rcases HGB.out.from' with ⟨hC, hbf⟩ | ⟨hC, hte, hlt⟩
                  · have hroot : (bc.toList == [0]) = true := by rw [Cu.root_as, hC]; decide
                    have hbr : (bf.toList == [0]) = true := by rw [Cu.root_as]; simp only at hbf; rw [hbf]; decide
                    clear hC hbf HWE
                    go_wp2
                    go_roundw
                    case rel => exact ⟨q + 1, by omega, by go_num, HWN⟩
                    case measure => simp [intOf]; omega
                  · have hroot : (bc.toList == [0]) = false := by rw [Cu.root_as]; exact decide_eq_false hC
                    have hle : decide (bu ≤ (t' : Int)) = false := by simp only at hlt; simp; omega
                    have hfs : bf.size ≤ maxLen := by have := HGB.out.fsz; simp only at this; unfold maxLen; omega
                    have hbw := refBelow_as bf bc true wr hfs HCS.out hte
                    clear hC hte hlt HWE
                    go_wp2_with (go_at_call 19; go_must (refine hbw.mono ?_); rintro e wz ⟨rfl, bz⟩; have HWZ : Hid (BX7 w w7 wz o F4 M) := ⟨next HWN.out.1 bz, HWN.out.2.below bz⟩; have z4 : wz.cell? ⟨kb, 4, none⟩ = some (.int .i64 bu) := (bz.cell (p := ⟨kb, 4, none⟩) (World.block_lt_of_cell? _ _ y4)).trans y4; clear bz hbw y0 y3 y4)
                    go_roundw
                    case rel => exact ⟨q + 1, by omega, by go_num, HWZ⟩
                    case measure => simp [intOf]; omega
            · have hqn' : decide (q < NB9) = false := by simpa using hqn
              have HEN : Hid (∃ F, Cu.FTr (i + 1) F ∧ Cu.LW w wr o Cu.Hs2 Cu.Hb2 F (fun _ => False)) := ⟨F4, HF4.out, HWQ.out.2.more (Below.refl _ _) (fun _ h => h.elim)⟩
              clear HWQ hqn
              go_wp2
              go_roundw
              case rel => exact ⟨i + 1, t', by omega, by omega, by omega, rfl, by go_num, HEN⟩
              case measure => simp [intOf]; omega
      · have hk6' : decide (pk < 6) = false := by simpa using hk6
        have hpt := h1.learn ph pa pu (t' : Int) HCA.out.h HFEW.out _ rfl
        obtain ⟨F4, hF4⟩ : ∃ F4, F4 = Cu.lrnC F ph pa pu (t' : Int) := ⟨_, rfl⟩
        have HF4 : Hid (Cu.FTr (i + 1) F4) := by unfold Hid; rw [hF4]; exact HF.out.learn _ _ _ _
        rw [← hF4] at hpt
        clear hF4 h1 hk6
        go_wp2_with (go_at_call 12; go_must (refine hpt.mono ?_); rintro e w4 ⟨rfl, lw4, T4⟩; have HKN : Hid (∀ U, Below w4.heap.size w4 U → U.cell? ⟨wr.heap.size, 10, none⟩ = some (.string pn)) := (fun U hU => ((T4.blk HKY.out (fun h => h.2 rfl)).below hU).cell 10); have n4 := HKN.out w4 (Below.refl _ _); have HL4 : Hid (Cu.LW w w4 o Cu.Hs2 Cu.Hb2 F4 (fun k => k = wr.heap.size)) := lw4; clear hpt lw4 T4)
        obtain ⟨M, hM⟩ : ∃ M : Nat → Prop, M = fun k => k = wr.heap.size := ⟨_, rfl⟩
        rw [← hM] at HL4
        clear hM d0 d1 d2 d3 d4 d5 d6 d7 d8 d9 d10 HFEW HF HKY
        obtain ⟨CC, hCC⟩ : ∃ CC, Cu.deepF F4 pn (t' : Int) = CC := ⟨_, rfl⟩
        have HDI : Hid (Cu.DeepIs F4 pn (t' : Int) CC) := by unfold Hid; rw [← hCC]; exact Cu.deep_is HF4.out pn (t' : Int)
        have HCS : Hid (CC.size ≤ maxLen) := by have := HDI.out.size; unfold Hid maxLen; omega
        have hok4 := HL4.out.ok
        obtain ⟨HX, hHX⟩ : ∃ HX, Cu.hostsF Cu.Hs2 F4 CC (t' : Int) = HX := ⟨_, rfl⟩
        obtain ⟨BX, hBX⟩ : ∃ BX, Cu.bindF Cu.Hb2 F4 CC (t' : Int) = BX := ⟨_, rfl⟩
        obtain ⟨NH9, hNH⟩ : ∃ n, HX.length = n := ⟨_, rfl⟩
        obtain ⟨NB9, hNB⟩ : ∃ n, BX.length = n := ⟨_, rfl⟩
        have hfew := Cu.few_hosts hok4 CC (t' : Int)
        rw [hHX, hBX, hNH, hNB] at hfew
        obtain ⟨hf8, hf256⟩ := hfew
        have HBG : Hid (∀ b ∈ BX, Cu.BGood CC HX (t' : Int) b) := by
          have := Cu.binds_good HF4.out hok4 HDI.out
          rw [hHX, hBX] at this
          exact this
        have HNH : Hid (HX.length = NH9) := hNH
        have HNB : Hid (BX.length = NB9) := hNB
        have hde := HL4.out.deep pn (t' : Int) HPN.out CC hCC
        have HHX : Hid (Cu.hostsF Cu.Hs2 F4 CC (t' : Int) = HX ∧ Cu.bindF Cu.Hb2 F4 CC (t' : Int) = BX) := ⟨hHX, hBX⟩
        have HFD : Hid (foldR CC.data.toList = CC.data.toList) := by
          have := congrArg (fun z : ByteArray => z.data.toList) HDI.out.fd
          simp only [fdB_list] at this
          exact this
        clear hCC hHX hBX hNH hNB hok4
        cases hnm : isName pn.data.toList with
        | false =>
          go_wp2_with (first
            | (go_at_call 13; go_must (refine hde.mono ?_); rintro e w5 ⟨rfl, lw5, b5⟩; have n5 := HKN.out w5 b5; have HL5 : Hid (Below w4.heap.size w4 w5 ∧ Cu.LW w w5 o Cu.Hs2 Cu.Hb2 F4 M) := ⟨b5, lw5⟩; clear hde lw5 b5)
            | (go_at_call 14; go_must (refine (refMay_as pn false _ HPN.out hnm).mono ?_); rintro e w6 ⟨rfl, b6⟩; have HL6 : Hid (Cu.LW w w6 o Cu.Hs2 Cu.Hb2 F4 M) := HL5.out.2.below b6; clear b6 n5)
            | (go_at_call 16; go_must (refine (refFold_as CC CC _ HCS.out HFD.out).mono ?_); rintro e wf ⟨rfl, bf⟩; have hho := (HL6.out.below bf).hosts CC (t' : Int) HCS.out HX HHX.out.1 NH9 HNH.out; clear bf)
            | (go_at_call 17; go_must (refine hho.mono ?_); rintro e wg ⟨ys, cs, rfl, og, lg, _⟩; have hbi := lg.binds CC (t' : Int) HCS.out BX HHX.out.2 NB9 HNB.out; have HOG : Hid (wg.ownsRow _ 9 1 (.slice ys NH9 cs) NH9 (tC HX)) := og; clear hho lg og)
            | (go_at_call 18; go_must (refine hbi.mono ?_); rintro e w7 ⟨yb, cb, rfl, ob, lb, bb⟩; have HROW : Hid (∀ U, Below w7.heap.size w7 U → U.ownsRow _ 9 1 (.slice ys NH9 cs) NH9 (tC HX) ∧ U.ownsRow _ 45 5 (.slice yb NB9 cb) NB9 (Cu.bC BX)) := fun U hU => ⟨own_past (own_past HOG.out bb) hU, own_past ob hU⟩; have HW7 : Hid (BX7 w w7 w7 o F4 M) := ⟨Below.refl _ _, lb⟩; clear hbi lb ob bb))
          clear HL5 HL6 HOG
          go_loopw [13] (fun k wr => ∃ q : Nat, q ≤ NB9 ∧ k = .int .i64 (q : Int) ∧ Hid (BX7 w w7 wr o F4 M)) (fun k _ => NB9 - (intOf k).toNat)
          case atStart => exact ⟨0, Nat.zero_le _, rfl, HW7⟩
          case round =>
            clear HW7
            obtain ⟨q, hq, rfl, HWQ⟩ := hrel
            by_cases hqn : q < NB9
            · have hqn' : (q : Int) < (NB9 : Int) := by omega
              have hqX : q < BX.length := by have := HNB.out; omega
              obtain ⟨gb, cx, hxb, _, _⟩ := (HROW.out _ HWQ.out.1).2.form (by omega)
              simp only [Value.slice.injEq] at hxb
              obtain ⟨rfl, -, rfl⟩ := hxb
              obtain ⟨⟨bc, bh, ba, bf, bu⟩, hp⟩ : ∃ p, p = BX[q] := ⟨_, rfl⟩
              have hgb := HBG.out _ (List.getElem_mem hqX)
              rw [← hp] at hgb
              have hcut := hgb.cut
              simp only at hcut
              subst hcut
              have HGB : Hid (Cu.BGood bc HX (t' : Int) ⟨bc, bh, ba, bf, bu⟩) := hgb
              have hL := (lies_own (HROW.out _ HWQ.out.1).2).1
              have hfl := fun k hk => flat_get (f := Cu.bV) (z := 5) (fun _ => rfl) BX q hqX k hk
              rw [← hp] at hfl
              have d0 := hL (q * 5 + 0) _ (hfl 0 (by omega))
              have d1 := hL (q * 5 + 1) _ (hfl 1 (by omega))
              have d2 := hL (q * 5 + 2) _ (hfl 2 (by omega))
              have d3 := hL (q * 5 + 3) _ (hfl 3 (by omega))
              have d4 := hL (q * 5 + 4) _ (hfl 4 (by omega))
              simp only [Nat.add_zero] at d0
              clear hL hfl hp hgb hqX
              go_wp2
              obtain ⟨we, hwe⟩ : ∃ we, we = wr.alloc (.cells #[.string bc, .string bh, .int .i64 ba, .string bf, .int .i64 bu] 45) := ⟨_, rfl⟩
              obtain ⟨kb, hkb⟩ : ∃ kb, kb = wr.heap.size := ⟨_, rfl⟩
              have HWE0 : Hid (WX w w7 we o F4 M kb #[.string bc, .string bh, .int .i64 ba, .string bf, .int .i64 bu]) := by
                rw [hwe, hkb]
                exact ⟨next HWQ.out.1 (lay (Below.refl _ _) _), HWQ.out.2.below (lay (Below.refl _ _) _), Blk.new wr _ _⟩
              rw [← hwe, ← hkb]
              clear hwe hkb d0 d1 d2 d3 d4 HWQ
              go_loopw [15, 16] (fun s15 k wr => ∃ (m : Nat) (kn : Bool), m ≤ NH9 ∧ s15 = .bool kn ∧ k = .int .i64 (m : Int) ∧ Hid (kn = (HX.take m).any fun z => decide (z = bh)) ∧ Hid (WX w w7 wr o F4 M kb #[.string bc, .string bh, .int .i64 ba, .string bf, .int .i64 bu])) (fun _ k _ => NH9 - (intOf k).toNat)
              case atStart => exact ⟨0, _, Nat.zero_le _, rfl, rfl, rfl, HWE0⟩
              case round =>
                clear HWE0
                obtain ⟨m, kn, hm, rfl, rfl, HKN, HWE⟩ := hrel
                have HWD : Hid (WX w w7 wr.drew o F4 M kb #[.string bc, .string bh, .int .i64 ba, .string bf, .int .i64 bu]) := ⟨next HWE.out.1 (Below.refl _ _).drew, HWE.out.2.1.below (Below.refl _ _).drew, HWE.out.2.2.below (Below.refl _ _).drew⟩
                by_cases hmn : m < NH9
                · have hmn' : (m : Int) < (NH9 : Int) := by omega
                  have hmX : m < HX.length := by have := HNH.out; omega
                  have HTK : Hid ((HX.take (m + 1)).any (fun z => decide (z = bh)) = ((HX.take m).any (fun z => decide (z = bh)) || decide (HX[m] = bh))) := by
                    unfold Hid
                    rw [List.take_succ_eq_append_getElem hmX, List.any_append]
                    simp
                  cases kn with
                  | true =>
                    have HK2 : Hid (true = (HX.take (m + 1)).any fun z => decide (z = bh)) := by
                      unfold Hid
                      rw [HTK.out, ← HKN.out]
                      rfl
                    clear HTK HKN
                    go_wp2
                    refine wp_region_held_drew (S := fun _ => True) (by kernel_rfl) trivial (fun hHeld => ?_)
                    refine wpAnyH_take (i := 0) (v := .bool true) rfl (by kernel_rfl) (by kernel_rfl) (by kernel_rfl) (fun _ _ _ h => h) (Or.inl ⟨by rfl, ?_⟩) hHeld ?_
                    · intro u hu
                      go_simp
                    simp only [Act.put, List.getElem_toArray, List.getElem_cons_zero, List.setIfInBounds_toArray, List.set_cons_zero, List.set_cons_succ]
                    refine wpAnyH_take (i := 1) (v := .bool true) rfl (by kernel_rfl) (by kernel_rfl) (by kernel_rfl) (fun _ _ _ h => h) (Or.inl ⟨by rfl, ?_⟩) hHeld ?_
                    · intro u hu
                      go_simp
                    simp only [Act.put, List.getElem_toArray, List.getElem_cons_succ, List.getElem_cons_zero, List.setIfInBounds_toArray, List.set_cons_zero, List.set_cons_succ]
                    refine wpAnyH_take (i := 2) (v := undef) rfl (by kernel_rfl) (by kernel_rfl) (by kernel_rfl) (fun _ _ _ h => h) (Or.inr ⟨by rfl, rfl⟩) hHeld ?_
                    simp only [Act.put, List.getElem_toArray, List.getElem_cons_succ, List.getElem_cons_zero, List.setIfInBounds_toArray, List.set_cons_zero, List.set_cons_succ]
                    refine wpAnyH_take (i := 3) (v := undef) rfl (by kernel_rfl) (by kernel_rfl) (by kernel_rfl) (fun _ _ _ h => h) (Or.inr ⟨by rfl, rfl⟩) hHeld ?_
                    simp only [Act.put, List.getElem_toArray, List.getElem_cons_succ, List.getElem_cons_zero, List.setIfInBounds_toArray, List.set_cons_zero, List.set_cons_succ]
                    refine wpAnyH_take (i := 4) (v := undef) rfl (by kernel_rfl) (by kernel_rfl) (by kernel_rfl) (fun _ _ _ h => h) (Or.inr ⟨by rfl, rfl⟩) hHeld ?_
                    simp only [Act.put, List.getElem_toArray, List.getElem_cons_succ, List.getElem_cons_zero, List.setIfInBounds_toArray, List.set_cons_zero, List.set_cons_succ]
                    refine wpAnyH_take (i := 5) (v := undef) rfl (by kernel_rfl) (by kernel_rfl) (by kernel_rfl) (fun _ _ _ h => h) (Or.inr ⟨by rfl, rfl⟩) hHeld ?_
                    simp only [Act.put, List.getElem_toArray, List.getElem_cons_succ, List.getElem_cons_zero, List.setIfInBounds_toArray, List.set_cons_zero, List.set_cons_succ]
                    refine wpAnyH_take (i := 6) (v := undef) rfl (by kernel_rfl) (by kernel_rfl) (by kernel_rfl) (fun _ _ _ h => h) (Or.inr ⟨by rfl, rfl⟩) hHeld ?_
                    simp only [Act.put, List.getElem_toArray, List.getElem_cons_succ, List.getElem_cons_zero, List.setIfInBounds_toArray, List.set_cons_zero, List.set_cons_succ]
                    refine wpAnyH_take (i := 7) (v := undef) rfl (by kernel_rfl) (by kernel_rfl) (by kernel_rfl) (fun _ _ _ h => h) (Or.inr ⟨by rfl, rfl⟩) hHeld ?_
                    simp only [Act.put, List.getElem_toArray, List.getElem_cons_succ, List.getElem_cons_zero, List.setIfInBounds_toArray, List.set_cons_zero, List.set_cons_succ]
                    refine wpAnyH_take (i := 8) (v := undef) rfl (by kernel_rfl) (by kernel_rfl) (by kernel_rfl) (fun _ _ _ h => h) (Or.inr ⟨by rfl, rfl⟩) hHeld ?_
                    simp only [Act.put, List.getElem_toArray, List.getElem_cons_succ, List.getElem_cons_zero, List.setIfInBounds_toArray, List.set_cons_zero, List.set_cons_succ]
                    refine wpAnyH_take (i := 9) (v := .bool true) rfl (by kernel_rfl) (by kernel_rfl) (by kernel_rfl) (fun _ _ _ h => h) (Or.inl ⟨by rfl, ?_⟩) hHeld ?_
                    · intro u hu
                      go_simp
                    simp only [Act.put, List.getElem_toArray, List.getElem_cons_succ, List.getElem_cons_zero, List.setIfInBounds_toArray, List.set_cons_zero, List.set_cons_succ]
                    refine wpAnyH_take (i := 10) (v := .bool true) rfl (by kernel_rfl) (by kernel_rfl) (by kernel_rfl) (fun _ _ _ h => h) (Or.inl ⟨by rfl, ?_⟩) hHeld ?_
                    · intro u hu
                      go_simp
                    simp only [Act.put, List.getElem_toArray, List.getElem_cons_succ, List.getElem_cons_zero, List.setIfInBounds_toArray, List.set_cons_zero, List.set_cons_succ]
                    refine wpAnyH_done (by kernel_rfl) ?_ _
                    go_wp2
                    go_roundw
                    case rel => exact ⟨m + 1, _, by omega, rfl, by go_num, HK2, HWD⟩
                    case measure => simp [intOf]; omega
                  | false =>
                    obtain ⟨gh, cx, hxh, _, _⟩ := (HROW.out _ HWE.out.1).1.form (by omega)
                    simp only [Value.slice.injEq] at hxh
                    obtain ⟨rfl, -, rfl⟩ := hxh
                    obtain ⟨hk, hhk⟩ : ∃ hk, hk = HX[m] := ⟨_, rfl⟩
                    have hbd : Below wr.heap.size wr wr.drew := (Below.refl _ _).drew
                    have HCL : Hid (∀ U, Below wr.heap.size wr U → U.cell? ⟨gh, m, none⟩ = some (.string hk) ∧ U.cell? ⟨kb, 1, none⟩ = some (.string bh)) := fun U hU => ⟨by
                      have := (lies_own (HROW.out U (next HWE.out.1 hU)).1).1 m _ (tC_at hmX)
                      rw [hhk]
                      simpa using this, (HWE.out.2.2.below hU).cell 1⟩
                    rw [← hhk] at HTK
                    have hex : (hk.toList == bh.toList) = decide (hk = bh) := str_eqd hk bh
                    clear hhk
                    cases heq : decide (hk = bh) with
                    | true =>
                      rw [heq] at hex
                      have HK2 : Hid (true = (HX.take (m + 1)).any fun z => decide (z = bh)) := by
                        unfold Hid
                        rw [HTK.out, heq, Bool.or_true]
                      clear HTK HKN heq
                      go_wp2
                      refine wp_region_held_drew (S := fun U => Below wr.heap.size wr U) (by kernel_rfl) hbd (fun hHeld => ?_)
                      refine wpAnyH_take (i := 0) (v := .bool false) rfl (by kernel_rfl) (by kernel_rfl) (by kernel_rfl) (fun _ _ _ h => h) (Or.inl ⟨by rfl, ?_⟩) hHeld ?_
                      · intro u hu
                        go_simp
                      simp only [Act.put, List.getElem_toArray, List.getElem_cons_zero, List.setIfInBounds_toArray, List.set_cons_zero, List.set_cons_succ]
                      refine wpAnyH_take (i := 1) (v := .bool false) rfl (by kernel_rfl) (by kernel_rfl) (by kernel_rfl) (fun _ _ _ h => h) (Or.inl ⟨by rfl, ?_⟩) hHeld ?_
                      · intro u hu
                        go_simp
                      simp only [Act.put, List.getElem_toArray, List.getElem_cons_succ, List.getElem_cons_zero, List.setIfInBounds_toArray, List.set_cons_zero, List.set_cons_succ]
                      refine wpAnyH_take (i := 2) (v := .slice (some ⟨gh, 0, none⟩) NH9 cs) rfl (by kernel_rfl) (by kernel_rfl) (by kernel_rfl) (fun _ _ _ h => h) (Or.inl ⟨by rfl, ?_⟩) hHeld ?_
                      · intro u hu
                        go_simp
                      simp only [Act.put, List.getElem_toArray, List.getElem_cons_succ, List.getElem_cons_zero, List.setIfInBounds_toArray, List.set_cons_zero, List.set_cons_succ]
                      refine wpAnyH_take (i := 3) (v := .int .i64 (m : Int)) rfl (by kernel_rfl) (by kernel_rfl) (by kernel_rfl) (fun _ _ _ h => h) (Or.inl ⟨by rfl, ?_⟩) hHeld ?_
                      · intro u hu
                        go_simp
                      simp only [Act.put, List.getElem_toArray, List.getElem_cons_succ, List.getElem_cons_zero, List.setIfInBounds_toArray, List.set_cons_zero, List.set_cons_succ]
                      refine wpAnyH_take (i := 4) (v := .pointer (some ⟨gh, m, none⟩)) rfl (by kernel_rfl) (by kernel_rfl) (by kernel_rfl) (fun _ _ _ h => h) (Or.inl ⟨by rfl, ?_⟩) hHeld ?_
                      · intro u hu
                        go_simp
                      simp only [Act.put, List.getElem_toArray, List.getElem_cons_succ, List.getElem_cons_zero, List.setIfInBounds_toArray, List.set_cons_zero, List.set_cons_succ]
                      refine wpAnyH_take (i := 5) (v := .string hk) rfl (by kernel_rfl) (by kernel_rfl) (by kernel_rfl) (fun _ _ _ h => h) (Or.inl ⟨by rfl, ?_⟩) hHeld ?_
                      · intro u hu
                        obtain ⟨a0, a1⟩ := HCL.out _ hu; clear hu
                        go_simp
                      simp only [Act.put, List.getElem_toArray, List.getElem_cons_succ, List.getElem_cons_zero, List.setIfInBounds_toArray, List.set_cons_zero, List.set_cons_succ]
                      refine wpAnyH_take (i := 6) (v := .pointer (some ⟨kb, 1, none⟩)) rfl (by kernel_rfl) (by kernel_rfl) (by kernel_rfl) (fun _ _ _ h => h) (Or.inl ⟨by rfl, ?_⟩) hHeld ?_
                      · intro u hu
                        go_simp
                      simp only [Act.put, List.getElem_toArray, List.getElem_cons_succ, List.getElem_cons_zero, List.setIfInBounds_toArray, List.set_cons_zero, List.set_cons_succ]
                      refine wpAnyH_take (i := 7) (v := .string bh) rfl (by kernel_rfl) (by kernel_rfl) (by kernel_rfl) (fun _ _ _ h => h) (Or.inl ⟨by rfl, ?_⟩) hHeld ?_
                      · intro u hu
                        obtain ⟨a0, a1⟩ := HCL.out _ hu; clear hu
                        go_simp
                      simp only [Act.put, List.getElem_toArray, List.getElem_cons_succ, List.getElem_cons_zero, List.setIfInBounds_toArray, List.set_cons_zero, List.set_cons_succ]
                      refine wpAnyH_take (i := 8) (v := .bool true) rfl (by kernel_rfl) (by kernel_rfl) (by kernel_rfl) (fun _ _ _ h => h) (Or.inl ⟨by rfl, ?_⟩) hHeld ?_
                      · intro u hu
                        go_simp
                      simp only [Act.put, List.getElem_toArray, List.getElem_cons_succ, List.getElem_cons_zero, List.setIfInBounds_toArray, List.set_cons_zero, List.set_cons_succ]
                      refine wpAnyH_take (i := 9) (v := .bool true) rfl (by kernel_rfl) (by kernel_rfl) (by kernel_rfl) (fun _ _ _ h => h) (Or.inl ⟨by rfl, ?_⟩) hHeld ?_
                      · intro u hu
                        go_simp
                      simp only [Act.put, List.getElem_toArray, List.getElem_cons_succ, List.getElem_cons_zero, List.setIfInBounds_toArray, List.set_cons_zero, List.set_cons_succ]
                      refine wpAnyH_take (i := 10) (v := .bool true) rfl (by kernel_rfl) (by kernel_rfl) (by kernel_rfl) (fun _ _ _ h => h) (Or.inl ⟨by rfl, ?_⟩) hHeld ?_
                      · intro u hu
                        go_simp
                      simp only [Act.put, List.getElem_toArray, List.getElem_cons_succ, List.getElem_cons_zero, List.setIfInBounds_toArray, List.set_cons_zero, List.set_cons_succ]
                      refine wpAnyH_done (by kernel_rfl) ?_ _
                      go_wp2
                      go_roundw
                      case rel => exact ⟨m + 1, _, by omega, rfl, by go_num, HK2, HWD⟩
                      case measure => simp [intOf]; omega
                    | false =>
                      rw [heq] at hex
                      have HK2 : Hid (false = (HX.take (m + 1)).any fun z => decide (z = bh)) := by
                        unfold Hid
                        rw [HTK.out, heq, ← HKN.out]
                        rfl
                      clear HTK HKN heq
                      go_wp2
                      refine wp_region_held_drew (S := fun U => Below wr.heap.size wr U) (by kernel_rfl) hbd (fun hHeld => ?_)
                      refine wpAnyH_take (i := 0) (v := .bool false) rfl (by kernel_rfl) (by kernel_rfl) (by kernel_rfl) (fun _ _ _ h => h) (Or.inl ⟨by rfl, ?_⟩) hHeld ?_
                      · intro u hu
                        go_simp
                      simp only [Act.put, List.getElem_toArray, List.getElem_cons_zero, List.setIfInBounds_toArray, List.set_cons_zero, List.set_cons_succ]
                      refine wpAnyH_take (i := 1) (v := .bool false) rfl (by kernel_rfl) (by kernel_rfl) (by kernel_rfl) (fun _ _ _ h => h) (Or.inl ⟨by rfl, ?_⟩) hHeld ?_
                      · intro u hu
                        go_simp
                      simp only [Act.put, List.getElem_toArray, List.getElem_cons_succ, List.getElem_cons_zero, List.setIfInBounds_toArray, List.set_cons_zero, List.set_cons_succ]
                      refine wpAnyH_take (i := 2) (v := .slice (some ⟨gh, 0, none⟩) NH9 cs) rfl (by kernel_rfl) (by kernel_rfl) (by kernel_rfl) (fun _ _ _ h => h) (Or.inl ⟨by rfl, ?_⟩) hHeld ?_
                      · intro u hu
                        go_simp
                      simp only [Act.put, List.getElem_toArray, List.getElem_cons_succ, List.getElem_cons_zero, List.setIfInBounds_toArray, List.set_cons_zero, List.set_cons_succ]
                      refine wpAnyH_take (i := 3) (v := .int .i64 (m : Int)) rfl (by kernel_rfl) (by kernel_rfl) (by kernel_rfl) (fun _ _ _ h => h) (Or.inl ⟨by rfl, ?_⟩) hHeld ?_
                      · intro u hu
                        go_simp
                      simp only [Act.put, List.getElem_toArray, List.getElem_cons_succ, List.getElem_cons_zero, List.setIfInBounds_toArray, List.set_cons_zero, List.set_cons_succ]
                      refine wpAnyH_take (i := 4) (v := .pointer (some ⟨gh, m, none⟩)) rfl (by kernel_rfl) (by kernel_rfl) (by kernel_rfl) (fun _ _ _ h => h) (Or.inl ⟨by rfl, ?_⟩) hHeld ?_
                      · intro u hu
                        go_simp
                      simp only [Act.put, List.getElem_toArray, List.getElem_cons_succ, List.getElem_cons_zero, List.setIfInBounds_toArray, List.set_cons_zero, List.set_cons_succ]
                      refine wpAnyH_take (i := 5) (v := .string hk) rfl (by kernel_rfl) (by kernel_rfl) (by kernel_rfl) (fun _ _ _ h => h) (Or.inl ⟨by rfl, ?_⟩) hHeld ?_
                      · intro u hu
                        obtain ⟨a0, a1⟩ := HCL.out _ hu; clear hu
                        go_simp
                      simp only [Act.put, List.getElem_toArray, List.getElem_cons_succ, List.getElem_cons_zero, List.setIfInBounds_toArray, List.set_cons_zero, List.set_cons_succ]
                      refine wpAnyH_take (i := 6) (v := .pointer (some ⟨kb, 1, none⟩)) rfl (by kernel_rfl) (by kernel_rfl) (by kernel_rfl) (fun _ _ _ h => h) (Or.inl ⟨by rfl, ?_⟩) hHeld ?_
                      · intro u hu
                        go_simp
                      simp only [Act.put, List.getElem_toArray, List.getElem_cons_succ, List.getElem_cons_zero, List.setIfInBounds_toArray, List.set_cons_zero, List.set_cons_succ]
                      refine wpAnyH_take (i := 7) (v := .string bh) rfl (by kernel_rfl) (by kernel_rfl) (by kernel_rfl) (fun _ _ _ h => h) (Or.inl ⟨by rfl, ?_⟩) hHeld ?_
                      · intro u hu
                        obtain ⟨a0, a1⟩ := HCL.out _ hu; clear hu
                        go_simp
                      simp only [Act.put, List.getElem_toArray, List.getElem_cons_succ, List.getElem_cons_zero, List.setIfInBounds_toArray, List.set_cons_zero, List.set_cons_succ]
                      refine wpAnyH_take (i := 8) (v := .bool false) rfl (by kernel_rfl) (by kernel_rfl) (by kernel_rfl) (fun _ _ _ h => h) (Or.inl ⟨by rfl, ?_⟩) hHeld ?_
                      · intro u hu
                        go_simp
                      simp only [Act.put, List.getElem_toArray, List.getElem_cons_succ, List.getElem_cons_zero, List.setIfInBounds_toArray, List.set_cons_zero, List.set_cons_succ]
                      refine wpAnyH_take (i := 9) (v := .bool false) rfl (by kernel_rfl) (by kernel_rfl) (by kernel_rfl) (fun _ _ _ h => h) (Or.inl ⟨by rfl, ?_⟩) hHeld ?_
                      · intro u hu
                        go_simp
                      simp only [Act.put, List.getElem_toArray, List.getElem_cons_succ, List.getElem_cons_zero, List.setIfInBounds_toArray, List.set_cons_zero, List.set_cons_succ]
                      refine wpAnyH_take (i := 10) (v := .bool false) rfl (by kernel_rfl) (by kernel_rfl) (by kernel_rfl) (fun _ _ _ h => h) (Or.inl ⟨by rfl, ?_⟩) hHeld ?_
                      · intro u hu
                        go_simp
                      simp only [Act.put, List.getElem_toArray, List.getElem_cons_succ, List.getElem_cons_zero, List.setIfInBounds_toArray, List.set_cons_zero, List.set_cons_succ]
                      refine wpAnyH_done (by kernel_rfl) ?_ _
                      go_wp2
                      go_roundw
                      case rel => exact ⟨m + 1, _, by omega, rfl, by go_num, HK2, HWD⟩
                      case measure => simp [intOf]; omega
                · have hmn' : decide (m < NH9) = false := by simpa using hmn
                  obtain rfl : kn = true := by
                    rw [HKN.out, List.take_of_length_le (by have := HNH.out; omega), List.any_eq_true]
                    exact ⟨bh, HGB.out.host, by simp⟩
                  clear HKN hmn
                  have y0 := HWE.out.2.2.cell 0
                  have y3 := HWE.out.2.2.cell 3
                  have y4 := HWE.out.2.2.cell 4
                  simp only [List.getElem?_toArray, List.getElem?_cons_succ, List.getElem?_cons_zero] at y0 y3 y4
                  have HWN : Hid (BX7 w w7 wr o F4 M) := ⟨HWE.out.1, HWE.out.2.1⟩
                  rcases HGB.out.from' with ⟨hC, hbf⟩ | ⟨hC, hte, hlt⟩
                  · have hroot : (bc.toList == [0]) = true := by rw [Cu.root_as, hC]; decide
                    have hbr : (bf.toList == [0]) = true := by rw [Cu.root_as]; simp only at hbf; rw [hbf]; decide
                    clear hC hbf HWE
                    go_wp2
                    go_roundw
                    case rel => exact ⟨q + 1, by omega, by go_num, HWN⟩
                    case measure => simp [intOf]; omega
                  · have hroot : (bc.toList == [0]) = false := by rw [Cu.root_as]; exact decide_eq_false hC
                    have hle : decide (bu ≤ (t' : Int)) = false := by simp only at hlt; simp; omega
                    have hfs : bf.size ≤ maxLen := by have := HGB.out.fsz; simp only at this; unfold maxLen; omega
                    have hbw := refBelow_as bf bc true wr hfs HCS.out hte
                    clear hC hte hlt HWE
                    go_wp2_with (go_at_call 19; go_must (refine hbw.mono ?_); rintro e wz ⟨rfl, bz⟩; have HWZ : Hid (BX7 w w7 wz o F4 M) := ⟨next HWN.out.1 bz, HWN.out.2.below bz⟩; have z4 : wz.cell? ⟨kb, 4, none⟩ = some (.int .i64 bu) := (bz.cell (p := ⟨kb, 4, none⟩) (World.block_lt_of_cell? _ _ y4)).trans y4; clear bz hbw y0 y3 y4)
                    go_roundw
                    case rel => exact ⟨q + 1, by omega, by go_num, HWZ⟩
                    case measure => simp [intOf]; omega
            · have hqn' : decide (q < NB9) = false := by simpa using hqn
              have HEN : Hid (∃ F, Cu.FTr (i + 1) F ∧ Cu.LW w wr o Cu.Hs2 Cu.Hb2 F (fun _ => False)) := ⟨F4, HF4.out, HWQ.out.2.more (Below.refl _ _) (fun _ h => h.elim)⟩
              clear HWQ hqn
              go_wp2
              go_roundw
              case rel => exact ⟨i + 1, t', by omega, by omega, by omega, rfl, by go_num, HEN⟩
              case measure => simp [intOf]; omega
        | true =>
          go_wp2_with (first
            | (go_at_call 13; go_must (refine hde.mono ?_); rintro e w5 ⟨rfl, lw5, b5⟩; have n5 := HKN.out w5 b5; have HL5 : Hid (Below w4.heap.size w4 w5 ∧ Cu.LW w w5 o Cu.Hs2 Cu.Hb2 F4 M) := ⟨b5, lw5⟩; clear hde lw5 b5)
            | (go_at_call 14; go_must (refine (refMay_as pn true _ HPN.out hnm).mono ?_); rintro e w6 ⟨rfl, b6⟩; have n6 := HKN.out w6 (next HL5.out.1 b6); have HL6 : Hid (Cu.LW w w6 o Cu.Hs2 Cu.Hb2 F4 M) := HL5.out.2.below b6; have hab := refAbove_any CC pn w6 HCS.out HPN.out; rw [HDI.out.above hnm] at hab; clear b6 n5)
            | (go_at_call 15; go_must (refine hab.mono ?_); rintro e wa ⟨rfl, ba⟩; have HLA : Hid (Cu.LW w wa o Cu.Hs2 Cu.Hb2 F4 M) := HL6.out.below ba; clear ba n6 hab)
            | (go_at_call 16; go_must (refine (refFold_as CC CC _ HCS.out HFD.out).mono ?_); rintro e wf ⟨rfl, bf⟩; have hho := (HLA.out.below bf).hosts CC (t' : Int) HCS.out HX HHX.out.1 NH9 HNH.out; clear bf)
            | (go_at_call 17; go_must (refine hho.mono ?_); rintro e wg ⟨ys, cs, rfl, og, lg, _⟩; have hbi := lg.binds CC (t' : Int) HCS.out BX HHX.out.2 NB9 HNB.out; have HOG : Hid (wg.ownsRow _ 9 1 (.slice ys NH9 cs) NH9 (tC HX)) := og; clear hho lg og)
            | (go_at_call 18; go_must (refine hbi.mono ?_); rintro e w7 ⟨yb, cb, rfl, ob, lb, bb⟩; have HROW : Hid (∀ U, Below w7.heap.size w7 U → U.ownsRow _ 9 1 (.slice ys NH9 cs) NH9 (tC HX) ∧ U.ownsRow _ 45 5 (.slice yb NB9 cb) NB9 (Cu.bC BX)) := fun U hU => ⟨own_past (own_past HOG.out bb) hU, own_past ob hU⟩; have HW7 : Hid (BX7 w w7 w7 o F4 M) := ⟨Below.refl _ _, lb⟩; clear hbi lb ob bb))
          clear HL5 HL6 HLA HOG
          go_loopw [13] (fun k wr => ∃ q : Nat, q ≤ NB9 ∧ k = .int .i64 (q : Int) ∧ Hid (BX7 w w7 wr o F4 M)) (fun k _ => NB9 - (intOf k).toNat)
          case atStart => exact ⟨0, Nat.zero_le _, rfl, HW7⟩
          case round =>
            clear HW7
            obtain ⟨q, hq, rfl, HWQ⟩ := hrel
            by_cases hqn : q < NB9
            · have hqn' : (q : Int) < (NB9 : Int) := by omega
              have hqX : q < BX.length := by have := HNB.out; omega
              obtain ⟨gb, cx, hxb, _, _⟩ := (HROW.out _ HWQ.out.1).2.form (by omega)
              simp only [Value.slice.injEq] at hxb
              obtain ⟨rfl, -, rfl⟩ := hxb
              obtain ⟨⟨bc, bh, ba, bf, bu⟩, hp⟩ : ∃ p, p = BX[q] := ⟨_, rfl⟩
              have hgb := HBG.out _ (List.getElem_mem hqX)
              rw [← hp] at hgb
              have hcut := hgb.cut
              simp only at hcut
              subst hcut
              have HGB : Hid (Cu.BGood bc HX (t' : Int) ⟨bc, bh, ba, bf, bu⟩) := hgb
              have hL := (lies_own (HROW.out _ HWQ.out.1).2).1
              have hfl := fun k hk => flat_get (f := Cu.bV) (z := 5) (fun _ => rfl) BX q hqX k hk
              rw [← hp] at hfl
              have d0 := hL (q * 5 + 0) _ (hfl 0 (by omega))
              have d1 := hL (q * 5 + 1) _ (hfl 1 (by omega))
              have d2 := hL (q * 5 + 2) _ (hfl 2 (by omega))
              have d3 := hL (q * 5 + 3) _ (hfl 3 (by omega))
              have d4 := hL (q * 5 + 4) _ (hfl 4 (by omega))
              simp only [Nat.add_zero] at d0
              clear hL hfl hp hgb hqX
              go_wp2
              obtain ⟨we, hwe⟩ : ∃ we, we = wr.alloc (.cells #[.string bc, .string bh, .int .i64 ba, .string bf, .int .i64 bu] 45) := ⟨_, rfl⟩
              obtain ⟨kb, hkb⟩ : ∃ kb, kb = wr.heap.size := ⟨_, rfl⟩
              have HWE0 : Hid (WX w w7 we o F4 M kb #[.string bc, .string bh, .int .i64 ba, .string bf, .int .i64 bu]) := by
                rw [hwe, hkb]
                exact ⟨next HWQ.out.1 (lay (Below.refl _ _) _), HWQ.out.2.below (lay (Below.refl _ _) _), Blk.new wr _ _⟩
              rw [← hwe, ← hkb]
              clear hwe hkb d0 d1 d2 d3 d4 HWQ
              go_loopw [15, 16] (fun s15 k wr => ∃ (m : Nat) (kn : Bool), m ≤ NH9 ∧ s15 = .bool kn ∧ k = .int .i64 (m : Int) ∧ Hid (kn = (HX.take m).any fun z => decide (z = bh)) ∧ Hid (WX w w7 wr o F4 M kb #[.string bc, .string bh, .int .i64 ba, .string bf, .int .i64 bu])) (fun _ k _ => NH9 - (intOf k).toNat)
              case atStart => exact ⟨0, _, Nat.zero_le _, rfl, rfl, rfl, HWE0⟩
              case round =>
                clear HWE0
                obtain ⟨m, kn, hm, rfl, rfl, HKN, HWE⟩ := hrel
                have HWD : Hid (WX w w7 wr.drew o F4 M kb #[.string bc, .string bh, .int .i64 ba, .string bf, .int .i64 bu]) := ⟨next HWE.out.1 (Below.refl _ _).drew, HWE.out.2.1.below (Below.refl _ _).drew, HWE.out.2.2.below (Below.refl _ _).drew⟩
                by_cases hmn : m < NH9
                · have hmn' : (m : Int) < (NH9 : Int) := by omega
                  have hmX : m < HX.length := by have := HNH.out; omega
                  have HTK : Hid ((HX.take (m + 1)).any (fun z => decide (z = bh)) = ((HX.take m).any (fun z => decide (z = bh)) || decide (HX[m] = bh))) := by
                    unfold Hid
                    rw [List.take_succ_eq_append_getElem hmX, List.any_append]
                    simp
                  cases kn with
                  | true =>
                    have HK2 : Hid (true = (HX.take (m + 1)).any fun z => decide (z = bh)) := by
                      unfold Hid
                      rw [HTK.out, ← HKN.out]
                      rfl
                    clear HTK HKN
                    go_wp2
                    refine wp_region_held_drew (S := fun _ => True) (by kernel_rfl) trivial (fun hHeld => ?_)
                    refine wpAnyH_take (i := 0) (v := .bool true) rfl (by kernel_rfl) (by kernel_rfl) (by kernel_rfl) (fun _ _ _ h => h) (Or.inl ⟨by rfl, ?_⟩) hHeld ?_
                    · intro u hu
                      go_simp
                    simp only [Act.put, List.getElem_toArray, List.getElem_cons_zero, List.setIfInBounds_toArray, List.set_cons_zero, List.set_cons_succ]
                    refine wpAnyH_take (i := 1) (v := .bool true) rfl (by kernel_rfl) (by kernel_rfl) (by kernel_rfl) (fun _ _ _ h => h) (Or.inl ⟨by rfl, ?_⟩) hHeld ?_
                    · intro u hu
                      go_simp
                    simp only [Act.put, List.getElem_toArray, List.getElem_cons_succ, List.getElem_cons_zero, List.setIfInBounds_toArray, List.set_cons_zero, List.set_cons_succ]
                    refine wpAnyH_take (i := 2) (v := undef) rfl (by kernel_rfl) (by kernel_rfl) (by kernel_rfl) (fun _ _ _ h => h) (Or.inr ⟨by rfl, rfl⟩) hHeld ?_
                    simp only [Act.put, List.getElem_toArray, List.getElem_cons_succ, List.getElem_cons_zero, List.setIfInBounds_toArray, List.set_cons_zero, List.set_cons_succ]
                    refine wpAnyH_take (i := 3) (v := undef) rfl (by kernel_rfl) (by kernel_rfl) (by kernel_rfl) (fun _ _ _ h => h) (Or.inr ⟨by rfl, rfl⟩) hHeld ?_
                    simp only [Act.put, List.getElem_toArray, List.getElem_cons_succ, List.getElem_cons_zero, List.setIfInBounds_toArray, List.set_cons_zero, List.set_cons_succ]
                    refine wpAnyH_take (i := 4) (v := undef) rfl (by kernel_rfl) (by kernel_rfl) (by kernel_rfl) (fun _ _ _ h => h) (Or.inr ⟨by rfl, rfl⟩) hHeld ?_
                    simp only [Act.put, List.getElem_toArray, List.getElem_cons_succ, List.getElem_cons_zero, List.setIfInBounds_toArray, List.set_cons_zero, List.set_cons_succ]
                    refine wpAnyH_take (i := 5) (v := undef) rfl (by kernel_rfl) (by kernel_rfl) (by kernel_rfl) (fun _ _ _ h => h) (Or.inr ⟨by rfl, rfl⟩) hHeld ?_
                    simp only [Act.put, List.getElem_toArray, List.getElem_cons_succ, List.getElem_cons_zero, List.setIfInBounds_toArray, List.set_cons_zero, List.set_cons_succ]
                    refine wpAnyH_take (i := 6) (v := undef) rfl (by kernel_rfl) (by kernel_rfl) (by kernel_rfl) (fun _ _ _ h => h) (Or.inr ⟨by rfl, rfl⟩) hHeld ?_
                    simp only [Act.put, List.getElem_toArray, List.getElem_cons_succ, List.getElem_cons_zero, List.setIfInBounds_toArray, List.set_cons_zero, List.set_cons_succ]
                    refine wpAnyH_take (i := 7) (v := undef) rfl (by kernel_rfl) (by kernel_rfl) (by kernel_rfl) (fun _ _ _ h => h) (Or.inr ⟨by rfl, rfl⟩) hHeld ?_
                    simp only [Act.put, List.getElem_toArray, List.getElem_cons_succ, List.getElem_cons_zero, List.setIfInBounds_toArray, List.set_cons_zero, List.set_cons_succ]
                    refine wpAnyH_take (i := 8) (v := undef) rfl (by kernel_rfl) (by kernel_rfl) (by kernel_rfl) (fun _ _ _ h => h) (Or.inr ⟨by rfl, rfl⟩) hHeld ?_
                    simp only [Act.put, List.getElem_toArray, List.getElem_cons_succ, List.getElem_cons_zero, List.setIfInBounds_toArray, List.set_cons_zero, List.set_cons_succ]
                    refine wpAnyH_take (i := 9) (v := .bool true) rfl (by kernel_rfl) (by kernel_rfl) (by kernel_rfl) (fun _ _ _ h => h) (Or.inl ⟨by rfl, ?_⟩) hHeld ?_
                    · intro u hu
                      go_simp
                    simp only [Act.put, List.getElem_toArray, List.getElem_cons_succ, List.getElem_cons_zero, List.setIfInBounds_toArray, List.set_cons_zero, List.set_cons_succ]
                    refine wpAnyH_take (i := 10) (v := .bool true) rfl (by kernel_rfl) (by kernel_rfl) (by kernel_rfl) (fun _ _ _ h => h) (Or.inl ⟨by rfl, ?_⟩) hHeld ?_
                    · intro u hu
                      go_simp
                    simp only [Act.put, List.getElem_toArray, List.getElem_cons_succ, List.getElem_cons_zero, List.setIfInBounds_toArray, List.set_cons_zero, List.set_cons_succ]
                    refine wpAnyH_done (by kernel_rfl) ?_ _
                    go_wp2
                    go_roundw
                    case rel => exact ⟨m + 1, _, by omega, rfl, by go_num, HK2, HWD⟩
                    case measure => simp [intOf]; omega
                  | false =>
                    obtain ⟨gh, cx, hxh, _, _⟩ := (HROW.out _ HWE.out.1).1.form (by omega)
                    simp only [Value.slice.injEq] at hxh
                    obtain ⟨rfl, -, rfl⟩ := hxh
                    obtain ⟨hk, hhk⟩ : ∃ hk, hk = HX[m] := ⟨_, rfl⟩
                    have hbd : Below wr.heap.size wr wr.drew := (Below.refl _ _).drew
                    have HCL : Hid (∀ U, Below wr.heap.size wr U → U.cell? ⟨gh, m, none⟩ = some (.string hk) ∧ U.cell? ⟨kb, 1, none⟩ = some (.string bh)) := fun U hU => ⟨by
                      have := (lies_own (HROW.out U (next HWE.out.1 hU)).1).1 m _ (tC_at hmX)
                      rw [hhk]
                      simpa using this, (HWE.out.2.2.below hU).cell 1⟩
                    rw [← hhk] at HTK
                    have hex : (hk.toList == bh.toList) = decide (hk = bh) := str_eqd hk bh
                    clear hhk
                    cases heq : decide (hk = bh) with
                    | true =>
                      rw [heq] at hex
                      have HK2 : Hid (true = (HX.take (m + 1)).any fun z => decide (z = bh)) := by
                        unfold Hid
                        rw [HTK.out, heq, Bool.or_true]
                      clear HTK HKN heq
                      go_wp2
                      refine wp_region_held_drew (S := fun U => Below wr.heap.size wr U) (by kernel_rfl) hbd (fun hHeld => ?_)
                      refine wpAnyH_take (i := 0) (v := .bool false) rfl (by kernel_rfl) (by kernel_rfl) (by kernel_rfl) (fun _ _ _ h => h) (Or.inl ⟨by rfl, ?_⟩) hHeld ?_
                      · intro u hu
                        go_simp
                      simp only [Act.put, List.getElem_toArray, List.getElem_cons_zero, List.setIfInBounds_toArray, List.set_cons_zero, List.set_cons_succ]
                      refine wpAnyH_take (i := 1) (v := .bool false) rfl (by kernel_rfl) (by kernel_rfl) (by kernel_rfl) (fun _ _ _ h => h) (Or.inl ⟨by rfl, ?_⟩) hHeld ?_
                      · intro u hu
                        go_simp
                      simp only [Act.put, List.getElem_toArray, List.getElem_cons_succ, List.getElem_cons_zero, List.setIfInBounds_toArray, List.set_cons_zero, List.set_cons_succ]
                      refine wpAnyH_take (i := 2) (v := .slice (some ⟨gh, 0, none⟩) NH9 cs) rfl (by kernel_rfl) (by kernel_rfl) (by kernel_rfl) (fun _ _ _ h => h) (Or.inl ⟨by rfl, ?_⟩) hHeld ?_
                      · intro u hu
                        go_simp
                      simp only [Act.put, List.getElem_toArray, List.getElem_cons_succ, List.getElem_cons_zero, List.setIfInBounds_toArray, List.set_cons_zero, List.set_cons_succ]
                      refine wpAnyH_take (i := 3) (v := .int .i64 (m : Int)) rfl (by kernel_rfl) (by kernel_rfl) (by kernel_rfl) (fun _ _ _ h => h) (Or.inl ⟨by rfl, ?_⟩) hHeld ?_
                      · intro u hu
                        go_simp
                      simp only [Act.put, List.getElem_toArray, List.getElem_cons_succ, List.getElem_cons_zero, List.setIfInBounds_toArray, List.set_cons_zero, List.set_cons_succ]
                      refine wpAnyH_take (i := 4) (v := .pointer (some ⟨gh, m, none⟩)) rfl (by kernel_rfl) (by kernel_rfl) (by kernel_rfl) (fun _ _ _ h => h) (Or.inl ⟨by rfl, ?_⟩) hHeld ?_
                      · intro u hu
                        go_simp
                      simp only [Act.put, List.getElem_toArray, List.getElem_cons_succ, List.getElem_cons_zero, List.setIfInBounds_toArray, List.set_cons_zero, List.set_cons_succ]
                      refine wpAnyH_take (i := 5) (v := .string hk) rfl (by kernel_rfl) (by kernel_rfl) (by kernel_rfl) (fun _ _ _ h => h) (Or.inl ⟨by rfl, ?_⟩) hHeld ?_
                      · intro u hu
                        obtain ⟨a0, a1⟩ := HCL.out _ hu; clear hu
                        go_simp
                      simp only [Act.put, List.getElem_toArray, List.getElem_cons_succ, List.getElem_cons_zero, List.setIfInBounds_toArray, List.set_cons_zero, List.set_cons_succ]
                      refine wpAnyH_take (i := 6) (v := .pointer (some ⟨kb, 1, none⟩)) rfl (by kernel_rfl) (by kernel_rfl) (by kernel_rfl) (fun _ _ _ h => h) (Or.inl ⟨by rfl, ?_⟩) hHeld ?_
                      · intro u hu
                        go_simp
                      simp only [Act.put, List.getElem_toArray, List.getElem_cons_succ, List.getElem_cons_zero, List.setIfInBounds_toArray, List.set_cons_zero, List.set_cons_succ]
                      refine wpAnyH_take (i := 7) (v := .string bh) rfl (by kernel_rfl) (by kernel_rfl) (by kernel_rfl) (fun _ _ _ h => h) (Or.inl ⟨by rfl, ?_⟩) hHeld ?_
                      · intro u hu
                        obtain ⟨a0, a1⟩ := HCL.out _ hu; clear hu
                        go_simp
                      simp only [Act.put, List.getElem_toArray, List.getElem_cons_succ, List.getElem_cons_zero, List.setIfInBounds_toArray, List.set_cons_zero, List.set_cons_succ]
                      refine wpAnyH_take (i := 8) (v := .bool true) rfl (by kernel_rfl) (by kernel_rfl) (by kernel_rfl) (fun _ _ _ h => h) (Or.inl ⟨by rfl, ?_⟩) hHeld ?_
                      · intro u hu
                        go_simp
                      simp only [Act.put, List.getElem_toArray, List.getElem_cons_succ, List.getElem_cons_zero, List.setIfInBounds_toArray, List.set_cons_zero, List.set_cons_succ]
                      refine wpAnyH_take (i := 9) (v := .bool true) rfl (by kernel_rfl) (by kernel_rfl) (by kernel_rfl) (fun _ _ _ h => h) (Or.inl ⟨by rfl, ?_⟩) hHeld ?_
                      · intro u hu
                        go_simp
                      simp only [Act.put, List.getElem_toArray, List.getElem_cons_succ, List.getElem_cons_zero, List.setIfInBounds_toArray, List.set_cons_zero, List.set_cons_succ]
                      refine wpAnyH_take (i := 10) (v := .bool true) rfl (by kernel_rfl) (by kernel_rfl) (by kernel_rfl) (fun _ _ _ h => h) (Or.inl ⟨by rfl, ?_⟩) hHeld ?_
                      · intro u hu
                        go_simp
                      simp only [Act.put, List.getElem_toArray, List.getElem_cons_succ, List.getElem_cons_zero, List.setIfInBounds_toArray, List.set_cons_zero, List.set_cons_succ]
                      refine wpAnyH_done (by kernel_rfl) ?_ _
                      go_wp2
                      go_roundw
                      case rel => exact ⟨m + 1, _, by omega, rfl, by go_num, HK2, HWD⟩
                      case measure => simp [intOf]; omega
                    | false =>
                      rw [heq] at hex
                      have HK2 : Hid (false = (HX.take (m + 1)).any fun z => decide (z = bh)) := by
                        unfold Hid
                        rw [HTK.out, heq, ← HKN.out]
                        rfl
                      clear HTK HKN heq
                      go_wp2
                      refine wp_region_held_drew (S := fun U => Below wr.heap.size wr U) (by kernel_rfl) hbd (fun hHeld => ?_)
                      refine wpAnyH_take (i := 0) (v := .bool false) rfl (by kernel_rfl) (by kernel_rfl) (by kernel_rfl) (fun _ _ _ h => h) (Or.inl ⟨by rfl, ?_⟩) hHeld ?_
                      · intro u hu
                        go_simp
                      simp only [Act.put, List.getElem_toArray, List.getElem_cons_zero, List.setIfInBounds_toArray, List.set_cons_zero, List.set_cons_succ]
                      refine wpAnyH_take (i := 1) (v := .bool false) rfl (by kernel_rfl) (by kernel_rfl) (by kernel_rfl) (fun _ _ _ h => h) (Or.inl ⟨by rfl, ?_⟩) hHeld ?_
                      · intro u hu
                        go_simp
                      simp only [Act.put, List.getElem_toArray, List.getElem_cons_succ, List.getElem_cons_zero, List.setIfInBounds_toArray, List.set_cons_zero, List.set_cons_succ]
                      refine wpAnyH_take (i := 2) (v := .slice (some ⟨gh, 0, none⟩) NH9 cs) rfl (by kernel_rfl) (by kernel_rfl) (by kernel_rfl) (fun _ _ _ h => h) (Or.inl ⟨by rfl, ?_⟩) hHeld ?_
                      · intro u hu
                        go_simp
                      simp only [Act.put, List.getElem_toArray, List.getElem_cons_succ, List.getElem_cons_zero, List.setIfInBounds_toArray, List.set_cons_zero, List.set_cons_succ]
                      refine wpAnyH_take (i := 3) (v := .int .i64 (m : Int)) rfl (by kernel_rfl) (by kernel_rfl) (by kernel_rfl) (fun _ _ _ h => h) (Or.inl ⟨by rfl, ?_⟩) hHeld ?_
                      · intro u hu
                        go_simp
                      simp only [Act.put, List.getElem_toArray, List.getElem_cons_succ, List.getElem_cons_zero, List.setIfInBounds_toArray, List.set_cons_zero, List.set_cons_succ]
                      refine wpAnyH_take (i := 4) (v := .pointer (some ⟨gh, m, none⟩)) rfl (by kernel_rfl) (by kernel_rfl) (by kernel_rfl) (fun _ _ _ h => h) (Or.inl ⟨by rfl, ?_⟩) hHeld ?_
                      · intro u hu
                        go_simp
                      simp only [Act.put, List.getElem_toArray, List.getElem_cons_succ, List.getElem_cons_zero, List.setIfInBounds_toArray, List.set_cons_zero, List.set_cons_succ]
                      refine wpAnyH_take (i := 5) (v := .string hk) rfl (by kernel_rfl) (by kernel_rfl) (by kernel_rfl) (fun _ _ _ h => h) (Or.inl ⟨by rfl, ?_⟩) hHeld ?_
                      · intro u hu
                        obtain ⟨a0, a1⟩ := HCL.out _ hu; clear hu
                        go_simp
                      simp only [Act.put, List.getElem_toArray, List.getElem_cons_succ, List.getElem_cons_zero, List.setIfInBounds_toArray, List.set_cons_zero, List.set_cons_succ]
                      refine wpAnyH_take (i := 6) (v := .pointer (some ⟨kb, 1, none⟩)) rfl (by kernel_rfl) (by kernel_rfl) (by kernel_rfl) (fun _ _ _ h => h) (Or.inl ⟨by rfl, ?_⟩) hHeld ?_
                      · intro u hu
                        go_simp
                      simp only [Act.put, List.getElem_toArray, List.getElem_cons_succ, List.getElem_cons_zero, List.setIfInBounds_toArray, List.set_cons_zero, List.set_cons_succ]
                      refine wpAnyH_take (i := 7) (v := .string bh) rfl (by kernel_rfl) (by kernel_rfl) (by kernel_rfl) (fun _ _ _ h => h) (Or.inl ⟨by rfl, ?_⟩) hHeld ?_
                      · intro u hu
                        obtain ⟨a0, a1⟩ := HCL.out _ hu; clear hu
                        go_simp
                      simp only [Act.put, List.getElem_toArray, List.getElem_cons_succ, List.getElem_cons_zero, List.setIfInBounds_toArray, List.set_cons_zero, List.set_cons_succ]
                      refine wpAnyH_take (i := 8) (v := .bool false) rfl (by kernel_rfl) (by kernel_rfl) (by kernel_rfl) (fun _ _ _ h => h) (Or.inl ⟨by rfl, ?_⟩) hHeld ?_
                      · intro u hu
                        go_simp
                      simp only [Act.put, List.getElem_toArray, List.getElem_cons_succ, List.getElem_cons_zero, List.setIfInBounds_toArray, List.set_cons_zero, List.set_cons_succ]
                      refine wpAnyH_take (i := 9) (v := .bool false) rfl (by kernel_rfl) (by kernel_rfl) (by kernel_rfl) (fun _ _ _ h => h) (Or.inl ⟨by rfl, ?_⟩) hHeld ?_
                      · intro u hu
                        go_simp
                      simp only [Act.put, List.getElem_toArray, List.getElem_cons_succ, List.getElem_cons_zero, List.setIfInBounds_toArray, List.set_cons_zero, List.set_cons_succ]
                      refine wpAnyH_take (i := 10) (v := .bool false) rfl (by kernel_rfl) (by kernel_rfl) (by kernel_rfl) (fun _ _ _ h => h) (Or.inl ⟨by rfl, ?_⟩) hHeld ?_
                      · intro u hu
                        go_simp
                      simp only [Act.put, List.getElem_toArray, List.getElem_cons_succ, List.getElem_cons_zero, List.setIfInBounds_toArray, List.set_cons_zero, List.set_cons_succ]
                      refine wpAnyH_done (by kernel_rfl) ?_ _
                      go_wp2
                      go_roundw
                      case rel => exact ⟨m + 1, _, by omega, rfl, by go_num, HK2, HWD⟩
                      case measure => simp [intOf]; omega
                · have hmn' : decide (m < NH9) = false := by simpa using hmn
                  obtain rfl : kn = true := by
                    rw [HKN.out, List.take_of_length_le (by have := HNH.out; omega), List.any_eq_true]
                    exact ⟨bh, HGB.out.host, by simp⟩
                  clear HKN hmn
                  have y0 := HWE.out.2.2.cell 0
                  have y3 := HWE.out.2.2.cell 3
                  have y4 := HWE.out.2.2.cell 4
                  simp only [List.getElem?_toArray, List.getElem?_cons_succ, List.getElem?_cons_zero] at y0 y3 y4
                  have HWN : Hid (BX7 w w7 wr o F4 M) := ⟨HWE.out.1, HWE.out.2.1⟩
                  rcases HGB.out.from' with ⟨hC, hbf⟩ | ⟨hC, hte, hlt⟩
                  · have hroot : (bc.toList == [0]) = true := by rw [Cu.root_as, hC]; decide
                    have hbr : (bf.toList == [0]) = true := by rw [Cu.root_as]; simp only at hbf; rw [hbf]; decide
                    clear hC hbf HWE
                    go_wp2
                    go_roundw
                    case rel => exact ⟨q + 1, by omega, by go_num, HWN⟩
                    case measure => simp [intOf]; omega
                  · have hroot : (bc.toList == [0]) = false := by rw [Cu.root_as]; exact decide_eq_false hC
                    have hle : decide (bu ≤ (t' : Int)) = false := by simp only at hlt; simp; omega
                    have hfs : bf.size ≤ maxLen := by have := HGB.out.fsz; simp only at this; unfold maxLen; omega
                    have hbw := refBelow_as bf bc true wr hfs HCS.out hte
                    clear hC hte hlt HWE
                    go_wp2_with (go_at_call 19; go_must (refine hbw.mono ?_); rintro e wz ⟨rfl, bz⟩; have HWZ : Hid (BX7 w w7 wz o F4 M) := ⟨next HWN.out.1 bz, HWN.out.2.below bz⟩; have z4 : wz.cell? ⟨kb, 4, none⟩ = some (.int .i64 bu) := (bz.cell (p := ⟨kb, 4, none⟩) (World.block_lt_of_cell? _ _ y4)).trans y4; clear bz hbw y0 y3 y4)
                    go_roundw
                    case rel => exact ⟨q + 1, by omega, by go_num, HWZ⟩
                    case measure => simp [intOf]; omega
            · have hqn' : decide (q < NB9) = false := by simpa using hqn
              have HEN : Hid (∃ F, Cu.FTr (i + 1) F ∧ Cu.LW w wr o Cu.Hs2 Cu.Hb2 F (fun _ => False)) := ⟨F4, HF4.out, HWQ.out.2.more (Below.refl _ _) (fun _ h => h.elim)⟩
              clear HWQ hqn
              go_wp2
              go_roundw
              case rel => exact ⟨i + 1, t', by omega, by omega, by omega, rfl, by go_num, HEN⟩
              case measure => simp [intOf]; omega
    · have he : decide (i < n0) = false ∨ (i < n0 ∧ decide ((i : Int) < 60) = false) := by
        by_cases h : i < n0
        · exact .inr ⟨h, by simp; omega⟩
        · exact .inl (by simp; omega)
      obtain ⟨F, hF, hW⟩ := HX.out
      have hde := hW.deep ⟨#[]⟩ now (by decide) ⟨#[0]⟩ (by unfold Cu.deepF; rw [if_neg (by decide)]; rfl)
      clear hlt hF hW HX
      rcases he with he | ⟨he, he2⟩
      all_goals
        go_wp2_with (first
          | (go_at_call 20; refine (num_any _ _).mono ?_; rintro e w' ⟨rfl, hw⟩; obtain rfl := hw.symm)
          | (go_at_call 13; go_must (refine hde.mono ?_); rintro e wd ⟨rfl, ld, _⟩; clear hde))
        go_ret
        exact ⟨rfl, ld.bel⟩

theorem own : ownKnob Try.prog.godebug = none := by kernel_rfl
theorem laidOut : laidOutB Try.prog = true := by kernel_rfl

set_option maxRecDepth 100000 in
theorem lifted (os : Os) (started : os.Started) (H : Type) (enc : TypeId × Value → H) :
    ReturnsInHanded {} Try.checked os 3 .any (Rows.cutsTraceSpec.pre6 enc Try.prog Try.f3 Rows.cutsTraceRow.domain false) (Rows.cutsTraceSpec.post enc Try.prog Try.f3 false true false false) := by
  refine returnsInHanded_of_change (C := Try.checked) own started (by kernel_rfl) Try.func3
    (ChangeSpec.witness6 (enc := enc) (C := Try.checked) false ⟨#[], #[.slice none 0 0, .int .i64 0], []⟩ 8 (by kernel_rfl) (by kernel_rfl) (by kernel_rfl) (by kernel_rfl)) ?_
  intro W base args ds gs before hval0 hW _ _
  have hval : ∀ (j : Nat) t v, Try.f3.params[j]? = some t → args[j]? = some v → Value.okWide Try.prog W .any base t v := hval0
  have hW' := hW
  obtain ⟨p, q, hA0, hV, rfl, hfz, hnd⟩ := hW
  have hA : DataW.TrodAll enc Try.prog W 0 (fun _ => true) true Try.f3.params.toList args.toList ds p := hA0
  rw [Try.params3] at hA hval
  obtain ⟨v0, vs0, d0, ds0, p0, q0, hargs, rfl, rfl, h0, r0⟩ := trodAll_cons hA
  obtain ⟨v1, vs1, d1, ds1, p1, q1, rfl, rfl, rfl, h1, r1⟩ := trodAll_cons r0
  obtain ⟨rfl, rfl, rfl⟩ := trodAll_nil r1
  obtain rfl : args = #[v0, v1] := by cases args; simp_all
  obtain ⟨rfl, rfl⟩ := trodVars_none hV
  obtain ⟨a0, w0⟩ := Cu.open_cacts (hval 0 22 v0 rfl rfl) h0
  obtain ⟨a1, rfl, rfl, rfl, w1⟩ := open_int Try.underlying3 (hval 1 3 v1 rfl rfl) h1
  have hlt0 : ∀ x ∈ p0, x.block < W.heap.size := fun x hx => by
    have := hW'.lt x (by simp [hx])
    simpa using this
  clear hA0 hval0
  simp only [List.append_nil] at hW'
  refine (walk v0 a0 a1 w1 W w0).mono fun e W' ⟨he, bel⟩ => ?_
  subst he
  exact ⟨_, rfl, _, _, _, [], _, [], hW', trodAll_mk1 (shut_bool Try.underlying4 _), (trodAll_cons_mk (Below.trod laidOut (by kernel_rfl) (of_decide_eq_true (by kernel_rfl)) h0 bel hlt0) (trodAll_cons_mk (shut_int Try.underlying3 w1) trodAll_mk0)), rfl, bel.frame _, fun h => by cases h⟩

/-- The statement. -/
theorem proved : Rows.CutsTraceSaid :=
  OpenClaim.holds_of_wide 3 Try.f3 rfl rfl rfl rfl rfl rfl rfl ⟨rfl, rfl, rfl, rfl, rfl⟩ rfl rfl rfl rfl rfl (by kernel_rfl) Try.func3 (by kernel_rfl)
    (of_decide_eq_true (by kernel_rfl)) (by unfold Func.isWrapper; first | (rw [if_pos (by decide +kernel)]; kernel_rfl) | (rw [if_neg (by decide +kernel)]; exact ⟨rfl, rfl⟩))
    (fun os started H enc _ => lifted os started H enc)
#print axioms proved


end Go.Proofs.Ytnjgdfmldjgloaa.cutsTrace
