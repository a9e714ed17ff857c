/- The document's look at a delegation. -/
import Derived.Test.YtnjgdfmldjgloaaGreatXCxD
namespace Go.Proofs.YtnjgdfmldjgloaaGreat
open Go.RowKit
open Pl
namespace Cu

theorem empty_as (n : ByteArray) : (n.toList == []) = decide (n = ⟨#[]⟩) := by
  have h1 := str_eqd n ⟨#[]⟩
  rw [show (⟨#[]⟩ : ByteArray).toList = [] from by rw [ByteArray.toList_eq]] at h1
  exact h1
theorem below_any (fr cn : ByteArray) (w : World) (hf : fr.size ≤ maxLen) (hc : cn.size ≤ maxLen) (b : Bool) (hb : tellOk fr cn = b) :
    Calls Tryz.prog 76 #[.string fr, .string cn] w fun e w' => e = .returned (.bool b) ∧ Below w.heap.size w w' := by
  unfold tellOk at hb
  have ha := fun u => refAbove_any fr cn u hf hc
  have hs := fun u => refSame_any fr cn u hf hc
  cases h1 : aboveB fr.data.toList cn.data.toList with
  | false =>
    rw [h1] at hb ha
    have HB : Hid (false = b) := hb
    clear hb hs h1
    go_enter Tryz.func76, Tryz.ntmps76
    go_wp2_with (go_at_call 58; go_must (refine (ha _).mono ?_); rintro e w1 ⟨rfl, b1⟩)
    go_ret
    exact ⟨ret_bool HB.out, b1⟩
  | true =>
    rw [h1] at hb ha
    obtain ⟨r, hr⟩ : ∃ r, sameB fr.data.toList cn.data.toList = r := ⟨_, rfl⟩
    rw [hr] at hb hs
    have HB : Hid ((!r) = b) := hb
    clear hb hr h1
    go_enter Tryz.func76, Tryz.ntmps76
    go_wp2_with (first
      | (go_at_call 58; go_must (refine (ha _).mono ?_); rintro e w1 ⟨rfl, b1⟩)
      | (go_at_call 80; go_must (refine (hs _).mono ?_); rintro e w2 ⟨rfl, b2⟩))
    go_ret
    exact ⟨ret_bool HB.out, next b1 b2⟩
theorem hasB_fd {ys : List ByteArray} {x : ByteArray} (hx : isName x.data.toList = true) : hasB ys x = decide (0 ≤ posL (ys.map fdB) (fdB x)) := by
  rw [Bool.eq_iff_iff, decide_eq_true_eq, posL_mem]
  unfold hasB
  rw [List.any_eq_true, List.mem_map]
  constructor
  · rintro ⟨y, hy, h⟩
    exact ⟨y, hy, same_fd h⟩
  · rintro ⟨y, hy, h⟩
    refine ⟨y, hy, ?_⟩
    cases hn : isName y.data.toList with
    | false =>
      rw [fd_none hn] at h
      have h2 := (fd_name hx).1
      rw [← h] at h2
      exact absurd h2 (by decide)
    | true => exact same_iff.2 ⟨hn, hx, by rw [← fl_fd hn, ← fl_fd hx, h]⟩
theorem hasB_none {ys : List ByteArray} {x : ByteArray} (hx : isName x.data.toList = false) : hasB ys x = false := by
  unfold hasB
  rw [List.any_eq_false]
  intro y _ h
  rw [(same_iff.1 h).2.1] at hx
  cases hx
/-- How far the look is. -/
structure DX (w wr : World) (D : Array Value) (v : Value) (n : Nat) (H : List ByteArray) : Prop where
  own : wr.ownsRow w.heap.size 9 1 v n (tC H)
  blk : Blk wr w.heap.size D 39
  bel : Below w.heap.size w wr
theorem DX.below {w wr wn : World} {D : Array Value} {v : Value} {n : Nat} {H : List ByteArray} (h : DX w wr D v n H) (hb : Below wr.heap.size wr wn) : DX w wn D v n H := ⟨own_past h.own hb, h.blk.below hb, next h.bel hb⟩
theorem DX.grow {w wr wn : World} {D : Array Value} {v v' : Value} {n n' : Nat} {H H' : List ByteArray} (h : DX w wr D v n H) (h1 : wn.ownsRow w.heap.size 9 1 v' n' (tC H')) (h2 : wr.grownBy wn v.ownBlock) : DX w wn D v' n' H' := by
  have T : Turn (fun k => v.ownBlock = some k) wr wn := Turn.of_grown h2 (fun k e => e)
  exact ⟨h1, T.blk h.blk (fun e => absurd (own_tag h.own e h.blk) (by decide)), Turn.below h.bel T h.bel.size (fun i hi => (h.own.lt i hi).1)⟩

set_option maxRecDepth 20000 in
set_option maxHeartbeats 4000000 in
theorem delMay_any {w : World} {d : Dg} {hv gv : Value} (h : DIn w d hv gv) (fr : ByteArray) (now : Int) (hf : fr.size ≤ maxLen) (b : Bool) (hb : mayD d fr now = b) :
    Calls Tryz.prog 47 #[.agg (dV d hv gv), .string fr, .int .i64 now] w fun e w' => ∃ V, e = .returned (.tuple #[V, .bool b]) ∧ (b = true → w'.ownsRow w.heap.size 9 1 V d.hs.length (tC (d.hs.map fdB))) ∧ Below w.heap.size w w' := by
  obtain ⟨i9, hi9, hz90, hz91, hz92⟩ := info_parts info9'
  obtain ⟨cn, hs, gl, ttl⟩ := d
  unfold dV mayD at *
  simp only at hb ⊢
  have HIN : Hid (DIn w ⟨cn, hs, gl, ttl⟩ hv gv) := h
  obtain ⟨xh, ch, hhv, _⟩ := h.hc
  obtain ⟨xg, cg, hgv, _⟩ := h.gr.src
  simp only at hhv hgv
  subst hhv hgv
  have hcs := h.cs
  have hbl := fun u r (hr : tellOk fr cn = r) => below_any fr cn u hf hcs r hr
  have HHR : Hid (Row w (.slice xh hs.length ch) hs.length (tC hs)) := h.hr
  have HGR : Hid (Row w (.slice xg gl.length cg) gl.length (bC gl)) := h.gr
  have HSS : Hid (∀ x ∈ hs, x.size ≤ maxLen) := h.hss
  have HGS : Hid (∀ x ∈ gl, x.h.size ≤ maxLen) := h.gss
  clear h HIN
  obtain ⟨NH, hNH⟩ : ∃ NH, NH = hs.length := ⟨_, rfl⟩
  obtain ⟨NL, hNL⟩ : ∃ NL, NL = gl.length := ⟨_, rfl⟩
  have HNH : Hid (NH = hs.length) := hNH
  have HNL : Hid (NL = gl.length) := hNL
  rw [← hNH] at HHR ⊢
  rw [← hNL] at HGR ⊢
  have HB : Hid ((tellOk fr cn && hostsOk hs && glueOk gl hs && decide (0 ≤ now) && decide (now ≤ 1099511627776)) = b) := hb
  clear hb hNH hNL hcs
  have HK : Hid (Blk (w.alloc (.cells #[.string cn, .slice xh NH ch, .slice xg NL cg, .int .i64 ttl] 39)) w.heap.size #[.string cn, .slice xh NH ch, .slice xg NL cg, .int .i64 ttl] 39) := Blk.new w _ _
  have HB0 : Hid (Below w.heap.size w (w.alloc (.cells #[.string cn, .slice xh NH ch, .slice xg NL cg, .int .i64 ttl] 39))) := lay (Below.refl _ _) _
  have c0 := HK.out.cell 0
  simp only [List.getElem?_toArray, List.getElem?_cons_zero] at c0
  obtain ⟨D, hD⟩ : ∃ D : Array Value, D = #[.string cn, .slice xh NH ch, .slice xg NL cg, .int .i64 ttl] := ⟨_, rfl⟩
  have HD : Hid (D = #[.string cn, .slice xh NH ch, .slice xg NL cg, .int .i64 ttl]) := hD
  clear hD
  cases h1 : tellOk fr cn with
  | false =>
    have HF : Hid (false = b) := by unfold Hid; rw [← HB.out, h1]; rfl
    replace hbl := fun u => hbl u false h1
    clear h1
    go_enter Tryz.func47, Tryz.ntmps47
    go_wp2_with (go_at_call 76; go_must (refine (hbl _).mono ?_); rintro e w1 ⟨rfl, b1⟩; have k1 := HK.out.below b1; have H1 := next HB0.out b1; have x1 := k1.cell 1; have x2 := k1.cell 2; simp only [List.getElem?_toArray, List.getElem?_cons_succ, List.getElem?_cons_zero] at x1 x2; clear b1)
    go_ret2
    exact ⟨_, by rw [← HF.out]; rfl, (fun e => by rw [← HF.out] at e; cases e), H1⟩
  | true =>
    replace hbl := fun u => hbl u true h1
    by_cases h2 : NH < 1
    · have HF : Hid (false = b) := by unfold Hid; rw [← HB.out, show hostsOk hs = false by unfold hostsOk; rw [decide_eq_false (by have := HNH.out; omega)]; rfl]; simp
      have h2i : (NH : Int) < 1 := by omega
      clear h1 h2
      go_enter Tryz.func47, Tryz.ntmps47
      go_wp2_with (go_at_call 76; go_must (refine (hbl _).mono ?_); rintro e w1 ⟨rfl, b1⟩; have k1 := HK.out.below b1; have H1 := next HB0.out b1; have x1 := k1.cell 1; have x2 := k1.cell 2; simp only [List.getElem?_toArray, List.getElem?_cons_succ, List.getElem?_cons_zero] at x1 x2; clear b1)
      go_ret2
      exact ⟨_, by rw [← HF.out]; rfl, (fun e => by rw [← HF.out] at e; cases e), H1⟩
    · have h2i : decide ((NH : Int) < 1) = false := by simp; omega
      by_cases h3 : 8 < NH
      · have HF : Hid (false = b) := by unfold Hid; rw [← HB.out, show hostsOk hs = false by unfold hostsOk; rw [decide_eq_false (p := hs.length ≤ 8) (by have := HNH.out; omega), Bool.and_false]; rfl]; simp
        have h3i : (8 : Int) < (NH : Int) := by omega
        clear h1 h2 h3
        go_enter Tryz.func47, Tryz.ntmps47
        go_wp2_with (go_at_call 76; go_must (refine (hbl _).mono ?_); rintro e w1 ⟨rfl, b1⟩; have k1 := HK.out.below b1; have H1 := next HB0.out b1; have x1 := k1.cell 1; have x2 := k1.cell 2; simp only [List.getElem?_toArray, List.getElem?_cons_succ, List.getElem?_cons_zero] at x1 x2; clear b1)
        go_ret2
        exact ⟨_, by rw [← HF.out]; rfl, (fun e => by rw [← HF.out] at e; cases e), H1⟩
      · have h3i : decide ((8 : Int) < (NH : Int)) = false := by simp; omega
        by_cases h4 : 8 < NL
        · have HF : Hid (false = b) := by unfold Hid; rw [← HB.out, show glueOk gl hs = false by unfold glueOk; rw [decide_eq_false (by have := HNL.out; omega)]; rfl]; simp
          have h4i : (8 : Int) < (NL : Int) := by omega
          clear h1 h2 h3 h4
          go_enter Tryz.func47, Tryz.ntmps47
          go_wp2_with (go_at_call 76; go_must (refine (hbl _).mono ?_); rintro e w1 ⟨rfl, b1⟩; have k1 := HK.out.below b1; have H1 := next HB0.out b1; have x1 := k1.cell 1; have x2 := k1.cell 2; simp only [List.getElem?_toArray, List.getElem?_cons_succ, List.getElem?_cons_zero] at x1 x2; clear b1)
          go_ret2
          exact ⟨_, by rw [← HF.out]; rfl, (fun e => by rw [← HF.out] at e; cases e), H1⟩
        · have h4i : decide ((8 : Int) < (NL : Int)) = false := by simp; omega
          by_cases h5 : now < 0
          · have HF : Hid (false = b) := by unfold Hid; rw [← HB.out, decide_eq_false (p := 0 ≤ now) (by omega)]; simp
            have _h := h5
            clear h1 h2 h3 h4
            go_enter Tryz.func47, Tryz.ntmps47
            go_wp2_with (go_at_call 76; go_must (refine (hbl _).mono ?_); rintro e w1 ⟨rfl, b1⟩; have k1 := HK.out.below b1; have H1 := next HB0.out b1; have x1 := k1.cell 1; have x2 := k1.cell 2; simp only [List.getElem?_toArray, List.getElem?_cons_succ, List.getElem?_cons_zero] at x1 x2; clear b1)
            go_ret2
            exact ⟨_, by rw [← HF.out]; rfl, (fun e => by rw [← HF.out] at e; cases e), H1⟩
          · have h5i : decide (now < 0) = false := by simpa using h5
            by_cases h6 : 1099511627776 < now
            · have HF : Hid (false = b) := by unfold Hid; rw [← HB.out, decide_eq_false (p := now ≤ 1099511627776) (by omega)]; simp
              have _h := h6
              clear h1 h2 h3 h4 h5
              go_enter Tryz.func47, Tryz.ntmps47
              go_wp2_with (go_at_call 76; go_must (refine (hbl _).mono ?_); rintro e w1 ⟨rfl, b1⟩; have k1 := HK.out.below b1; have H1 := next HB0.out b1; have x1 := k1.cell 1; have x2 := k1.cell 2; simp only [List.getElem?_toArray, List.getElem?_cons_succ, List.getElem?_cons_zero] at x1 x2; clear b1)
              go_ret2
              exact ⟨_, by rw [← HF.out]; rfl, (fun e => by rw [← HF.out] at e; cases e), H1⟩
            · have h6i : decide (1099511627776 < now) = false := by simpa using h6
              have HBB : Hid (((List.range NH).all (hOk hs) && gl.all (gOk hs)) = b) := by
                unfold Hid
                rw [← HB.out, h1]
                have e1 : hostsOk hs = (List.range NH).all (hOk hs) := by unfold hostsOk; rw [← HNH.out, decide_eq_true (p := 1 ≤ NH) (by omega), decide_eq_true (p := NH ≤ 8) (by omega)]; rfl
                have e2 : glueOk gl hs = gl.all (gOk hs) := by unfold glueOk; rw [← HNL.out, decide_eq_true (p := NL ≤ 8) (by omega)]; rfl
                rw [e1, e2, decide_eq_true (p := 0 ≤ now) (by omega), decide_eq_true (p := now ≤ 1099511627776) (by omega)]
                simp
              have hNH8 : NH ≤ 8 := by omega
              have hNL8 : NL ≤ 8 := by omega
              clear h1 h2 h3 h4 h5 h6 HB
              go_enter Tryz.func47, Tryz.ntmps47
              go_wp2_with (go_at_call 76; go_must (refine (hbl _).mono ?_); rintro e w1 ⟨rfl, b1⟩; have k1 := HK.out.below b1; have H1 := next HB0.out b1; have x1 := k1.cell 1; have x2 := k1.cell 2; simp only [List.getElem?_toArray, List.getElem?_cons_succ, List.getElem?_cons_zero] at x1 x2; clear b1)
              have HDX : Hid (DX w w1 D (.slice none 0 0) 0 ((hs.take 0).map fdB)) := ⟨World.ownsRow_nil _ _ _ _, by rw [HD.out]; exact k1, H1⟩
              clear x1 x2 k1 H1 hbl h2i h3i h4i h5i h6i c0
              go_loopw [8, 9] (fun ov k wr => ∃ (j co : Nat) (yo : Option Addr), j ≤ NH ∧ ov = .slice yo j co ∧ k = .int .i64 (j : Int) ∧ Hid (∀ i, i < j → hOk hs i = true) ∧ Hid (DX w wr D (.slice yo j co) j ((hs.take j).map fdB))) (fun _ k _ => NH - (intOf k).toNat)
              case atStart => exact ⟨0, 0, none, Nat.zero_le _, rfl, rfl, fun i h => by omega, HDX⟩
              case round =>
                clear HDX
                obtain ⟨j, co, yo, hj, rfl, rfl, HOKS, HX⟩ := hrel
                have q1 : wr.cell? ⟨w.heap.size, 1, none⟩ = some (.slice xh NH ch) := by have := HX.out.blk.cell 1; rw [HD.out] at this; exact this
                by_cases hjn : j < NH
                · have hjn' : (j : Int) < (NH : Int) := by omega
                  have hju : j < hs.length := by have := HNH.out; omega
                  obtain ⟨g, o, cap, hx, hc⟩ := row_at (HHR.out.below HX.out.bel) (by omega)
                  simp only [Value.slice.injEq] at hx
                  obtain ⟨rfl, -, rfl⟩ := hx
                  have d0 := hc j _ (tC_at hju)
                  obtain ⟨p, hp⟩ : ∃ p, p = hs[j] := ⟨_, rfl⟩
                  have HQ : Hid (p = hs[j]) := hp
                  have hpl : p.size ≤ maxLen := by rw [hp]; exact HSS.out _ (List.getElem_mem _)
                  rw [← hp] at d0
                  obtain ⟨f, hf2⟩ : ∃ f, f = fdB p := ⟨_, rfl⟩
                  have hfo := fun u => refFold_any p u hpl
                  rw [show (⟨(foldR p.data.toList).toArray⟩ : ByteArray) = f from hf2.symm] at hfo
                  have HHO : Hid (hOk hs j = (isName p.data.toList && !hasB (hs.take j) p)) := by
                    unfold Hid hOk
                    rw [List.getD_eq_getElem?_getD, List.getElem?_eq_getElem hju, Option.getD_some, ← hp]
                  have HBAD : Hid (hOk hs j = false → false = b) := fun e => by
                    rw [← HBB.out, show (List.range NH).all (hOk hs) = false from List.all_eq_false.2 ⟨j, List.mem_range.2 hjn, by rw [e]; simp⟩]
                    rfl
                  have HFE : Hid (f = fdB p) := hf2
                  clear hc hp hf2
                  cases hnm : isName p.data.toList with
                  | false =>
                    have HF : Hid (false = b) := HBAD.out (by rw [HHO.out, hnm]; rfl)
                    have hfe : (f.toList == []) = true := by rw [empty_as, HFE.out, fd_none hnm]; rfl
                    clear hnm HBAD HHO
                    go_wp2_with (go_at_call 35; go_must (refine (hfo _).mono ?_); rintro e w2 ⟨rfl, b2⟩)
                    go_ret2
                    exact ⟨_, by rw [← HF.out]; rfl, (fun e => by rw [← HF.out] at e; cases e), next HX.out.bel b2⟩
                  | true =>
                    have hfe : (f.toList == []) = false := by
                      rw [empty_as, decide_eq_false_iff_not, HFE.out]
                      intro e
                      have h2 := (fd_name hnm).1
                      rw [e] at h2
                      exact absurd h2 (by decide)
                    have hHB := hasB_fd (ys := hs.take j) hnm
                    rw [← HFE.out] at hHB
                    have HLJ : Hid (((hs.take j).map fdB).length = j) := by unfold Hid; rw [List.length_map, List.length_take]; omega
                    cases hin : hasB (hs.take j) p with
                    | true =>
                      have HF : Hid (false = b) := HBAD.out (by rw [HHO.out, hnm, hin]; rfl)
                      rw [hin] at hHB
                      have HIN2 : Hid (decide (0 ≤ posL ((hs.take j).map fdB) f) = true) := hHB.symm
                      clear hnm HBAD HHO hHB hin
                      go_wp2_with (first
                        | (go_at_call 35; go_must (refine (hfo _).mono ?_); rintro e w2 ⟨rfl, b2⟩; have HX2 := HX.out.below b2)
                        | (go_at_call 36; have hrw := Row.of_own HX2.own; go_must (refine (hasR_any (.slice yo j co) ((hs.take j).map fdB) f w2 (by rw [HLJ.out]; exact hrw) (by rw [HLJ.out]; unfold maxLen; omega) true HIN2.out).mono ?_); rintro e w' ⟨rfl, hw⟩; obtain rfl := hw.symm))
                      go_ret2
                      exact ⟨_, by rw [← HF.out]; rfl, (fun e => by rw [← HF.out] at e; cases e), HX2.bel⟩
                    | false =>
                      have HOK2 : Hid (∀ i, i < j + 1 → hOk hs i = true) := fun i hi => by
                        by_cases he : i = j
                        · subst he; rw [HHO.out, hnm, hin]; rfl
                        · exact HOKS.out i (by omega)
                      rw [hin] at hHB
                      have HIN2 : Hid (decide (0 ≤ posL ((hs.take j).map fdB) f) = false) := hHB.symm
                      have HTK : Hid ((hs.take (j + 1)).map fdB = (hs.take j).map fdB ++ [f]) := by
                        unfold Hid
                        rw [List.take_succ_eq_append_getElem hju, List.map_append, HFE.out, HQ.out]
                        rfl
                      clear hnm HBAD HHO hHB hin
                      go_wp2_with (first
                        | (go_at_call 35; go_must (refine (hfo _).mono ?_); rintro e w2 ⟨rfl, b2⟩; have HX2 : Hid (DX w w2 D (.slice yo j co) j ((hs.take j).map fdB)) := HX.out.below b2; clear b2)
                        | (go_at_call 36; have hrw := Row.of_own HX2.out.own; go_must (refine (hasR_any (.slice yo j co) ((hs.take j).map fdB) f w2 (by rw [HLJ.out]; exact hrw) (by rw [HLJ.out]; unfold maxLen; omega) false HIN2.out).mono ?_); rintro e w' ⟨rfl, hw⟩; obtain rfl := hw.symm)
                        | (at_builtin; have hb9 : Below w2.heap.size w2 (w2.alloc (.cells #[.string f] 9)) := lay (Below.refl _ _) _; have HX3 := HX2.out.below hb9; refine wpList_appG _ rfl (.tmp 64) (.tmp 66) 36 9 i9 _ 1 16 Tryz.underlying36 hi9 hz90 hz91 hz92 rfl (by decide) rfl w.heap.size _ j _ rfl HX3.own (.slice (some ⟨w2.heap.size, 0, none⟩) 1 1) 1 [.string f] rfl (Row.of_blk (Blk.new w2 #[.string f] 9) rfl 1 1) rfl (by simp [Value.oneCell']) (by omega) (by unfold maxLen; omega) HX3.bel.size ?_; intro v7 w7 h1 h3 h4; obtain ⟨y7, c7, rfl⟩ := row_shape h1; have HX9 : Hid (DX w w7 D (.slice y7 (j + 1) c7) (j + 1) ((hs.take (j + 1)).map fdB)) := HX3.grow (by rw [HTK.out, tC_app]; exact h1) h3; clear h1 h3 h4 hb9 HX3))
                      go_roundw
                      case rel => exact ⟨j + 1, c7, y7, by omega, rfl, by go_num, HOK2, HX9⟩
                      case measure => simp [intOf]; omega
                · have hjn' : decide (j < NH) = false := by simpa using hjn
                  obtain rfl : j = NH := by omega
                  have HALL : Hid ((List.range j).all (hOk hs) = true) := by
                    unfold Hid
                    rw [List.all_eq_true]
                    intro i hi
                    exact HOKS.out i (List.mem_range.1 hi)
                  have HT : Hid ((hs.take j).map fdB = hs.map fdB) := by unfold Hid; rw [HNH.out, List.take_length]
                  have HX1 : Hid (DX w wr D (.slice yo j co) j (hs.map fdB)) := by have := HX.out; rw [HT.out] at this; exact this
                  have HHL : Hid ((hs.map fdB).length = j) := by unfold Hid; rw [List.length_map]; exact HNH.out.symm
                  clear HOKS HX hjn hj
                  go_wp2
                  clear q1
                  go_loopw [11] (fun k wq => ∃ m : Nat, m ≤ NL ∧ k = .int .i64 (m : Int) ∧ Hid (∀ i (hi : i < gl.length), i < m → gOk hs gl[i] = true) ∧ Hid (DX w wq D (.slice yo j co) j (hs.map fdB))) (fun k _ => NL - (intOf k).toNat)
                  case atStart => exact ⟨0, Nat.zero_le _, rfl, fun i _ h => by omega, HX1⟩
                  case round =>
                    clear HX1
                    rename World => wq0
                    obtain ⟨m, hm, rfl, HGK, HX⟩ := hrel
                    have q2 := HX.out.blk.cell 2
                    rw [HD.out] at q2
                    simp only [List.getElem?_toArray, List.getElem?_cons_succ, List.getElem?_cons_zero] at q2
                    by_cases hmn : m < NL
                    · have hmn' : (m : Int) < (NL : Int) := by omega
                      have hmu : m < gl.length := by have := HNL.out; omega
                      obtain ⟨g, o, cap, hx, hc⟩ := row_at (HGR.out.below HX.out.bel) (by omega)
                      simp only [Value.slice.injEq] at hx
                      obtain ⟨rfl, -, rfl⟩ := hx
                      obtain ⟨⟨xc, p, xa, xf, xu⟩, hp⟩ : ∃ p, p = gl[m] := ⟨_, rfl⟩
                      have hfl := fun i hi => atBg hmu i hi
                      rw [← hp] at hfl
                      have d1 := hc (m * 5 + 1) _ (hfl 1 (by omega))
                      have d2 := hc (m * 5 + 2) _ (hfl 2 (by omega))
                      simp only [← Nat.add_assoc] at d1 d2
                      have hpl : p.size ≤ maxLen := by have := HGS.out _ (List.getElem_mem hmu); rw [← hp] at this; exact this
                      obtain ⟨f, hf2⟩ : ∃ f, f = fdB p := ⟨_, rfl⟩
                      have hfo := fun u => refFold_any p u hpl
                      rw [show (⟨(foldR p.data.toList).toArray⟩ : ByteArray) = f from hf2.symm] at hfo
                      have HHO : Hid (gOk hs gl[m] = (wideB xa && hasB hs p)) := by unfold Hid; rw [← hp]; rfl
                      have HBAD : Hid (gOk hs gl[m] = false → false = b) := fun e => by
                        rw [← HBB.out, show gl.all (gOk hs) = false from List.all_eq_false.2 ⟨_, List.getElem_mem hmu, by rw [e]; simp⟩]
                        simp
                      have HFE : Hid (f = fdB p) := hf2
                      have HXX : Hid (∀ U, Below wq0.heap.size wq0 U → DX w U D (.slice yo j co) j (hs.map fdB) ∧ U.cell? ⟨w.heap.size, 2, none⟩ = some (.slice (some ⟨g, o, none⟩) NL cg) ∧ U.cell? ⟨g, o + m * 5 + 2, none⟩ = some (.int .i64 xa)) := fun U hU => by
                        have h2 := HX.out.below hU
                        refine ⟨h2, by have := h2.blk.cell 2; rw [HD.out] at this; exact this, by rw [hU.cell (World.block_lt_of_cell? _ _ d2)]; exact d2⟩
                      clear hc hp hf2 hfl d2
                      cases hnm : isName p.data.toList with
                      | false =>
                        have HF : Hid (false = b) := HBAD.out (by rw [HHO.out, hasB_none hnm]; simp)
                        have hfe : (f.toList == []) = true := by rw [empty_as, HFE.out, fd_none hnm]; rfl
                        clear hnm HBAD HHO
                        go_wp2_with (go_at_call 35; go_must (refine (hfo _).mono ?_); rintro e w2 ⟨rfl, b2⟩; obtain ⟨hx2, z2, z3⟩ := HXX.out _ b2)
                        go_ret2
                        exact ⟨_, by rw [← HF.out]; rfl, (fun e => by rw [← HF.out] at e; cases e), hx2.bel⟩
                      | true =>
                        have hfe : (f.toList == []) = false := by
                          rw [empty_as, decide_eq_false_iff_not, HFE.out]
                          intro e
                          have h2 := (fd_name hnm).1
                          rw [e] at h2
                          exact absurd h2 (by decide)
                        have hHB := hasB_fd (ys := hs) hnm
                        rw [← HFE.out] at hHB
                        have hwd := fun u => wideR_any xa u
                        cases hin : hasB hs p with
                        | false =>
                          have HF : Hid (false = b) := HBAD.out (by rw [HHO.out, hin]; simp)
                          rw [hin] at hHB
                          have HIN2 : Hid (decide (0 ≤ posL (hs.map fdB) f) = false) := hHB.symm
                          clear hnm HBAD HHO hHB hin hwd
                          go_wp2_with (first
                            | (go_at_call 35; go_must (refine (hfo _).mono ?_); rintro e w2 ⟨rfl, b2⟩; obtain ⟨hx2, z2, z3⟩ := HXX.out _ b2)
                            | (go_at_call 36; have hrw := Row.of_own hx2.own; go_must (refine (hasR_any (.slice yo j co) (hs.map fdB) f w2 (by rw [HHL.out]; exact hrw) (by rw [HHL.out]; unfold maxLen; omega) false HIN2.out).mono ?_); rintro e w' ⟨rfl, hw⟩; obtain rfl := hw.symm))
                          go_ret2
                          exact ⟨_, by rw [← HF.out]; rfl, (fun e => by rw [← HF.out] at e; cases e), hx2.bel⟩
                        | true =>
                          rw [hin] at hHB
                          have HIN2 : Hid (decide (0 ≤ posL (hs.map fdB) f) = true) := hHB.symm
                          cases hw9 : wideB xa with
                          | false =>
                            have HF : Hid (false = b) := HBAD.out (by rw [HHO.out, hw9]; rfl)
                            rw [hw9] at hwd
                            clear hnm HBAD HHO hHB hin hw9
                            go_wp2_with (first
                              | (go_at_call 35; go_must (refine (hfo _).mono ?_); rintro e w2 ⟨rfl, b2⟩; obtain ⟨hx2, z2, z3⟩ := HXX.out _ b2)
                              | (go_at_call 36; have hrw := Row.of_own hx2.own; go_must (refine (hasR_any (.slice yo j co) (hs.map fdB) f w2 (by rw [HHL.out]; exact hrw) (by rw [HHL.out]; unfold maxLen; omega) true HIN2.out).mono ?_); rintro e w' ⟨rfl, hw⟩; obtain rfl := hw.symm)
                              | (go_at_call 56; go_must (refine (hwd _).mono ?_); rintro e w' ⟨rfl, hw⟩; obtain rfl := hw.symm))
                            go_ret2
                            exact ⟨_, by rw [← HF.out]; rfl, (fun e => by rw [← HF.out] at e; cases e), hx2.bel⟩
                          | true =>
                            have HGK2 : Hid (∀ i (hi : i < gl.length), i < m + 1 → gOk hs gl[i] = true) := fun i hi hij => by
                              by_cases he : i = m
                              · subst he; rw [HHO.out, hw9, hin]; rfl
                              · exact HGK.out i hi (by omega)
                            rw [hw9] at hwd
                            clear hnm HBAD HHO hHB hin hw9
                            go_wp2_with (first
                              | (go_at_call 35; go_must (refine (hfo _).mono ?_); rintro e w2 ⟨rfl, b2⟩; obtain ⟨hx2, z2, z3⟩ := HXX.out _ b2; have HX2 : Hid (DX w w2 D (.slice yo j co) j (hs.map fdB)) := hx2)
                              | (go_at_call 36; have hrw := Row.of_own hx2.own; go_must (refine (hasR_any (.slice yo j co) (hs.map fdB) f w2 (by rw [HHL.out]; exact hrw) (by rw [HHL.out]; unfold maxLen; omega) true HIN2.out).mono ?_); rintro e w' ⟨rfl, hw⟩; obtain rfl := hw.symm)
                              | (go_at_call 56; go_must (refine (hwd _).mono ?_); rintro e w' ⟨rfl, hw⟩; obtain rfl := hw.symm))
                            go_roundw
                            case rel => exact ⟨m + 1, by omega, by go_num, HGK2, HX2⟩
                            case measure => simp [intOf]; omega
                    · have hmn' : decide (m < NL) = false := by simpa using hmn
                      have HF : Hid (true = b) := by
                        unfold Hid
                        rw [← HBB.out, HALL.out, show gl.all (gOk hs) = true from List.all_eq_true.2 (fun x hx => ?_)]
                        · rfl
                        · obtain ⟨i, hi, rfl⟩ := List.getElem_of_mem hx
                          exact HGK.out i hi (by have := HNL.out; omega)
                      go_wp2
                      go_ret2
                      exact ⟨_, by rw [← HF.out]; rfl, fun _ => HX.out.own, HX.out.bel⟩

end Cu
end Go.Proofs.YtnjgdfmldjgloaaGreat
