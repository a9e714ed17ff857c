/- The document's Wanting. -/
import Derived.Test.YtpaebheklhlipaaSvG
namespace Go.Proofs.Ytpaebheklhlipaa
open Go.RowKit
open Pl
namespace Sv

theorem hasH_take {bs : List Bn} {s : ByteArray} {j : Nat} (hj : j < bs.length) : hasH (bs.take (j + 1)) s = (hasH (bs.take j) s || sameB bs[j].h.data.toList s.data.toList) := by
  rw [List.take_succ_eq_append_getElem hj]
  unfold hasH
  rw [List.any_append]
  simp only [List.any_cons, List.any_nil, Bool.or_false]
theorem or_no {A H b : Bool} (h : b = (A || H)) : (!H && !A) = !b := by subst h; cases A <;> cases H <;> rfl
theorem above_nil (s : List UInt8) : aboveB [] s = false := by unfold aboveB; rw [nil_no]; rfl
/-- How far the document's Wanting is. -/
structure RwAt (w wr : World) (v : Value) (hosts : List ByteArray) (bs : List Bn) (i n : Nat) : Prop where
  len : n = (wantL (hosts.take i) bs).length
  out : wr.ownsRow w.heap.size 9 1 v n (tC (wantL (hosts.take i) bs))
  bel : Below w.heap.size w wr
theorem RwAt.skip {w wr w3 : World} {v : Value} {hosts : List ByteArray} {bs : List Bn} {i n : Nat} (h : RwAt w wr v hosts bs i n) (hi : i < hosts.length) (hb : Below wr.heap.size wr w3) (hw : wantB bs hosts[i] = false) : RwAt w w3 v hosts bs (i + 1) n := by
  have e : wantL (hosts.take (i + 1)) bs = wantL (hosts.take i) bs := by rw [want_take hi, hw]; simp
  exact ⟨by rw [e]; exact h.len, by rw [e]; exact own_past h.out hb, next h.bel hb⟩
theorem RwAt.add {w wr wa w2 : World} {v v' : Value} {hosts : List ByteArray} {bs : List Bn} {i n : Nat} {s : ByteArray} (h : RwAt w wr v hosts bs i n) (hi : i < hosts.length) (hs : hosts[i] = s) (hw : wantB bs s = true) (hb : Below wr.heap.size wr wa)
    (own2 : w2.ownsRow w.heap.size 9 1 v' (n + 1) (tC (wantL (hosts.take i) bs) ++ tC [s])) (grow2 : wa.grownBy w2 v.ownBlock) : RwAt w w2 v' hosts bs (i + 1) (n + 1) := by
  subst hs
  have e : wantL (hosts.take (i + 1)) bs = wantL (hosts.take i) bs ++ [hosts[i]] := by rw [want_take hi, hw]; simp
  have hbw := next h.bel hb
  exact ⟨by rw [e, List.length_append, ← h.len]; rfl, by rw [e, tC_app]; exact own2, hbw.grown grow2 hbw.size (fun k hk => (h.out.lt k hk).1)⟩

set_option maxRecDepth 20000 in
set_option maxHeartbeats 4000000 in
theorem refWanting_any (v u : Value) (hosts : List ByteArray) (bs : List Bn) (w : World) (hh : TxIn w v hosts) (hi : BnIn w u bs) :
    Calls Try.prog 13 #[v, u] w fun e w' => ∃ v', e = .returned v' ∧ w'.ownsRow w.heap.size 9 1 v' (wantL hosts bs).length (tC (wantL hosts bs)) ∧ Below w.heap.size w w' := by
  obtain ⟨i0, hi0, hz0, hz1, hz2⟩ := info_parts info9'
  have hr := hh.row
  have hl := hh.len
  have HSZ : Hid (∀ d ∈ hosts, d.size ≤ 140737488351232) := hh.size
  have HOK : Hid (∀ b ∈ bs, BnOk b) := hi.ok
  have hBL := hi.len
  have hrb := hi.row
  obtain ⟨N, hN⟩ : ∃ N, N = hosts.length := ⟨_, rfl⟩
  have HN : Hid (N = hosts.length) := hN
  obtain ⟨M, hM⟩ : ∃ M, M = bs.length := ⟨_, rfl⟩
  have HM : Hid (M = bs.length) := hM
  rw [← hN] at hr hl
  rw [← hM] at hrb hBL
  have HR : Hid (Row w v N (tC hosts)) := hr
  have HRB : Hid (Row w u M (bC bs)) := hrb
  obtain ⟨x0, c0, rfl, _⟩ := hr.src
  obtain ⟨x1, c1, rfl, _⟩ := hrb.src
  have HA0 : Hid (RwAt w w (.slice none 0 0) hosts bs 0 0) := ⟨rfl, ⟨rfl, .inl ⟨rfl, rfl⟩⟩, Below.refl _ _⟩
  clear hr hN hi hh hM hrb
  go_enter Try.func13, Try.ntmps13
  go_wp2
  go_loopw [5, 6] (fun s ii wr => ∃ (i n : Nat) (y : Option Addr) (c : Nat), i ≤ N ∧ n ≤ i ∧ s = .slice y n c ∧ ii = .int .i64 (i : Int) ∧ Hid (RwAt w wr (.slice y n c) hosts bs i n)) (fun _ ii _ => N - (intOf ii).toNat)
  case atStart => exact ⟨0, 0, none, 0, Nat.zero_le _, Nat.le_refl _, rfl, rfl, HA0⟩
  case round =>
    clear HA0
    obtain ⟨i, n, y, c, hiN, hni, rfl, rfl, HA⟩ := hrel
    by_cases hin : i < N
    · have hin' : (i : Int) < (N : Int) := by omega
      have hiu : i < hosts.length := by have := HN.out; omega
      obtain ⟨g, o, cap, hx, hc⟩ := row_at (HR.out.below HA.out.bel) (by omega)
      simp only [Value.slice.injEq, true_and] at hx
      obtain ⟨rfl, rfl⟩ := hx
      obtain ⟨s, hs⟩ : ∃ s, s = hosts[i] := ⟨_, rfl⟩
      have HXS : Hid (hosts[i] = s) := hs.symm
      have hsm : s.size ≤ maxLen := by have := HSZ.out hosts[i] (List.getElem_mem _); rw [← hs] at this; unfold maxLen; omega
      obtain ⟨we, hwe⟩ : ∃ z, z = wr := ⟨_, rfl⟩
      subst hwe
      have HD : Hid (∀ u, Below we.heap.size we u → u.cell? ⟨g, o + i, none⟩ = some (.string s)) := fun u hu => by
        obtain ⟨g', o', cap', hx', hc'⟩ := row_at (HR.out.below (next HA.out.bel hu)) (by omega)
        simp only [Value.slice.injEq, true_and, Option.some.injEq, Addr.mk.injEq, and_true] at hx'
        obtain ⟨⟨rfl, rfl⟩, rfl⟩ := hx'
        rw [hs]
        exact hc' i _ (tC_at hiu)
      obtain ⟨A, hA⟩ : ∃ A, A = aboveB (cutL bs).data.toList s.data.toList := ⟨_, rfl⟩
      have HWB : Hid (wantB bs s = (!hasH bs s && !A)) := by unfold Hid wantB; rw [hA]
      have h00 : hasH (bs.take 0) s = false := rfl
      by_cases hM0 : 0 < M
      · have hM1 : (0 : Int) < (M : Int) := by omega
        obtain ⟨gb, ob, capb, hxb, hcb⟩ := row_at (HRB.out.below HA.out.bel) hM0
        simp only [Value.slice.injEq, true_and] at hxb
        obtain ⟨rfl, rfl⟩ := hxb
        have hb0 : 0 < bs.length := by have := HM.out; omega
        obtain ⟨C, hC⟩ : ∃ C, C = bs[0].c := ⟨_, rfl⟩
        have hCc : cutL bs = C := by
          rw [hC]
          cases bs with
          | nil => simp at hb0
          | cons b bs => rfl
        rw [hCc] at hA
        have hCs : C.size ≤ maxLen := by rw [hC]; exact (HOK.out _ (List.getElem_mem hb0)).c
        have HDB : Hid (∀ j (hj : j < bs.length), ∀ u, Below we.heap.size we u → u.cell? ⟨gb, ob + j * 5 + 1, none⟩ = some (.string bs[j].h)) := fun j hj u hu => by
          obtain ⟨g', o', cap', hx', hc'⟩ := row_at (HRB.out.below (next HA.out.bel hu)) hM0
          simp only [Value.slice.injEq, true_and, Option.some.injEq, Addr.mk.injEq, and_true] at hx'
          obtain ⟨⟨rfl, rfl⟩, rfl⟩ := hx'
          have := hc' (j * 5 + 1) _ (atBg hj 1 (by decide))
          rw [Nat.add_assoc]
          exact this
        have e0 : ∀ nb : Bel we, nb.to.cell? ⟨gb, ob, none⟩ = some (.string C) := fun nb => by
          obtain ⟨g', o', cap', hx', hc'⟩ := row_at (HRB.out.below (next HA.out.bel nb.h)) hM0
          simp only [Value.slice.injEq, true_and, Option.some.injEq, Addr.mk.injEq, and_true] at hx'
          obtain ⟨⟨rfl, rfl⟩, rfl⟩ := hx'
          have := hc' (0 * 5 + 0) _ (atBg hb0 0 (by decide))
          rw [hC]
          exact this
        have e1 : ∀ nb : Bel we, nb.to.cell? ⟨g, o + i, none⟩ = some (.string s) := fun nb => HD.out nb.to nb.h
        have S := fun nb : Bel we => refAbove_any C s nb.to hCs hsm
        simp only [← hA] at S
        clear hc hs hcb hC hCc hA
        go_wp2
        refine wp_region_bel (by kernel_rfl) (by kernel_rfl) (fun _ => ?_)
        repeat (go_big_quiet_step ((go_at_call 21; go_must (exact bel_lays (S _)))))
        refine wpQuiet_nil ?_
        intro wn hwn
        have HB5 : Hid (Below we.heap.size we wn) := bel_out hwn
        clear hwn S e0 e1
        go_wp2
        go_loopw [7, 8] (fun t jj wr => ∃ (j : Nat) (b : Bool), j ≤ M ∧ t = .bool b ∧ jj = .int .i64 (j : Int) ∧ Hid (b = (A || hasH (bs.take j) s)) ∧ Hid (Below we.heap.size we wr)) (fun _ jj _ => M - (intOf jj).toNat)
        case atStart => exact ⟨0, A, Nat.zero_le _, rfl, rfl, by unfold Hid; rw [h00, Bool.or_false], HB5⟩
        case round =>
          clear HB5
          obtain ⟨j, b, hjM, rfl, rfl, HB, HW⟩ := hrel
          by_cases hj : j < M
          · have hj' : (j : Int) < (M : Int) := by omega
            have hju : j < bs.length := by have := HM.out; omega
            cases b with
            | true =>
              have HB2 : Hid (true = (A || hasH (bs.take (j + 1)) s)) := by unfold Hid; rw [hasH_take hju, ← Bool.or_assoc, ← HB.out]; rfl
              go_wp2
              go_quiet (fail)
              go_wp2
              go_roundw
              case rel => exact ⟨j + 1, true, by omega, rfl, by go_num, HB2, next HW.out (below_drew ⟨_, rfl⟩)⟩
              case measure => simp [intOf]; omega
            | false =>
              obtain ⟨H, hH⟩ : ∃ H, H = bs[j].h := ⟨_, rfl⟩
              have hHs : H.size ≤ maxLen := by rw [hH]; exact (HOK.out _ (List.getElem_mem hju)).h
              have e2 : ∀ nb : Bel wr, nb.to.cell? ⟨gb, ob + j * 5 + 1, none⟩ = some (.string H) := fun nb => by rw [hH]; exact HDB.out j hju nb.to (next HW.out nb.h)
              have e3 : ∀ nb : Bel wr, nb.to.cell? ⟨g, o + i, none⟩ = some (.string s) := fun nb => HD.out nb.to (next HW.out nb.h)
              obtain ⟨r, hr⟩ : ∃ r, r = sameB H.data.toList s.data.toList := ⟨_, rfl⟩
              have HB2 : Hid (r = (A || hasH (bs.take (j + 1)) s)) := by
                unfold Hid
                rw [hasH_take hju, ← Bool.or_assoc, ← HB.out, Bool.false_or, hr, hH]
              have S := fun nb : Bel wr => refSame_any H s nb.to hHs hsm
              simp only [← hr] at S
              clear hH hr
              go_wp2
              refine wp_region_bel (by kernel_rfl) (by kernel_rfl) (fun _ => ?_)
              repeat (go_big_quiet_step ((go_at_call 22; go_must (exact bel_lays (S _)))))
              refine wpQuiet_nil ?_
              intro wn hwn
              have HB6 : Hid (Below we.heap.size we wn) := next HW.out (bel_out hwn)
              clear hwn S e2 e3
              go_wp2
              go_roundw
              case rel => exact ⟨j + 1, r, by omega, rfl, by go_num, HB2, HB6⟩
              case measure => simp [intOf]; omega
          · have hj' : decide (j < M) = false := by simpa using hj
            have HBF : Hid (b = (A || hasH bs s)) := by
              unfold Hid
              rw [HB.out, List.take_of_length_le (by have := HM.out; omega)]
            cases b with
            | true =>
              have HS : Hid (RwAt w wr (.slice y n c) hosts bs (i + 1) n) := HA.out.skip hiu HW.out (by
                rw [HXS.out, HWB.out]
                exact or_no HBF.out)
              go_wp2
              go_roundw
              case rel => exact ⟨i + 1, n, y, c, by omega, by omega, rfl, by go_num, HS⟩
              case measure => simp [intOf]; omega
            | false =>
              have d2 := HD.out wr HW.out
              have HWT : Hid (wantB bs s = true) := by
                unfold Hid
                rw [HWB.out]
                exact or_no HBF.out
              have HBZ : Hid (Below we.heap.size we (wr.alloc (.cells #[.string s] 9))) := lay HW.out _
              have hoR := own_past HA.out.out HBZ.out
              have hrow1 := Row.of_blk (Blk.new wr #[.string s] 9) (xs := tC [s]) rfl 1 1
              have hbs := (next HA.out.bel HBZ.out).size
              go_wp2_with (at_builtin; refine wpList_appG _ rfl (.tmp 50) (.tmp 55) 22 9 i0 _ 1 16 Try.underlying22 hi0 hz0 hz1 hz2 rfl (by decide) rfl w.heap.size _ n _ rfl hoR _ 1 (tC [s]) rfl hrow1 rfl (tC_one _) (by omega) (by unfold maxLen; omega) hbs ?_; intro v2 w2 own2 grow2 _; obtain ⟨y2, q2, rfl⟩ := row_slice (Row.of_own own2); have HS : Hid (RwAt w w2 (.slice y2 (n + 1) q2) hosts bs (i + 1) (n + 1)) := HA.out.add hiu HXS.out HWT.out HBZ.out own2 grow2; clear own2 grow2 hoR hrow1)
              go_roundw
              case rel => exact ⟨i + 1, n + 1, y2, q2, by omega, by omega, rfl, by go_num, HS⟩
              case measure => simp [intOf]; omega
      · obtain rfl : M = 0 := by omega
        have hbe : bs = [] := List.eq_nil_of_length_eq_zero HM.out.symm
        have HWT : Hid (wantB bs s = true) := by
          unfold Hid
          rw [HWB.out, hA, hbe]
          show (!false && !aboveB [] s.data.toList) = true
          rw [above_nil]; rfl
        clear hc hs hA hbe hM0 hBL
        go_wp2
        go_quiet (fail)
        go_wp2
        go_loopw [7, 8] (fun t jj wr => t = .bool false ∧ jj = .int .i64 0 ∧ Hid (Below we.heap.size we wr)) (fun _ _ _ => 0)
        case atStart => exact ⟨rfl, rfl, below_drew ⟨_, rfl⟩⟩
        case round =>
          obtain ⟨rfl, rfl, HW⟩ := hrel
          have d2 := HD.out wr HW.out
          have HBZ : Hid (Below we.heap.size we (wr.alloc (.cells #[.string s] 9))) := lay HW.out _
          have hoR := own_past HA.out.out HBZ.out
          have hrow1 := Row.of_blk (Blk.new wr #[.string s] 9) (xs := tC [s]) rfl 1 1
          have hbs := (next HA.out.bel HBZ.out).size
          go_wp2_with (at_builtin; refine wpList_appG _ rfl (.tmp 50) (.tmp 55) 22 9 i0 _ 1 16 Try.underlying22 hi0 hz0 hz1 hz2 rfl (by decide) rfl w.heap.size _ n _ rfl hoR _ 1 (tC [s]) rfl hrow1 rfl (tC_one _) (by omega) (by unfold maxLen; omega) hbs ?_; intro v2 w2 own2 grow2 _; obtain ⟨y2, q2, rfl⟩ := row_slice (Row.of_own own2); have HS : Hid (RwAt w w2 (.slice y2 (n + 1) q2) hosts bs (i + 1) (n + 1)) := HA.out.add hiu HXS.out HWT.out HBZ.out own2 grow2; clear own2 grow2 hoR hrow1)
          go_roundw
          case rel => exact ⟨i + 1, n + 1, y2, q2, by omega, by omega, rfl, by go_num, HS⟩
          case measure => simp [intOf]; omega
    · have hin' : decide (i < N) = false := by simpa using hin
      have HE : Hid (wr.ownsRow w.heap.size 9 1 (.slice y n c) (wantL hosts bs).length (tC (wantL hosts bs)) ∧ Below w.heap.size w wr) := by
        have h1 := HA.out.out
        have h2 := HA.out.len
        rw [List.take_of_length_le (by have := HN.out; omega)] at h1 h2
        rw [← h2]
        exact ⟨h1, HA.out.bel⟩
      clear HA
      go_wp2
      go_ret
      exact ⟨_, rfl, HE.out.1, HE.out.2⟩

end Sv
end Go.Proofs.Ytpaebheklhlipaa
