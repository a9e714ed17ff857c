/- Wanting of package serve, walked. -/
import Derived.Test.YtpaebheklhlipaaSvD
namespace Go.Proofs.Ytpaebheklhlipaa
open Go.RowKit
open Pl
namespace Sv

/-- How far Wanting is. -/
structure WaAt (w wr : World) (mb : Nat) (D : DataW Unit) (v : Value) (hosts : List ByteArray) (bs : List Bn) (j n : Nat) : Prop where
  map : wr.ownsMap Try.prog 9 (plainElem Try.prog 3) mb bs.length D
  len : n = (wantL (hosts.take j) bs).length
  out : wr.ownsRow w.heap.size 9 1 v n (tC (wantL (hosts.take j) bs))
  sep : ∀ k, v.ownBlock = some k → k ≠ mb
  bel : Below w.heap.size w wr
  new : w.heap.size ≤ mb
theorem WaAt.skip {w wr w3 : World} {mb j n : Nat} {D : DataW Unit} {v : Value} {hosts : List ByteArray} {bs : List Bn} (h : WaAt w wr mb D v hosts bs j n) (hj : j < hosts.length) (hb : Below wr.heap.size wr w3) (hw : wantB bs hosts[j] = false) : WaAt w w3 mb D v hosts bs (j + 1) n := by
  have e : wantL (hosts.take (j + 1)) bs = wantL (hosts.take j) bs := by rw [want_take hj, hw]; simp
  exact ⟨own_turnM (S := fun _ => False) h.map (Turn.of_below hb) id, by rw [e]; exact h.len, by rw [e]; exact own_past h.out hb, h.sep, next h.bel hb, h.new⟩
theorem WaAt.add {w wr wa w2 : World} {mb j n : Nat} {D : DataW Unit} {v v' : Value} {hosts : List ByteArray} {bs : List Bn} {s : ByteArray} (h : WaAt w wr mb D v hosts bs j n) (hj : j < hosts.length) (hs : hosts[j] = s) (hw : wantB bs s = true) (hb : Below wr.heap.size wr wa)
    (own2 : w2.ownsRow w.heap.size 9 1 v' (n + 1) (tC (wantL (hosts.take j) bs) ++ tC [s])) (grow2 : wa.grownBy w2 v.ownBlock) (hO : ∀ k, v'.ownBlock = some k → v.ownBlock = some k ∨ wa.heap.size ≤ k) : WaAt w w2 mb D v' hosts bs (j + 1) (n + 1) := by
  subst hs
  have e : wantL (hosts.take (j + 1)) bs = wantL (hosts.take j) bs ++ [hosts[j]] := by rw [want_take hj, hw]; simp
  have hm := own_turnM (S := fun _ => False) h.map (Turn.of_below hb) id
  have ht : Turn (fun k => v.ownBlock = some k) wa w2 := Turn.of_grown grow2 (fun k hk => hk)
  have hbw := next h.bel hb
  refine ⟨own_turnM hm ht (fun e => h.sep _ e rfl), by rw [e, List.length_append, ← h.len]; rfl, by rw [e, tC_app]; exact own2, fun k hk e => ?_, Turn.below (S := fun k => v.ownBlock = some k) hbw ht hbw.size (fun i hi => (h.out.lt i hi).1), h.new⟩
  subst e
  rcases hO k hk with h1 | h1
  · exact h.sep k h1 rfl
  · have := hm.lt; omega

set_option maxRecDepth 20000 in
set_option maxHeartbeats 2000000 in
theorem wanting_any (v u : Value) (hosts : List ByteArray) (bs : List Bn) (w : World) (hh : TxIn w v hosts) (hi : BnIn w u bs) :
    Calls Try.prog 9 #[v, u] w fun e w' => ∃ v', e = .returned v' ∧ w'.ownsRow w.heap.size 9 1 v' (wantL hosts bs).length (tC (wantL hosts bs)) ∧ Below w.heap.size w w' := by
  obtain ⟨i0, hi0, hz0, hz1, hz2⟩ := info_parts info9'
  have hco := cutOf_any u bs w hi
  have hcs := countsOf_any u bs w hi
  have hr := hh.row
  have hl := hh.len
  have HSZ : Hid (∀ d ∈ hosts, d.size ≤ 140737488351232) := hh.size
  have hBL := hi.len
  obtain ⟨C, hC⟩ : ∃ C, C = cutL bs := ⟨_, rfl⟩
  have HC : Hid (C = cutL bs) := hC
  have hCs : C.size ≤ maxLen := by rw [hC]; exact cutL_size hi.ok
  rw [← hC] at hco
  obtain ⟨N, hN⟩ : ∃ N, N = hosts.length := ⟨_, rfl⟩
  have HN : Hid (N = hosts.length) := hN
  rw [← hN] at hr hl
  have HR : Hid (Row w v N (tC hosts)) := hr
  obtain ⟨x0, c0, rfl, _⟩ := hr.src
  obtain ⟨x1, c1, rfl, _⟩ := hi.row.src
  obtain ⟨M, hM⟩ : ∃ M, M = bs.length := ⟨_, rfl⟩
  have HM : Hid (M = bs.length) := hM
  rw [← hM] at hco hcs hBL ⊢
  clear hr hN hi hh hC hM
  go_enter Try.func9, Try.ntmps9
  go_wp2_with (first
    | (go_at_call 26; go_must (refine hco.mono ?_); rintro e w1 ⟨rfl, hw1⟩; obtain rfl := hw1.symm)
    | (go_at_call 27; go_must (refine hcs.mono ?_); rintro e w1 ⟨mb, rfl, hA⟩; obtain ⟨D, hD1, hD2⟩ := hA.map; rw [HM.out, List.take_length] at hD2; have HD : Hid (CntS D bs) := hD2; have HA0 : Hid (WaAt w w1 mb D (.slice none 0 0) hosts bs 0 0) := ⟨by rw [← HM.out]; exact hD1, rfl, ⟨rfl, .inl ⟨rfl, rfl⟩⟩, fun k hk => by simp [Value.ownBlock] at hk, hA.bel, hA.new⟩; clear hD1 hD2 hA))
  go_loopw [5, 16] (fun s i wr => ∃ (j n : Nat), j ≤ N ∧ n ≤ j ∧ i = .int .i64 (j : Int) ∧ Hid (WaAt w wr mb D s hosts bs j n)) (fun _ i _ => N - (intOf i).toNat)
  case atStart => exact ⟨0, 0, Nat.zero_le _, Nat.le_refl _, rfl, HA0⟩
  case round =>
    clear HA0
    obtain ⟨j, n, hj, hnj, rfl, HA⟩ := hrel
    by_cases hjn : j < N
    · have hjn' : (j : Int) < (N : Int) := by omega
      have hju : j < hosts.length := by have := HN.out; omega
      obtain ⟨g, o, cap, hx, hc⟩ := row_at (HR.out.below HA.out.bel) (by omega)
      simp only [Value.slice.injEq, true_and] at hx
      obtain ⟨rfl, rfl⟩ := hx
      obtain ⟨s, hs⟩ : ∃ s, s = hosts[j] := ⟨_, rfl⟩
      have d0 := hc j _ (tC_at hju)
      rw [← hs] at d0
      have HXS : Hid (hosts[j] = s) := hs.symm
      have hss : s.size ≤ 140737488351232 := by rw [hs]; exact HSZ.out _ (List.getElem_mem _)
      have hsm : s.size ≤ maxLen := by unfold maxLen; omega
      have hfo := fun u => foldB_any s u hsm
      have hab := fun u => above_any C s u hCs hsm
      obtain ⟨F, hF⟩ : ∃ F, F = fB s := ⟨_, rfl⟩
      have hFs : F.size ≤ maxLen := by rw [hF]; exact Nat.le_trans (fB_size _) (by decide)
      simp only [← hF] at hfo
      obtain ⟨A, hA⟩ : ∃ A, A = aboveB C.data.toList s.data.toList := ⟨_, rfl⟩
      simp only [← hA] at hab
      obtain ⟨cn, hcn⟩ : ∃ cn, cn = hostN bs F.data.toList := ⟨_, rfl⟩
      have hcj : cn ≤ 2199023255490 := by rw [hcn]; exact Nat.le_trans (hostN_len _ _) (by have := HM.out; omega)
      have hat0 := HD.out F.data.toList
      rw [← hcn] at hat0
      have HAT : Hid (D.atKey (.string F.data.toList) (.lit (.int .i64 0)) = .lit (.int .i64 (cn : Int))) := hat0
      have HW : Hid (wantB bs s = (decide (cn = 0) && !A)) := by
        unfold Hid wantB
        rw [← HC.out, ← hA, hcn, hF]
        congr 1
        have := hostN_zero bs s
        cases hh : hasH bs s with
        | false => rw [decide_eq_true (this.2 hh)]; rfl
        | true => rw [decide_eq_false (fun e => by rw [this.1 e] at hh; cases hh)]; rfl
      have hkey := Go.WideMaps.keyOf_string_mk (P := Try.prog) Try.underlying9 hFs
      clear hs hc hcn hat0 hF hA
      by_cases h0 : cn = 0
      · have hT : ((cn : Int) == 0) = true := by simp [h0]
        cases A with
        | true =>
          have HWF : Hid (wantB bs hosts[j] = false) := by unfold Hid; rw [HXS.out, HW.out]; simp
          clear h0
          go_wp2_with (first
            | (go_at_call 28; go_must (refine (hfo _).mono ?_); rintro e w1 ⟨rfl, b1⟩; have hownA := own_turnM (S := fun _ => False) HA.out.map (Turn.of_below b1) id)
            | (at_lookup; refine wpList_lookup_own_int _ rfl _ _ 45 rfl 9 3 .i64 keyS Try.underlying45 Try.underlying3 (zeroI _) mb _ D rfl hownA _ _ rfl hkey ?_; intro c hat hwc; have hce := HAT.out.symm.trans hat; simp only [DataW.lit.injEq, Lit.int.injEq, true_and] at hce; subst hce; clear hat hwc)
            | (go_at_call 29; go_must (refine (hab _).mono ?_); rintro e w2 ⟨rfl, b2⟩; have HB2 : Hid (Below wr.heap.size wr w2) := next b1 b2; clear b1 b2))
          go_roundw
          case rel => exact ⟨j + 1, n, by omega, by omega, by go_num, HA.out.skip hju HB2.out HWF.out⟩
          case measure => simp [intOf]; omega
        | false =>
          have HWT : Hid (wantB bs s = true) := by unfold Hid; rw [HW.out, decide_eq_true h0]; rfl
          clear h0
          go_wp2_with (first
            | (go_at_call 28; go_must (refine (hfo _).mono ?_); rintro e w1 ⟨rfl, b1⟩; have hownA := own_turnM (S := fun _ => False) HA.out.map (Turn.of_below b1) id)
            | (at_lookup; refine wpList_lookup_own_int _ rfl _ _ 45 rfl 9 3 .i64 keyS Try.underlying45 Try.underlying3 (zeroI _) mb _ D rfl hownA _ _ rfl hkey ?_; intro c hat hwc; have hce := HAT.out.symm.trans hat; simp only [DataW.lit.injEq, Lit.int.injEq, true_and] at hce; subst hce; clear hat hwc)
            | (go_at_call 29; go_must (refine (hab _).mono ?_); rintro e w2 ⟨rfl, b2⟩; have hb2 : Below wr.heap.size wr w2 := next b1 b2; clear b1 b2)
            | (go_at_call 30; go_must (refine (clone_far s _ (by omega)).mono ?_); rintro e w3 ⟨rfl, b3⟩; have HB4 : Hid (Below wr.heap.size wr (w3.alloc (.cells #[.string s] 9))) := lay (next hb2 b3) _; have hoR := own_past HA.out.out HB4.out; have hrow1 := Row.of_blk (Blk.new w3 #[.string s] 9) (xs := tC [s]) rfl 1 1; have hbs := (next HA.out.bel HB4.out).size; clear b3 hb2)
            | (at_builtin; go_must (refine wpList_appG _ rfl (.tmp 31) (.tmp 34) 22 9 i0 _ 1 16 Try.underlying22 hi0 hz0 hz1 hz2 rfl (by decide) rfl w.heap.size _ n _ rfl hoR _ 1 (tC [s]) rfl hrow1 rfl (tC_one _) (by omega) (by unfold maxLen; omega) hbs ?_); intro v2 w5 own2 grow2 hO2; have HS3 : Hid (WaAt w w5 mb D v2 hosts bs (j + 1) (n + 1)) := HA.out.add hju HXS.out HWT.out HB4.out own2 grow2 hO2; clear own2 grow2 hO2 hoR))
          go_roundw
          case rel => exact ⟨j + 1, n + 1, by omega, by omega, by go_num, HS3⟩
          case measure => simp [intOf]; omega
      · have hT : ((cn : Int) == 0) = false := by rw [beq_eq_false_iff_ne]; omega
        have HWF : Hid (wantB bs hosts[j] = false) := by unfold Hid; rw [HXS.out, HW.out, decide_eq_false h0]; rfl
        clear h0
        go_wp2_with (first
          | (go_at_call 28; go_must (refine (hfo _).mono ?_); rintro e w1 ⟨rfl, b1⟩; have hownA := own_turnM (S := fun _ => False) HA.out.map (Turn.of_below b1) id; have HB1 : Hid (Below wr.heap.size wr w1) := b1; clear b1)
          | (at_lookup; refine wpList_lookup_own_int _ rfl _ _ 45 rfl 9 3 .i64 keyS Try.underlying45 Try.underlying3 (zeroI _) mb _ D rfl hownA _ _ rfl hkey ?_; intro c hat hwc; have hce := HAT.out.symm.trans hat; simp only [DataW.lit.injEq, Lit.int.injEq, true_and] at hce; subst hce; clear hat hwc))
        go_roundw
        case rel => exact ⟨j + 1, n, by omega, by omega, by go_num, HA.out.skip hju HB1.out HWF.out⟩
        case measure => simp [intOf]; omega
    · have hjn' : decide (j < N) = false := by simpa using hjn
      have HE : Hid (wr.ownsRow w.heap.size 9 1 u5 (wantL hosts bs).length (tC (wantL hosts bs)) ∧ Below w.heap.size w wr) := by
        have h1 := HA.out.out
        have h2 := HA.out.len
        rw [List.take_of_length_le (by have := HN.out; omega)] at h1 h2
        rw [h2] at h1
        exact ⟨h1, HA.out.bel⟩
      clear HA
      go_wp2
      go_ret
      exact ⟨_, rfl, HE.out.1, HE.out.2⟩

end Sv
end Go.Proofs.Ytpaebheklhlipaa
