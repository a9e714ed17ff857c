/- Which cut of the document's goes. -/
import Derived.Test.YtnjgdfmldjgloaaGreatXCxE
namespace Go.Proofs.YtnjgdfmldjgloaaGreat
open Go.RowKit
open Pl
namespace Cu

theorem least_lo (G : List Rk) : ∀ i, leastK G i = -1 ∨ ∃ m : Nat, leastK G i = (m : Int) ∧ m < i := by
  intro i
  induction i with
  | zero => exact .inl rfl
  | succ i ih =>
    rw [leastK]
    split
    · rcases ih with ih | ⟨m, h1, h2⟩
      · exact .inl ih
      · exact .inr ⟨m, h1, by omega⟩
    · split
      · exact .inr ⟨i, rfl, by omega⟩
      · split
        · exact .inr ⟨i, rfl, by omega⟩
        · rcases ih with ih | ⟨m, h1, h2⟩
          · exact .inl ih
          · exact .inr ⟨m, h1, by omega⟩
theorem fst_at {L : List (Rk × RQ)} {j : Nat} (hj : j < L.length) : (fstR L).getD j zK = L[j].1 := by
  unfold fstR
  rw [List.getD_eq_getElem?_getD, List.getElem?_map, List.getElem?_eq_getElem hj]
  rfl

set_option maxRecDepth 20000 in
set_option maxHeartbeats 4000000 in
theorem leastR_any {w : World} (v : Value) (L : List (Rk × RQ)) (hr : Row w v L.length (pC L)) (hc : ∀ p ∈ L, RkAt w p.2 p.1) (hl : L.length ≤ 129) :
    Calls Tryz.prog 51 #[v] w fun e w' => e = .returned (.int .i64 (leastK (fstR L) L.length)) ∧ Below w.heap.size w w' := by
  obtain ⟨n, hn⟩ : ∃ n, n = L.length := ⟨_, rfl⟩
  rw [← hn] at hr hl
  obtain ⟨x0, c0, rfl⟩ := row_slice hr
  obtain ⟨R, hR⟩ : ∃ R, leastK (fstR L) L.length = R := ⟨_, rfl⟩
  rw [hR]
  have HR : Hid (leastK (fstR L) n = R) := by unfold Hid; rw [hn]; exact hR
  have HN : Hid (n = L.length) := hn
  have HROW : Hid (Row w (.slice x0 n c0) n (pC L)) := hr
  have HC : Hid (∀ p ∈ L, RkAt w p.2 p.1) := hc
  clear hr hc hn hR
  go_enter Tryz.func51, Tryz.ntmps51
  go_wp2
  go_loopw [3, 4] (fun kv iv wr => ∃ (j : Nat) (z : Int), j ≤ n ∧ kv = .int .i64 z ∧ iv = .int .i64 (j : Int) ∧ Hid (z = leastK (fstR L) j) ∧ Hid (Below w.heap.size w wr)) (fun _ i _ => n - (intOf i).toNat)
  case atStart => exact ⟨0, -1, Nat.zero_le _, rfl, rfl, rfl, Below.refl _ _⟩
  case round =>
    obtain ⟨j, z, hj, rfl, rfl, HZ, HB⟩ := hrel
    by_cases hjn : j < n
    · have hjn' : (j : Int) < (n : Int) := by omega
      have hju : j < L.length := by have := HN.out; omega
      obtain ⟨g, o, cap, hx, hcell⟩ := row_at HROW.out (by omega)
      simp only [Value.slice.injEq] at hx
      obtain ⟨rfl, -, rfl⟩ := hx
      have hp0 := hcell j _ (pC_at hju)
      have hRk := HC.out _ (List.getElem_mem hju)
      have hstep : leastK (fstR L) (j + 1) = if L[j].1.rt then leastK (fstR L) j else if leastK (fstR L) j < 0 then (j : Int) else if ltK L[j].1 ((fstR L).getD (leastK (fstR L) j).toNat zK) then (j : Int) else leastK (fstR L) j := by rw [leastK, fst_at hju]
      rw [← HZ.out] at hstep
      obtain ⟨⟨⟨xn, xf, xhs, xu, xrt, xbs⟩, ⟨xp, xhv, xbv⟩⟩, hxe⟩ : ∃ e, e = L[j] := ⟨_, rfl⟩
      rw [← hxe] at hp0 hRk hstep
      simp only at hp0 hRk hstep
      have ca : ∀ U, Below w.heap.size w U → U.cell? ⟨g, o + j, none⟩ = some (.pointer (some ⟨xp, 0, none⟩)) := fun U hU => by
        rw [hU.cell (World.block_lt_of_cell? _ _ hp0)]; exact hp0
      have cx : ∀ U, Below w.heap.size w U → ∀ i, U.cell? ⟨xp, i, none⟩ = (#[.string xn, .string xf, xhv, .int .i64 xu, .bool xrt, xbv] : Array Value)[i]? := fun U hU i => (hRk.blk.below hU).cell i
      have a1' := ca wr HB.out
      have a4' := cx wr HB.out 4
      simp only [List.getElem?_toArray, List.getElem?_cons_succ, List.getElem?_cons_zero] at a4'
      cases xrt with
      | true =>
        have HS : Hid (z = leastK (fstR L) (j + 1)) := by unfold Hid; rw [hstep]; rfl
        clear hstep ca cx hcell hRk hp0
        go_wp2
        go_roundw
        case rel => exact ⟨j + 1, z, by omega, rfl, by go_num, HS, HB⟩
        case measure => simp [intOf]; omega
      | false =>
        simp only [Bool.false_eq_true, if_false] at hstep
        have hsn : xn.size ≤ maxLen := by have h255 : xn.size ≤ 255 := hRk.ok.n; unfold maxLen; omega
        have a0 : ∀ nb : Bel wr, nb.to.cell? ⟨xp, 0, none⟩ = some (.string xn) := fun nb => by rw [cx _ (next HB.out nb.h) 0]; rfl
        have a3 : ∀ nb : Bel wr, nb.to.cell? ⟨xp, 3, none⟩ = some (.int .i64 xu) := fun nb => by rw [cx _ (next HB.out nb.h) 3]; rfl
        have a1 : ∀ nb : Bel wr, nb.to.cell? ⟨g, o + j, none⟩ = some (.pointer (some ⟨xp, 0, none⟩)) := fun nb => ca _ (next HB.out nb.h)
        rcases least_lo (fstR L) j with hz | ⟨m, hz, hmj⟩
        · have hz1 : z = -1 := HZ.out.trans hz
          subst hz1
          have HS : Hid ((j : Int) = leastK (fstR L) (j + 1)) := by unfold Hid; rw [hstep]; rfl
          have b0 : True := trivial
          have b1 : True := trivial
          have b3 : True := trivial
          clear hstep ca cx hcell hRk hp0 hz
          go_wp2
          refine wp_region_bel (by kernel_rfl) (by kernel_rfl) (fun _ => ?_)
          repeat (go_big_quiet_step (fail))
          refine wpQuiet_nil ?_
          intro wn hwn
          have H5 : Hid (Below w.heap.size w wn) := next HB.out (bel_out hwn)
          clear hwn HB a0 a1 a3 b0 b1 b3
          go_wp2
          go_roundw
          case rel => exact ⟨j + 1, _, by omega, rfl, by go_num, HS, H5⟩
          case measure => simp [intOf]; omega
        · have hz1 : z = (m : Int) := HZ.out.trans hz
          subst hz1
          have hmL : m < L.length := by omega
          have hq0 := hcell m _ (pC_at hmL)
          have hRm := HC.out _ (List.getElem_mem hmL)
          rw [show ((m : Int)).toNat = m by omega, fst_at hmL, if_neg (by omega)] at hstep
          obtain ⟨⟨⟨yn, yf, yhs, yu, yrt, ybs⟩, ⟨yp, yhv, ybv⟩⟩, hye⟩ : ∃ e, e = L[m] := ⟨_, rfl⟩
          rw [← hye] at hq0 hRm hstep
          simp only at hq0 hRm
          have b0 : ∀ nb : Bel wr, nb.to.cell? ⟨yp, 0, none⟩ = some (.string yn) := fun nb => by rw [(hRm.blk.below (next HB.out nb.h)).cell 0]; rfl
          have b3 : ∀ nb : Bel wr, nb.to.cell? ⟨yp, 3, none⟩ = some (.int .i64 yu) := fun nb => by rw [(hRm.blk.below (next HB.out nb.h)).cell 3]; rfl
          have b1 : ∀ nb : Bel wr, nb.to.cell? ⟨g, o + m, none⟩ = some (.pointer (some ⟨yp, 0, none⟩)) := fun nb => by
            rw [(next HB.out nb.h).cell (World.block_lt_of_cell? _ _ hq0)]; exact hq0
          have hsy : yn.size ≤ maxLen := by have h255 : yn.size ≤ 255 := hRm.ok.n; unfold maxLen; omega
          have hz0 : decide ((m : Int) < 0) = false := by simp
          have hmn : (m : Int) < (n : Int) := by omega
          have HSTEP : Hid (leastK (fstR L) (j + 1) = if (decide (xu < yu) || (decide (xu = yu) && decide (cmpN xn.data.toList yn.data.toList < 0))) = true then (j : Int) else (m : Int)) := hstep
          clear hstep ca cx hcell hRk hp0 hz hq0 hRm hxe hye HZ
          by_cases hlt : xu < yu
          · have HS : Hid ((j : Int) = leastK (fstR L) (j + 1)) := by unfold Hid; rw [HSTEP.out]; simp [hlt]
            clear HSTEP
            go_wp2
            refine wp_region_bel (by kernel_rfl) (by kernel_rfl) (fun _ => ?_)
            repeat (go_big_quiet_step (fail))
            refine wpQuiet_nil ?_
            intro wn hwn
            have H5 : Hid (Below w.heap.size w wn) := next HB.out (bel_out hwn)
            clear hwn HB a0 a1 a3 b0 b1 b3
            go_wp2
            go_roundw
            case rel => exact ⟨j + 1, _, by omega, rfl, by go_num, HS, H5⟩
            case measure => simp [intOf]; omega
          · have hlt' : decide (xu < yu) = false := by simpa using hlt
            by_cases heq : xu = yu
            · subst heq
              have hcm := fun u => refCompare_any xn yn u hsn hsy
              generalize cmpN xn.data.toList yn.data.toList = c at hcm HSTEP
              by_cases hc0 : c < 0
              · have HS : Hid ((j : Int) = leastK (fstR L) (j + 1)) := by unfold Hid; rw [HSTEP.out]; simp [hc0]
                have S := fun nb : Bel wr => hcm nb.to
                clear HSTEP hcm
                go_wp2
                refine wp_region_bel (by kernel_rfl) (by kernel_rfl) (fun _ => ?_)
                repeat (go_big_quiet_step ((go_at_call 77; go_must (exact bel_lays (S _)))))
                refine wpQuiet_nil ?_
                intro wn hwn
                have H5 : Hid (Below w.heap.size w wn) := next HB.out (bel_out hwn)
                clear hwn HB a0 a1 a3 b0 b1 b3 S
                go_wp2
                go_roundw
                case rel => exact ⟨j + 1, _, by omega, rfl, by go_num, HS, H5⟩
                case measure => simp [intOf]; omega
              · have hc0' : decide (c < 0) = false := by simpa using hc0
                have HS : Hid ((m : Int) = leastK (fstR L) (j + 1)) := by unfold Hid; rw [HSTEP.out]; simp [hc0]
                have S := fun nb : Bel wr => hcm nb.to
                clear HSTEP hcm hc0 hlt
                go_wp2
                refine wp_region_bel (by kernel_rfl) (by kernel_rfl) (fun _ => ?_)
                repeat (go_big_quiet_step ((go_at_call 77; go_must (exact bel_lays (S _)))))
                refine wpQuiet_nil ?_
                intro wn hwn
                have H5 : Hid (Below w.heap.size w wn) := next HB.out (bel_out hwn)
                clear hwn HB a0 a1 a3 b0 b1 b3 S
                go_wp2
                go_roundw
                case rel => exact ⟨j + 1, _, by omega, rfl, by go_num, HS, H5⟩
                case measure => simp [intOf]; omega
            · have heq' : (xu == yu) = false := by simpa using heq
              have HS : Hid ((m : Int) = leastK (fstR L) (j + 1)) := by unfold Hid; rw [HSTEP.out]; simp [hlt, heq]
              clear HSTEP heq hlt
              go_wp2
              refine wp_region_bel (by kernel_rfl) (by kernel_rfl) (fun _ => ?_)
              repeat (go_big_quiet_step (fail))
              refine wpQuiet_nil ?_
              intro wn hwn
              have H5 : Hid (Below w.heap.size w wn) := next HB.out (bel_out hwn)
              clear hwn HB a0 a1 a3 b0 b1 b3
              go_wp2
              go_roundw
              case rel => exact ⟨j + 1, _, by omega, rfl, by go_num, HS, H5⟩
              case measure => simp [intOf]; omega
    · have hjn' : decide (j < n) = false := by simpa using hjn
      have HF : Hid (z = R) := by
        unfold Hid
        rw [HZ.out, ← HR.out, show j = n by omega]
      go_wp2
      go_ret
      exact ⟨ret_int HF.out, HB.out⟩

end Cu
end Go.Proofs.YtnjgdfmldjgloaaGreat
