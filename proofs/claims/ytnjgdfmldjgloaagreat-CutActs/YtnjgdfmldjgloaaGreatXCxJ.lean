/- Deepest, Hosts and Bindings of the document's Cuts. -/
import Derived.Test.YtnjgdfmldjgloaaGreatXCxI
namespace Go.Proofs.YtnjgdfmldjgloaaGreat
open Go.RowKit
open Pl
namespace Cu

theorem fst_take {L : List (Rk × RQ)} {j : Nat} (hj : j < L.length) (f : ByteArray → Rk → ByteArray) (b : ByteArray) : ((fstR L).take (j + 1)).foldl f b = f (((fstR L).take j).foldl f b) L[j].1 := by
  unfold fstR
  have hj2 : j < (L.map Prod.fst).length := by simpa using hj
  rw [List.take_succ_eq_append_getElem hj2, List.foldl_append, List.getElem_map]
  rfl
set_option maxRecDepth 20000 in
set_option maxHeartbeats 2000000 in
theorem rdeep_any {w : World} {gr : Nat} {V0 : Value} {L : List (Rk × RQ)} (h : RS w gr V0 L) (n : ByteArray) (now : Int) (hn : n.size ≤ maxLen) (R : ByteArray) (hR : deepKK (fstR L) n now = R) :
    Calls Tryz.prog 21 #[.pointer (some ⟨gr, 0, none⟩), .string n, .int .i64 now] w fun e w' => e = .returned (.string R) ∧ Below w.heap.size w w' := by
  have HRS : Hid (RS w gr V0 L) := h
  obtain ⟨nL, hnL⟩ : ∃ nL, nL = L.length := ⟨_, rfl⟩
  have HnL : Hid (nL = L.length) := hnL
  have hn129 : nL ≤ 129 := by rw [hnL]; exact h.len
  obtain ⟨yv, cv, hV0⟩ := row_shape h.all
  rw [← hnL] at hV0
  subst hV0
  have g0 : w.cell? ⟨gr, 0, none⟩ = some (.slice yv nL cv) := h.blk.cell 0
  have HRE : Hid (deepKK (fstR L) n now = R) := hR
  have HB0 : Hid ((rootB : ByteArray) = ((fstR L).take 0).foldl (stepK n now) rootB ∧ rootB.size ≤ 255) := ⟨rfl, by decide⟩
  clear h hnL hR
  go_enter Tryz.func21, Tryz.ntmps21
  go_wp2
  clear g0
  go_loopw [7, 8] (fun bv k wr => ∃ (j : Nat) (b : ByteArray), j ≤ nL ∧ bv = .string b ∧ k = .int .i64 (j : Int) ∧ Hid (b = ((fstR L).take j).foldl (stepK n now) rootB ∧ b.size ≤ 255) ∧ Hid (Below w.heap.size w wr)) (fun _ k _ => nL - (intOf k).toNat)
  case atStart => exact ⟨0, rootB, Nat.zero_le _, rfl, rfl, HB0, Below.refl _ _⟩
  case round =>
    clear HB0
    obtain ⟨j, b, hj, rfl, rfl, HBE, HBL⟩ := hrel
    have hrs := HRS.out.below HBL.out
    have g0 : wr.cell? ⟨gr, 0, none⟩ = some (.slice yv nL cv) := hrs.blk.cell 0
    by_cases hjn : j < nL
    · have hjn' : (j : Int) < (nL : Int) := by omega
      have hjL : j < L.length := by rw [← HnL.out]; exact hjn
      have hall := hrs.all
      rw [show L.length = nL from HnL.out.symm] at hall
      obtain ⟨gv, cap, hyv, _⟩ := hall.form (by omega)
      simp only [Value.slice.injEq, true_and] at hyv
      obtain ⟨rfl, rfl⟩ := hyv
      have hrk := hrs.cuts _ (List.getElem_mem hjL)
      have g1 := hall.cellAt j (by omega)
      rw [pC_at hjL] at g1
      have hst := fst_take hjL (stepK n now) rootB
      rw [← HBE.out.1] at hst
      obtain ⟨⟨⟨xn, xf, xhs, xu, xrt, xbs⟩, ⟨p, hv, bv⟩⟩, hxe⟩ : ∃ z, z = L[j]'hjL := ⟨_, rfl⟩
      rw [← hxe] at hrk g1 hst
      simp only at hrk g1 hst
      have HRK : Hid (RkAt wr ⟨p, hv, bv⟩ ⟨xn, xf, xhs, xu, xrt, xbs⟩) := hrk
      have hx255 : xn.size ≤ 255 := hrk.ok.n
      have hxl : xn.size ≤ maxLen := by unfold maxLen; omega
      have hbl : b.size ≤ maxLen := by have := HBE.out.2; unfold maxLen; omega
      have x0 : wr.cell? ⟨p, 0, none⟩ = some (.string xn) := hrk.blk.cell 0
      have HX0 : Hid (∀ U, Below wr.heap.size wr U → U.cell? ⟨p, 0, none⟩ = some (.string xn)) := fun U hU => (HRK.out.blk.below hU).cell 0
      have HSTP : Hid (((fstR L).take (j + 1)).foldl (stepK n now) rootB = if liveK now ⟨xn, xf, xhs, xu, xrt, xbs⟩ && aboveB xn.data.toList n.data.toList && decide (cnt b.data.toList < cnt xn.data.toList) then xn else b) := hst
      have HBS : Hid (b.size ≤ 255) := HBE.out.2
      clear hrk hst hxe hall HBE hrs
      cases hlk : liveK now ⟨xn, xf, xhs, xu, xrt, xbs⟩ with
      | false =>
        have HNX : Hid (b = ((fstR L).take (j + 1)).foldl (stepK n now) rootB ∧ b.size ≤ 255) := ⟨by rw [HSTP.out, hlk]; simp, HBS.out⟩
        have hlv := liveR_any HRK.out now false hlk
        have HBN := HBL
        clear HSTP hlk
        go_wp2_with (go_at_call 50; go_must (refine hlv.mono ?_); rintro e w' ⟨rfl, hw⟩; obtain rfl := hw.symm)
        go_roundw
        case rel => exact ⟨j + 1, b, by omega, rfl, by go_num, HNX, HBN⟩
        case measure => simp [intOf]; omega
      | true =>
        have hlv := liveR_any HRK.out now true hlk
        have hab := fun v => refAbove_any xn n v hxl hn
        cases hA : aboveB xn.data.toList n.data.toList with
        | false =>
          rw [hA] at hab
          have HNX : Hid (b = ((fstR L).take (j + 1)).foldl (stepK n now) rootB ∧ b.size ≤ 255) := ⟨by rw [HSTP.out, hA]; simp, HBS.out⟩
          clear HSTP hlk hA
          go_wp2_with (first
            | (go_at_call 50; go_must (refine hlv.mono ?_); rintro e w' ⟨rfl, hw⟩; obtain rfl := hw.symm)
            | (go_at_call 58; go_must (refine (hab _).mono ?_); rintro e w2 ⟨rfl, b2⟩; have HBN : Hid (Below w.heap.size w w2) := next HBL.out b2; clear b2))
          go_roundw
          case rel => exact ⟨j + 1, b, by omega, rfl, by go_num, HNX, HBN⟩
          case measure => simp [intOf]; omega
        | true =>
          rw [hA] at hab
          have hc1 := fun v => refCount_any xn v hxl
          have hc2 := fun v => refCount_any b v hbl
          rw [hlk, hA] at HSTP
          generalize cnt xn.data.toList = c1 at hc1 HSTP
          generalize cnt b.data.toList = c2 at hc2 HSTP
          have tk1 : True := trivial
          by_cases hlt : c2 < c1
          · have hlti : (c2 : Int) < (c1 : Int) := by omega
            have HNX0 : Hid (xn = ((fstR L).take (j + 1)).foldl (stepK n now) rootB ∧ xn.size ≤ 255) := ⟨by rw [HSTP.out]; simp [hlt], hx255⟩
            clear HSTP hlk hA hlt
            go_wp2_with (first
              | (go_at_call 50; go_must (refine hlv.mono ?_); rintro e w' ⟨rfl, hw⟩; obtain rfl := hw.symm)
              | (go_at_call 58; go_must (refine (hab _).mono ?_); rintro e w2 ⟨rfl, b2⟩; have z0 := HX0.out _ b2)
              | (go_at_call 59; have _t := tk1; go_must (refine (hc1 _).mono ?_); rintro e w3 ⟨rfl, b3⟩; have B3 := next b2 b3; clear tk1)
              | (go_at_call 59; go_must (refine (hc2 _).mono ?_); rintro e w4 ⟨rfl, b4⟩; have B4 := next B3 b4; have z4 := HX0.out _ B4; have HBN : Hid (Below w.heap.size w w4) := next HBL.out B4; clear b2 b3 b4 B3 B4 z0))
            go_roundw
            case rel => exact ⟨j + 1, xn, by omega, rfl, by go_num, HNX0, HBN⟩
            case measure => simp [intOf]; omega
          · have hlti : decide (c2 < c1) = false := by simpa using hlt
            have HNX : Hid (b = ((fstR L).take (j + 1)).foldl (stepK n now) rootB ∧ b.size ≤ 255) := ⟨by rw [HSTP.out]; simp [hlt], HBS.out⟩
            clear HSTP hlk hA hlt
            go_wp2_with (first
              | (go_at_call 50; go_must (refine hlv.mono ?_); rintro e w' ⟨rfl, hw⟩; obtain rfl := hw.symm)
              | (go_at_call 58; go_must (refine (hab _).mono ?_); rintro e w2 ⟨rfl, b2⟩; have z0 := HX0.out _ b2)
              | (go_at_call 59; have _t := tk1; go_must (refine (hc1 _).mono ?_); rintro e w3 ⟨rfl, b3⟩; have B3 := next b2 b3; clear tk1)
              | (go_at_call 59; go_must (refine (hc2 _).mono ?_); rintro e w4 ⟨rfl, b4⟩; have B4 := next B3 b4; have HBN : Hid (Below w.heap.size w w4) := next HBL.out B4; clear b2 b3 b4 B3 B4 z0))
            go_roundw
            case rel => exact ⟨j + 1, b, by omega, rfl, by go_num, HNX, HBN⟩
            case measure => simp [intOf]; omega
    · have hjn' : decide (j < nL) = false := by simpa using hjn
      have HF : Hid (b = R) := by
        unfold Hid
        rw [HBE.out.1, ← HRE.out, List.take_of_length_le (by rw [fstR_len, ← HnL.out]; omega)]
        rfl
      clear hrs
      go_wp2
      go_ret
      exact ⟨by rw [← HF.out]; rfl, HBL.out⟩

def ptrK : Option (Rk × RQ) → Value
  | some e => .pointer (some ⟨e.2.p, 0, none⟩)
  | none => .pointer none
theorem find_fstR (L : List (Rk × RQ)) (cn : ByteArray) (now : Int) : findK (fstR L) cn now = (L.find? fun e => isK cn now e.1).map Prod.fst := by
  unfold findK fstR
  rw [List.find?_map]
  rfl
set_option maxRecDepth 20000 in
set_option maxHeartbeats 2000000 in
theorem rfind_any {w : World} {gr : Nat} {V0 : Value} {L : List (Rk × RQ)} (h : RS w gr V0 L) (cn : ByteArray) (now : Int) (hn : cn.size ≤ maxLen) (o : Option (Rk × RQ)) (ho : (L.find? fun e => isK cn now e.1) = o) :
    Calls Tryz.prog 65 #[.pointer (some ⟨gr, 0, none⟩), .string cn, .int .i64 now] w fun e w' => e = .returned (ptrK o) ∧ Below w.heap.size w w' := by
  have HRS : Hid (RS w gr V0 L) := h
  obtain ⟨nL, hnL⟩ : ∃ nL, nL = L.length := ⟨_, rfl⟩
  have HnL : Hid (nL = L.length) := hnL
  have hn129 : nL ≤ 129 := by rw [hnL]; exact h.len
  obtain ⟨yv, cv, hV0⟩ := row_shape h.all
  rw [← hnL] at hV0
  subst hV0
  have g0 : w.cell? ⟨gr, 0, none⟩ = some (.slice yv nL cv) := h.blk.cell 0
  have HO : Hid ((L.find? fun e => isK cn now e.1) = o) := ho
  clear h hnL ho
  go_enter Tryz.func65, Tryz.ntmps65
  go_wp2
  clear g0
  go_loopw [7] (fun k wr => ∃ j : Nat, j ≤ nL ∧ k = .int .i64 (j : Int) ∧ Hid (∀ i (hi : i < L.length), i < j → isK cn now L[i].1 = false) ∧ Hid (Below w.heap.size w wr)) (fun k _ => nL - (intOf k).toNat)
  case atStart => exact ⟨0, Nat.zero_le _, rfl, fun i _ h => by omega, Below.refl _ _⟩
  case round =>
    obtain ⟨j, hj, rfl, HNO, HBL⟩ := hrel
    have hrs := HRS.out.below HBL.out
    have g0 : wr.cell? ⟨gr, 0, none⟩ = some (.slice yv nL cv) := hrs.blk.cell 0
    by_cases hjn : j < nL
    · have hjn' : (j : Int) < (nL : Int) := by omega
      have hjL : j < L.length := by rw [← HnL.out]; exact hjn
      have hall := hrs.all
      rw [show L.length = nL from HnL.out.symm] at hall
      obtain ⟨gv, cap, hyv, _⟩ := hall.form (by omega)
      simp only [Value.slice.injEq, true_and] at hyv
      obtain ⟨rfl, rfl⟩ := hyv
      have hrk := hrs.cuts _ (List.getElem_mem hjL)
      have g1 := hall.cellAt j (by omega)
      rw [pC_at hjL] at g1
      obtain ⟨⟨⟨xn, xf, xhs, xu, xrt, xbs⟩, ⟨p, hv, bv⟩⟩, hxe⟩ : ∃ z, z = L[j]'hjL := ⟨_, rfl⟩
      rw [← hxe] at hrk g1
      simp only at hrk g1
      have HRK : Hid (RkAt wr ⟨p, hv, bv⟩ ⟨xn, xf, xhs, xu, xrt, xbs⟩) := hrk
      have hx255 : xn.size ≤ 255 := hrk.ok.n
      have hxl : xn.size ≤ maxLen := by unfold maxLen; omega
      have x0 : wr.cell? ⟨p, 0, none⟩ = some (.string xn) := hrk.blk.cell 0
      have HG : Hid (∀ U, Below wr.heap.size wr U → U.cell? ⟨gr, 0, none⟩ = some (.slice (some ⟨gv, 0, none⟩) nL cv) ∧ U.cell? ⟨gv, j, none⟩ = some (.pointer (some ⟨p, 0, none⟩))) := fun U hU => ⟨by rw [hU.cell (World.block_lt_of_cell? _ _ g0)]; exact g0, by rw [hU.cell (World.block_lt_of_cell? _ _ g1)]; exact g1⟩
      have HIS : Hid (isK cn now (L[j]'hjL).1 = (liveK now ⟨xn, xf, xhs, xu, xrt, xbs⟩ && sameB xn.data.toList cn.data.toList)) := by unfold Hid; rw [← hxe]; rfl
      have HNEXT : Hid (isK cn now (L[j]'hjL).1 = false → ∀ i (hi : i < L.length), i < j + 1 → isK cn now L[i].1 = false) := fun e i hi hij => by
        by_cases he : i = j
        · subst he; exact e
        · exact HNO.out i hi (by omega)
      have HHIT : Hid (isK cn now (L[j]'hjL).1 = true → o = some (⟨xn, xf, xhs, xu, xrt, xbs⟩, ⟨p, hv, bv⟩)) := fun e => by
        rw [← HO.out, hxe, List.find?_eq_some_iff_getElem]
        exact ⟨e, j, hjL, rfl, fun i hi => by rw [HNO.out i (by omega) hi]; rfl⟩
      clear hrk hxe hall hrs
      cases hlk : liveK now ⟨xn, xf, xhs, xu, xrt, xbs⟩ with
      | false =>
        have HN2 : Hid (∀ i (hi : i < L.length), i < j + 1 → isK cn now L[i].1 = false) := HNEXT.out (by rw [HIS.out, hlk]; rfl)
        have hlv := liveR_any HRK.out now false hlk
        clear HIS hlk HNEXT HHIT
        go_wp2_with (go_at_call 50; go_must (refine hlv.mono ?_); rintro e w' ⟨rfl, hw⟩; obtain rfl := hw.symm)
        go_roundw
        case rel => exact ⟨j + 1, by omega, by go_num, HN2, HBL⟩
        case measure => simp [intOf]; omega
      | true =>
        have hlv := liveR_any HRK.out now true hlk
        have hsm := fun v => refSame_any xn cn v hxl hn
        cases hS : sameB xn.data.toList cn.data.toList with
        | false =>
          rw [hS] at hsm
          have HN2 : Hid (∀ i (hi : i < L.length), i < j + 1 → isK cn now L[i].1 = false) := HNEXT.out (by rw [HIS.out, hS]; simp)
          clear HIS hlk HNEXT HHIT hS
          go_wp2_with (first
            | (go_at_call 50; go_must (refine hlv.mono ?_); rintro e w' ⟨rfl, hw⟩; obtain rfl := hw.symm)
            | (go_at_call 80; go_must (refine (hsm _).mono ?_); rintro e w2 ⟨rfl, b2⟩; have HBN : Hid (Below w.heap.size w w2) := next HBL.out b2; clear b2))
          go_roundw
          case rel => exact ⟨j + 1, by omega, by go_num, HN2, HBN⟩
          case measure => simp [intOf]; omega
        | true =>
          rw [hS] at hsm
          have HFO : Hid (o = some (⟨xn, xf, xhs, xu, xrt, xbs⟩, ⟨p, hv, bv⟩)) := HHIT.out (by rw [HIS.out, hlk, hS]; rfl)
          clear HIS hlk HNEXT HHIT hS
          go_wp2_with (first
            | (go_at_call 50; go_must (refine hlv.mono ?_); rintro e w' ⟨rfl, hw⟩; obtain rfl := hw.symm)
            | (go_at_call 80; go_must (refine (hsm _).mono ?_); rintro e w2 ⟨rfl, b2⟩; have HBN : Hid (Below w.heap.size w w2) := next HBL.out b2; obtain ⟨z0, z1⟩ := HG.out _ b2; clear b2))
          go_ret
          exact ⟨by rw [HFO.out]; rfl, HBN.out⟩
    · have hjn' : decide (j < nL) = false := by simpa using hjn
      have HF : Hid (o = none) := by
        unfold Hid
        rw [← HO.out, List.find?_eq_none]
        intro e he
        obtain ⟨i, hi, rfl⟩ := List.getElem_of_mem he
        rw [HNO.out i hi (by have := HnL.out; omega)]
        decide
      clear hrs
      go_wp2
      go_ret
      exact ⟨by rw [HF.out]; rfl, HBL.out⟩

theorem rptr_none (u : World) : (binOp .eql 67 (.pointer none) (.pointer none)).run Tryz.prog u = .ok (.bool true) u := by kernel_rfl
theorem rptr_some (g : Nat) (u : World) : (binOp .eql 67 (.pointer (some ⟨g, 0, none⟩)) (.pointer none)).run Tryz.prog u = .ok (.bool false) u := by kernel_rfl
theorem find_mem {L : List (Rk × RQ)} {cn : ByteArray} {now : Int} {e : Rk × RQ} (h : (L.find? fun e => isK cn now e.1) = some e) : e ∈ L := List.mem_of_find?_eq_some h
theorem rhosts_any {w : World} {gr : Nat} {V0 : Value} {L : List (Rk × RQ)} (h : RS w gr V0 L) (cn : ByteArray) (now : Int) (hn : cn.size ≤ maxLen) (X : List ByteArray) (hX : hostsK (fstR L) cn now = X) (N : Nat) (hN : X.length = N) :
    Calls Tryz.prog 28 #[.pointer (some ⟨gr, 0, none⟩), .string cn, .int .i64 now] w fun e w' => ∃ y c, e = .returned (.slice y N c) ∧ w'.ownsRow w.heap.size 9 1 (.slice y N c) N (tC X) ∧ Below w.heap.size w w' := by
  obtain ⟨i9, hi9, hz90, hz91, hz92⟩ := info_parts info9'
  unfold hostsK at hX
  rw [find_fstR] at hX
  cases ho : L.find? (fun e => isK cn now e.1) with
  | none =>
    rw [ho] at hX
    have hx : X = [] := hX.symm
    subst hx
    have hn0 : N = 0 := hN.symm
    subst hn0
    have hfi := rfind_any h cn now hn none ho
    unfold ptrK at hfi
    have hpn := rptr_none
    clear ho h hX hN
    go_enter Tryz.func28, Tryz.ntmps28
    go_wp2_with (go_at_call 65; go_must (refine hfi.mono ?_); rintro e w2 ⟨rfl, b2⟩)
    go_ret
    exact ⟨none, 0, rfl, World.ownsRow_nil _ _ _ _, b2⟩
  | some z =>
    rw [ho] at hX
    have hrk := h.cuts z (find_mem ho)
    have hfi := rfind_any h cn now hn (some z) ho
    unfold ptrK at hfi
    obtain ⟨⟨xn, xf, xhs, xu, xrt, xbs⟩, ⟨p, hv, bv⟩⟩ := z
    have hx : X = xhs := hX.symm
    subst hx
    simp only at hfi
    have h8 : X.length ≤ 8 := hrk.ok.hl
    obtain ⟨yh, ch, hvv⟩ := row_shape hrk.hosts
    simp only at hvv
    rw [hN] at hvv h8
    subst hvv
    have HRK : Hid (RkAt w ⟨p, .slice yh N ch, bv⟩ ⟨xn, xf, X, xu, xrt, xbs⟩) := hrk
    have HN : Hid (X.length = N) := hN
    have hps := rptr_some p
    clear ho h hX hrk hN
    go_enter Tryz.func28, Tryz.ntmps28
    go_wp2_with (first
      | (go_at_call 65; go_must (refine hfi.mono ?_); rintro e w2 ⟨rfl, b2⟩; have hb3 : Below w2.heap.size w2 (w2.alloc (.cells #[] 9)) := lay (Below.refl _ _) _; have hk3 := HRK.out.below (next b2 hb3); have x2 : (w2.alloc (.cells #[] 9)).cell? ⟨p, 2, none⟩ = some (.slice yh N ch) := hk3.blk.cell 2; have hrow := Row.of_own hk3.hosts; simp only at hrow; rw [HN.out] at hrow; have hown := own_blk (B := w2.heap.size) (z := 1) (n := 0) (xs := []) (Blk.new w2 #[] 9) (Nat.le_refl _) rfl rfl (Nat.zero_le _))
      | (at_builtin; refine wpList_appG _ rfl (.tmp 14) (.tmp 18) 36 9 i9 _ 1 16 Tryz.underlying36 hi9 hz90 hz91 hz92 rfl (by decide) rfl w2.heap.size _ 0 [] rfl hown _ N (tC X) rfl hrow (by rw [tC_len, HN.out, Nat.mul_one]) (tC_one X) (by omega) (by unfold maxLen; omega) hb3.size ?_; intro v' w3 h1 h3 _))
    go_ret
    obtain ⟨y, c, hvv⟩ := row_shape h1
    rw [Nat.zero_add] at hvv
    subst hvv
    refine ⟨y, c, rfl, own_base (by simpa using h1) b2.size, next b2 (hb3.grown h3 hb3.size (fun j e => (hown.lt j e).1))⟩
theorem rbinds_any {w : World} {gr : Nat} {V0 : Value} {L : List (Rk × RQ)} (h : RS w gr V0 L) (cn : ByteArray) (now : Int) (hn : cn.size ≤ maxLen) (X : List Bn) (hX : bindK (fstR L) cn now = X) (N : Nat) (hN : X.length = N) :
    Calls Tryz.prog 26 #[.pointer (some ⟨gr, 0, none⟩), .string cn, .int .i64 now] w fun e w' => ∃ y c, e = .returned (.slice y N c) ∧ w'.ownsRow w.heap.size 65 5 (.slice y N c) N (bC X) ∧ Below w.heap.size w w' := by
  unfold bindK at hX
  rw [find_fstR] at hX
  cases ho : L.find? (fun e => isK cn now e.1) with
  | none =>
    rw [ho] at hX
    have hx : X = [] := hX.symm
    subst hx
    have hn0 : N = 0 := hN.symm
    subst hn0
    have hfi := rfind_any h cn now hn none ho
    unfold ptrK at hfi
    have hpn := rptr_none
    clear ho h hX hN
    go_enter Tryz.func26, Tryz.ntmps26
    go_wp2_with (go_at_call 65; go_must (refine hfi.mono ?_); rintro e w2 ⟨rfl, b2⟩)
    go_ret
    exact ⟨none, 0, rfl, World.ownsRow_nil _ _ _ _, b2⟩
  | some z =>
    rw [ho] at hX
    have hrk := h.cuts z (find_mem ho)
    have hfi := rfind_any h cn now hn (some z) ho
    unfold ptrK at hfi
    obtain ⟨x, q⟩ := z
    have hx : livingK x now = X := hX
    simp only at hfi hrk
    have HLV : Hid (∀ U, Below w.heap.size w U → Calls Tryz.prog 57 #[.pointer (some ⟨q.p, 0, none⟩), .int .i64 now] U fun e w' => ∃ y c, e = .returned (.slice y N c) ∧ w'.ownsRow U.heap.size 65 5 (.slice y N c) N (bC X) ∧ Below U.heap.size U w') := fun U hU => by
      have := livingR_any (hrk.below hU) now
      rw [hx, hN] at this
      exact this
    obtain ⟨p, hv, bv⟩ := q
    simp only at hfi HLV
    have hps := rptr_some p
    clear ho h hX hrk hN hx
    go_enter Tryz.func26, Tryz.ntmps26
    go_wp2_with (first
      | (go_at_call 65; go_must (refine hfi.mono ?_); rintro e w2 ⟨rfl, b2⟩)
      | (go_at_call 57; go_must (refine (HLV.out _ b2).mono ?_); rintro e w3 ⟨y, c, rfl, ho, b3⟩))
    go_ret
    exact ⟨y, c, rfl, own_base ho b2.size, next b2 b3⟩

end Cu
end Go.Proofs.YtnjgdfmldjgloaaGreat
