/- StoreRoom: there are never more than it may hold; what goes is what ends first. -/
import Derived.Test.YtcmhjlflgedcdaaXStX
namespace Go.Proofs.Ytcmhjlflgedcdaa.storeRoom
open Go.ChangeShapes Go.WideShapes Go.ChangeAt Go.RowKit
open Pl

theorem two_str (j : Nat) (u : World) (hj : j < 256) : (convert 58 9 (.slice (some ⟨u.heap.size, 0, none⟩) 2 2)).run Try.prog (u.alloc (.cells #[.int .u8 (j : Int), .int .u8 120] 5)) = .ok (.string ⟨#[UInt8.ofNat j, 120]⟩) (u.alloc (.cells #[.int .u8 (j : Int), .int .u8 120] 5)) := by
  refine run_convert_bytes_back _ 58 9 5 ⟨u.heap.size, 0, none⟩ 2 [UInt8.ofNat j, 120] Try.underlying58 Try.underlying5 Try.underlying9 fun i hi => ?_
  have hj' : (UInt8.ofNat j).toNat = j := by rw [UInt8.toNat_ofNat']; omega
  have e : (⟨u.heap.size, 0, none⟩ : Addr).add i = ⟨u.heap.size, i, none⟩ := by unfold Addr.add; split <;> simp_all
  rw [e, (Blk.new u _ 5).cell i]
  match i, hi with
  | 0, _ => simp [hj']
  | 1, _ => rfl

/-- What the law holds: the store, and the ends that it keeps itself. -/
structure HV (w0 w : World) (gs k : Nat) (mb : Option Nat) (L : List (En × Value)) (F : List En) (v : Value) (l : List Int) : Prop where
  lw : LW w0 w gs k mb L F
  own : w.ownsRow w0.heap.size 3 1 v l.length (iC l)
  ap : ∀ b, v.ownBlock = some b → ¬ foot gs mb L b
theorem HV.below {w0 w w' : World} {gs k : Nat} {mb : Option Nat} {L : List (En × Value)} {F : List En} {v : Value} {l : List Int} (h : HV w0 w gs k mb L F v l) (hb : Below w.heap.size w w') : HV w0 w' gs k mb L F v l := ⟨h.lw.below hb, own_past h.own hb, h.ap⟩
theorem HV.put {w0 w w' : World} {gs k : Nat} {mb mb' : Option Nat} {L L' : List (En × Value)} {F F' : List En} {v : Value} {l : List Int} (h : HV w0 w gs k mb L F v l) (h' : LW w0 w' gs k mb' L' F') (T : Turn (foot gs mb L) w w') (ft : ∀ k, foot gs mb' L' k → foot gs mb L k ∨ w.heap.size ≤ k) : HV w0 w' gs k mb' L' F' v l :=
  ⟨h', T.row h.own h.ap, fun b hb e => by
    rcases ft b e with e | e
    · exact h.ap b hb e
    · have := (h.own.lt b hb).2; omega⟩
theorem HV.app {w0 w w' : World} {gs k : Nat} {mb : Option Nat} {L : List (En × Value)} {F : List En} {v v' : Value} {l : List Int} {u : Int} (h : HV w0 w gs k mb L F v l) (h1 : w'.ownsRow w0.heap.size 3 1 v' (l.length + 1) (iC l ++ [.int .i64 u])) (h2 : w.grownBy w' v.ownBlock) (h3 : ∀ k, v'.ownBlock = some k → v.ownBlock = some k ∨ w.heap.size ≤ k) : HV w0 w' gs k mb L F v' (l ++ [u]) := by
  have T : Turn (fun k => v.ownBlock = some k) w w' := Turn.of_grown h2 (fun k e => e)
  refine ⟨⟨h.lw.st.turn T (fun k hk e => h.ap k e hk), h.lw.fs, h.lw.pos, Turn.below h.lw.bel T h.lw.bel.size (fun i hi => (h.own.lt i hi).1), h.lw.new⟩, ?_, fun b hb e => ?_⟩
  · rw [List.length_append]
    have : iC (l ++ [u]) = iC l ++ [.int .i64 u] := by unfold iC; rw [List.flatMap_append]; rfl
    rw [this]; exact h1
  · rcases h3 b hb with e' | e'
    · exact h.ap b e' e
    · have := h.lw.st.lt b e; omega
theorem iC_len (l : List Int) : (iC l).length = l.length := by induction l with | nil => rfl | cons a l ih => unfold iC at *; simp [iV, ih]
theorem iC_map (l : List Int) : iC l = l.map (fun p => Value.int .i64 p) := by induction l with | nil => rfl | cons a l ih => unfold iC at *; simp [iV, ih]
theorem HV.cut {w0 w : World} {gs k g cap : Nat} {mb : Option Nat} {L : List (En × Value)} {F : List En} {l : List Int} (h : HV w0 w gs k mb L F (.slice (some ⟨g, 0, none⟩) l.length cap) l) (m : Nat) (h0 : 0 < l.length) :
    HV w0 (w.setCell ⟨g, m, none⟩ (.int .i64 (l.getD (l.length - 1) 0))) gs k mb L F (.slice (some ⟨g, 0, none⟩) (l.length - 1) cap) (cutA l m) := by
  have hb : (Value.slice (some ⟨g, 0, none⟩) l.length cap).ownBlock = some g := by simp [Value.ownBlock]
  have T : Turn (fun k => k = g) w (w.setCell ⟨g, m, none⟩ (.int .i64 (l.getD (l.length - 1) 0))) := Turn.of_set (S := fun k => k = g) w (p := ⟨g, m, none⟩) rfl _
  refine ⟨h.lw.own T (h.own.lt g hb).1 (h.ap g hb), ?_, fun b hb' e => ?_⟩
  · rw [cutA_len]
    have h1 := own_cut' (h.own.stored m (.int .i64 (l.getD (l.length - 1) 0))).1 (i := l.length - 1) (by omega)
    have e : ((iC l).set m (.int .i64 (l.getD (l.length - 1) 0))).take ((l.length - 1) * 1) = iC (cutA l m) := by
      unfold cutA
      rw [iC_map, iC_map, List.map_take, List.map_set, Nat.mul_one]
    rw [e] at h1
    exact h1
  · simp [Value.ownBlock] at hb'
    subst hb'
    exact h.ap _ hb e

theorem info3 : (Try.prog.info? 3).map (fun i => (i.zero, i.size, i.bytes)) = some (some (.int .i64 0), 1, 8) := by kernel_rfl
set_option maxRecDepth 20000 in
set_option maxHeartbeats 4000000 in
theorem walk (most : Int) (v : Value) (ps : List Int) (_ : (Lit.int .i64 most).wf = true) (w : World) (hr : Row w v ps.length (iC ps) ∧ ps.length ≤ maxLen) :
    Calls Try.prog 5 #[.int .i64 most, v] w fun e w' => e = .returned (.bool true) ∧ Below w.heap.size w w' := by
  obtain ⟨i0, hi, hz0, hz1, hz2⟩ := info_parts info3
  obtain ⟨hrow, hmx⟩ := hr
  obtain ⟨n, hn⟩ : ∃ n, n = ps.length := ⟨_, rfl⟩
  obtain ⟨x, c, hv⟩ := row_slice hrow
  rw [← hn] at hv
  subst hv
  have HN : Hid (n = ps.length) := hn
  have HR : Hid (Row w (.slice x n c) ps.length (iC ps)) := hrow
  have hnm : n ≤ maxLen := by rw [hn]; exact hmx
  unfold maxLen at hnm
  obtain ⟨K, hK, hKb⟩ : ∃ K : Nat, K < 16 ∧ bits .and .i64 most 15 = (K : Int) := by
    refine ⟨(most % 16).toNat, by omega, ?_⟩
    have := mask most 4 (by decide)
    simp only [Nat.reducePow, Nat.reduceSub] at this
    have e : bits .and .i64 most 15 = most % 16 := this
    rw [e]; omega
  clear hrow hn hmx
  have NW : Hid (∀ u : World, Below w.heap.size w u → Calls Try.prog 9 #[.int .i64 (1 + (K : Int))] u fun e w' => ∃ gs, e = .returned (.tuple #[.pointer (some ⟨gs, 0, none⟩), .int .i64 0]) ∧ LW w w' gs (1 + K) none [] []) := fun u hb => by
    have := lw_new hb (1 + K) (by omega) (by omega)
    rw [show ((1 + K : Nat) : Int) = 1 + (K : Int) from by omega] at this
    exact this
  go_enter Try.func5, Try.ntmps5
  go_wp2_with (first
    | (go_at_call 12; go_must (refine (awake_any _).mono ?_); rintro e w0 ⟨rfl, b0⟩)
    | (go_at_call 9; go_must (refine (NW.out _ b0).mono ?_); rintro e w1 ⟨gs, rfl, lw1⟩; have HV0 : Hid (HV w w1 gs (1 + K) none [] [] (.slice none 0 0) []) := ⟨lw1, World.ownsRow_nil _ _ _ _, fun b hb => by simp [Value.ownBlock] at hb⟩; clear NW b0 lw1))
  go_loopw [8, 9] (fun lv iv wr => ∃ (j N c1 : Nat) (y : Option Addr) (l : List Int) (mb : Option Nat) (L : List (En × Value)) (F : List En), lv = .slice y N c1 ∧ iv = .int .i64 (j : Int) ∧ j ≤ n ∧ j ≤ 60 ∧ Hid (RmP (1 + K) j F l ∧ N = l.length) ∧ Hid (HV w wr gs (1 + K) mb L F (.slice y N c1) l)) (fun _ i _ => 60 - (intOf i).toNat)
  case atStart => exact ⟨0, 0, 0, none, [], none, [], [], rfl, rfl, Nat.zero_le _, Nat.zero_le _, ⟨rmP_nil _, rfl⟩, HV0⟩
  case round =>
    clear HV0
    obtain ⟨j, N, c1, y, l, mb, L, F, rfl, rfl, hjn, hj6, HP, HH⟩ := hrel
    by_cases hlt : j < n ∧ j < 60
    · obtain ⟨hj, h6⟩ := hlt
      have hj' : (j : Int) < (n : Int) := by omega
      have h6' : (j : Int) < 60 := by omega
      have hjm : j < ps.length := by have := HN.out; omega
      obtain ⟨gp, op, cp, hx, hc⟩ := row_at (HR.out.below HH.out.lw.bel) (by omega)
      simp only [Value.slice.injEq] at hx
      obtain ⟨rfl, -, rfl⟩ := hx
      have e0 := hc j _ (iC_at hjm)
      obtain ⟨p, hp⟩ : ∃ p, p = ps[j] := ⟨_, rfl⟩
      rw [← hp] at e0
      obtain ⟨X, hX, hXb⟩ : ∃ X : Nat, X < 1024 ∧ bits .and .i64 p 1023 = (X : Int) := by
        refine ⟨(p % 1024).toNat, by omega, ?_⟩
        have := mask p 10 (by decide)
        simp only [Nat.reducePow, Nat.reduceSub] at this
        have e : bits .and .i64 p 1023 = p % 1024 := this
        rw [e]; omega
      obtain ⟨U, hU⟩ : ∃ U : Int, U = 1000 + 64 * (X : Int) + (j : Int) := ⟨_, rfl⟩
      have HU5 : Hid (5 < U) := by unfold Hid; omega
      have cv := two_str j wr (by omega)
      obtain ⟨D1, hD1⟩ : ∃ D : ByteArray, D = ⟨#[UInt8.ofNat j, 120]⟩ := ⟨_, rfl⟩
      have hs1 : D1.size = 2 := by rw [hD1]; rfl
      rw [← hD1] at cv
      have zz1 : ∀ u : World, (Op.stringOp .add ⟨#[2]⟩ D1).run Try.prog u = .ok (.string (⟨#[2]⟩ ++ D1)) u := fun u => run_string_add_sum u _ D1 (by rw [hs1]; decide)
      obtain ⟨D2, hD2⟩ : ∃ D : ByteArray, (⟨#[2]⟩ : ByteArray) ++ D1 = D := ⟨_, rfl⟩
      rw [hD2] at zz1
      have hs2 : D2.size = 3 := by rw [← hD2, hD1]; rfl
      have hD2' : D2 ++ (⟨#[0]⟩ : ByteArray) = nmR j := by rw [← hD2, hD1]; rfl
      have zz2 : ∀ u : World, (Op.stringOp .add D2 ⟨#[0]⟩).run Try.prog u = .ok (.string (nmR j)) u := fun u => by rw [← hD2']; exact run_string_add_sum u D2 _ (by rw [hs2]; decide)
      obtain ⟨F', hF'⟩ : ∃ F', putP (1 + K) F (enR j U) 5 = F' := ⟨_, rfl⟩
      have HF : Hid (putP (1 + K) F (enR j U) 5 = F') := hF'
      have HST : Hid (RmP (1 + K) (j + 1) F' ((if l.length = 1 + K then cutA l (amin l l.length) else l) ++ [U])) := by unfold Hid; rw [← hF']; exact rm_step HP.out.1 (by omega) h6 HU5.out
      obtain ⟨NF, hNF⟩ : ∃ NF, F'.length = NF := ⟨_, rfl⟩
      have HNF : Hid (F'.length = NF) := hNF
      have hgt : decide (1 + (K : Int) < (NF : Int)) = false := by have := HST.out.few; simp; omega
      have HE : Hid (errP (enR j U) 5 = 0) := err_yes (rm_may h6 HU5.out)
      have HSZ : Hid ((nmR j).size ≤ maxLen) := max_name (nmR_name h6).1
      clear hc hp hD1 hD2 hD2' hF' hNF hs1 hs2
      have SETP : Hid (∀ (w3 : World) (g3 : Nat), Blk w3 g3 #[.string ⟨#[97, 98, 99, 100]⟩] 9 → Below wr.heap.size wr w3 → Calls Try.prog 14 #[.pointer (some ⟨gs, 0, none⟩), .agg #[.string (nmR j), .int .i64 1, .int .i64 5, .slice (some ⟨g3, 0, none⟩) 1 1, .int .i64 3, .int .i64 U], .int .i64 5] w3 fun e w' => e = .returned (.int .i64 0) ∧ ∃ mb' L', HV w w' gs (1 + K) mb' L' F' (.slice y N c1) l) := fun w3 g3 k3 b3 => by
        have H3 := HH.out.below b3
        refine (lw_put H3.lw (nmR j) 1 5 3 U 5 (.slice (some ⟨g3, 0, none⟩) 1 1) awD HSZ.out (row_d k3) (by decide) awS 0 HE.out _ HF.out).mono ?_
        rintro e w4 ⟨rfl, mb4, L4, lw4, T4, ft4⟩
        exact ⟨rfl, mb4, L4, H3.put lw4 T4 ft4⟩
      by_cases hNK : N = 1 + K
      · have hNe : ((N : Int) == 1 + (K : Int)) = true := by simp; omega
        have HNK : Hid (N = 1 + K) := hNK
        clear hNK
        go_wp2_with (first
          | (go_at_call 25; go_must (rw [← hU]); clear hU; go_must (refine (set_any _ _ _ _).mono ?_); rintro e w3 ⟨g3, rfl, k3, hg3, b3⟩; have hp := SETP.out w3 g3 k3 (next ((Below.refl wr.heap.size wr).alloc (Nat.le_refl _) _) b3); clear k3 b3 SETP)
          | (go_at_call 14; go_must (refine hp.mono ?_); rintro e w4 ⟨rfl, mb4, L4, H4⟩; have H4' : Hid (HV w w4 gs (1 + K) mb4 L4 F' (.slice y N c1) l) := H4; have hal := H4.lw.all NF HNF.out; clear hp H4)
          | (go_at_call 11; refine (num_any _ _).mono ?_; rintro e w' ⟨rfl, hw⟩; obtain rfl := hw.symm)
          | (go_at_call 22; go_must (refine hal.mono ?_); rintro e w5 ⟨y5, c5, M5, rfl, es5, hf5, hl5, lw5, b5⟩; have H5 : Hid (HV w w5 gs (1 + K) mb4 L4 F' (.slice y N c1) l) := H4'.out.below b5; clear es5 hf5 hl5 lw5 b5 hal H4'))
        obtain ⟨M, rfl⟩ : ∃ M, N = M + 1 := ⟨K, by rw [HNK.out]; omega⟩
        have HL1 : Hid (M + 1 = l.length) := HP.out.2
        have hM16 : M < 16 := by have := HNK.out; omega
        have HIF : Hid (RmP (1 + K) (j + 1) F' (cutA l (amin l l.length) ++ [U])) := by have := HST.out; rw [if_pos (by rw [← HP.out.2]; exact HNK.out)] at this; exact this
        have O5 : w5.ownsRow w.heap.size 3 1 (.slice y (M + 1) c1) (M + 1) (iC l) := by have := H5.out.own; rw [← HL1.out] at this; exact this
        obtain ⟨g, hy, hMc⟩ : ∃ g, y = some ⟨g, 0, none⟩ ∧ M ≤ c1 := by
          rcases O5.2 with ⟨h1, h2⟩ | ⟨g, cap, cur, h1, hb, hg, hnc, _⟩
          · simp at h1
          · simp only [Value.slice.injEq, true_and] at h1
            obtain ⟨rfl, rfl⟩ := h1
            exact ⟨g, rfl, by omega⟩
        subst hy
        clear O5 HST
        go_loopw [12, 13] (fun mv qv wq => ∃ m q : Nat, mv = .int .i64 (m : Int) ∧ qv = .int .i64 (q : Int) ∧ 1 ≤ q ∧ q ≤ M + 1 ∧ m < M + 1 ∧ Hid (m = amin l q) ∧ Hid (HV w wq gs (1 + K) mb4 L4 F' (.slice (some ⟨g, 0, none⟩) (M + 1) c1) l)) (fun _ q _ => M + 1 - (intOf q).toNat)
        case atStart => exact ⟨0, 1, rfl, rfl, Nat.le_refl _, by omega, by omega, (amin_one l).symm, H5⟩
        case round =>
          clear H5
          obtain ⟨m, q, rfl, rfl, hq1, hqM, hmM, HM, H5⟩ := hrel
          have hcell : ∀ i, i < M + 1 → ∀ nb : Bel wr, nb.to.cell? ⟨g, i, none⟩ = some (.int .i64 (l.getD i 0)) := fun i hi nb => by
            have h1 := own_past H5.out.own nb.h
            rw [← HL1.out] at h1
            have h2 := h1.cellAt i (by omega)
            rw [h2, iC_map, List.getElem?_map, List.getD_eq_getElem?_getD]
            have h3 : i < l.length := by have := HL1.out; omega
            rw [List.getElem?_eq_getElem h3]
            rfl
          by_cases hqlt : q < M + 1
          · have hq2 : (q : Int) < ((M + 1 : Nat) : Int) := by omega
            have ca := hcell q hqlt
            have cb := hcell m hmM
            have HS : Hid (amin l (q + 1) = if l.getD q 0 < l.getD (amin l q) 0 then q else amin l q) := rfl
            rw [show amin l q = m from HM.out.symm] at HS
            obtain ⟨A, hA⟩ : ∃ A, l.getD q 0 = A := ⟨_, rfl⟩
            obtain ⟨B, hB⟩ : ∃ B, l.getD m 0 = B := ⟨_, rfl⟩
            rw [hA] at ca HS
            rw [hB] at cb HS
            clear hA hB hcell
            by_cases hAB : A < B
            · have HS' : Hid (amin l (q + 1) = q) := by have := HS.out; rw [if_pos hAB] at this; exact this
              clear HS
              go_wp2
              refine wp_region_bel (by kernel_rfl) (by kernel_rfl) (fun _ => ?_)
              repeat (go_big_quiet_step (fail))
              refine wpQuiet_nil ?_
              intro wn hwn
              have H6 : Hid (HV w wn gs (1 + K) mb4 L4 F' (.slice (some ⟨g, 0, none⟩) (M + 1) c1) l) := H5.out.below (bel_out hwn)
              clear hwn H5 ca cb
              go_wp2
              go_roundw
              case rel => exact ⟨q, q + 1, rfl, by go_num, by omega, by omega, by omega, HS'.out.symm, H6⟩
              case measure => simp [intOf]; omega
            · have HS' : Hid (amin l (q + 1) = m) := by have := HS.out; rw [if_neg hAB] at this; exact this
              have hAB' : decide (A < B) = false := by simpa using hAB
              clear HS hAB
              go_wp2
              refine wp_region_bel (by kernel_rfl) (by kernel_rfl) (fun _ => ?_)
              repeat (go_big_quiet_step (fail))
              refine wpQuiet_nil ?_
              intro wn hwn
              have H6 : Hid (HV w wn gs (1 + K) mb4 L4 F' (.slice (some ⟨g, 0, none⟩) (M + 1) c1) l) := H5.out.below (bel_out hwn)
              clear hwn H5 ca cb
              go_wp2
              go_roundw
              case rel => exact ⟨m, q + 1, rfl, by go_num, by omega, by omega, by omega, HS'.out.symm, H6⟩
              case measure => simp [intOf]; omega
          · obtain rfl : q = M + 1 := by omega
            have hq2 : decide (((M + 1 : Nat) : Int) < ((M + 1 : Nat) : Int)) = false := by simp
            have cl := hcell M (by omega) ⟨wr, Below.refl _ _⟩
            have cm := hcell m hmM ⟨wr, Below.refl _ _⟩
            obtain ⟨Z, hZ⟩ : ∃ Z, l.getD M 0 = Z := ⟨_, rfl⟩
            rw [hZ] at cl
            simp only at cl cm
            have O9 := H5.out.own
            rw [← HL1.out] at O9
            have fm := O9.frozenAt m
            clear O9
            have HLM : Hid (m = amin l l.length) := by unfold Hid; rw [← HL1.out]; exact HM.out
            have H7 : Hid (HV w (wr.setCell ⟨g, m, none⟩ (.int .i64 Z)) gs (1 + K) mb4 L4 F' (.slice (some ⟨g, 0, none⟩) M c1) (cutA l (amin l l.length))) := by
              have := H5.out
              rw [HL1.out] at this
              have h2 := this.cut m (by rw [← HL1.out]; omega)
              rw [← HL1.out] at h2
              rw [← HL1.out] at HLM
              simp only [Nat.add_sub_cancel, hZ] at h2
              unfold Hid
              rw [← HL1.out, ← HLM.out]
              exact h2
            obtain ⟨l', hl'⟩ : ∃ l', cutA l (amin l l.length) = l' := ⟨_, rfl⟩
            have H7L : Hid (M = l'.length) := by unfold Hid; rw [← hl', cutA_len, ← HL1.out]; rfl
            rw [hl'] at H7 HIF
            clear hl' hcell hZ HLM HM
            have H8 : Hid (HV w ((wr.setCell ⟨g, m, none⟩ (.int .i64 Z)).alloc (.cells #[.int .i64 U] 3)) gs (1 + K) mb4 L4 F' (.slice (some ⟨g, 0, none⟩) M c1) l') := H7.out.below ((Below.refl _ _).alloc (Nat.le_refl _) _)
            have H8L := H7L
            have H8O : Hid (((wr.setCell ⟨g, m, none⟩ (.int .i64 Z)).alloc (.cells #[.int .i64 U] 3)).ownsRow w.heap.size 3 1 (.slice (some ⟨g, 0, none⟩) M c1) M (iC l')) := by have := H8.out.own; rw [← H8L.out] at this; exact this
            have H8S := H8.out.lw.bel.size
            have H8R : Row ((wr.setCell ⟨g, m, none⟩ (.int .i64 Z)).alloc (.cells #[.int .i64 U] 3)) (.slice (some ⟨(wr.setCell ⟨g, m, none⟩ (.int .i64 Z)).heap.size, 0, none⟩) 1 1) 1 [.int .i64 U] := Row.of_blk (Blk.new _ #[.int .i64 U] 3) rfl 1 1
            rw [World.size_setCell] at H8R
            go_wp2_with ((at_builtin; refine wpList_appG _ rfl (.tmp 102) (.tmp 104) 57 3 i0 _ 1 8 Try.underlying57 hi hz0 hz1 hz2 rfl (by decide) rfl w.heap.size _ M (iC l') rfl H8O.out _ 1 [.int .i64 U] rfl H8R rfl (fun v hv => by simp at hv; subst hv; rfl) (by omega) (by unfold maxLen; omega) H8S ?_; intro v6 w6 h1 h3 h4; obtain ⟨y6, c6, hv6⟩ := row_shape h1; subst hv6; have H6 : Hid (HV w w6 gs (1 + K) mb4 L4 F' (.slice y6 (M + 1) c6) (l' ++ [U])) := HV.app H8.out (by rw [← H8L.out]; exact h1) h3 h4; clear h1 h3 h4))
            go_roundw
            case rel => exact ⟨j + 1, M + 1, c6, y6, l' ++ [U], mb4, L4, F', rfl, by go_num, by omega, by omega, ⟨HIF.out, by rw [List.length_append, ← H7L.out]; rfl⟩, H6⟩
            case measure => simp [intOf]; omega
      · have hNe : ((N : Int) == 1 + (K : Int)) = false := by rw [beq_eq_false_iff_ne]; omega
        have HIF : Hid (RmP (1 + K) (j + 1) F' (l ++ [U])) := by have := HST.out; rw [if_neg (by rw [← HP.out.2]; exact hNK)] at this; exact this
        have hN6 : N ≤ 16 := by have := HP.out.1.few; have := HP.out.1.len; have := HP.out.2; omega
        go_wp2_with (first
          | (go_at_call 25; go_must (rw [← hU]); clear hU; go_must (refine (set_any _ _ _ _).mono ?_); rintro e w3 ⟨g3, rfl, k3, hg3, b3⟩; have hp := SETP.out w3 g3 k3 (next ((Below.refl wr.heap.size wr).alloc (Nat.le_refl _) _) b3); clear k3 b3 SETP)
          | (go_at_call 14; go_must (refine hp.mono ?_); rintro e w4 ⟨rfl, mb4, L4, H4⟩; have H4' : Hid (HV w w4 gs (1 + K) mb4 L4 F' (.slice y N c1) l) := H4; have hal := H4.lw.all NF HNF.out; clear hp H4)
          | (go_at_call 11; refine (num_any _ _).mono ?_; rintro e w' ⟨rfl, hw⟩; obtain rfl := hw.symm)
          | (go_at_call 22; go_must (refine hal.mono ?_); rintro e w5 ⟨y5, c5, M5, rfl, es5, hf5, hl5, lw5, b5⟩; have H5 : Hid (HV w (w5.alloc (.cells #[.int .i64 U] 3)) gs (1 + K) mb4 L4 F' (.slice y N c1) l) := (H4'.out.below b5).below ((Below.refl _ _).alloc (Nat.le_refl _) _); have H5L : Hid (N = l.length) := HP.out.2; have H5O : Hid ((w5.alloc (.cells #[.int .i64 U] 3)).ownsRow w.heap.size 3 1 (.slice y N c1) N (iC l)) := (by have := H5.out.own; rw [← H5L.out] at this; exact this); have H5S := H5.out.lw.bel.size; have H5R : Row (w5.alloc (.cells #[.int .i64 U] 3)) (.slice (some ⟨w5.heap.size, 0, none⟩) 1 1) 1 [.int .i64 U] := Row.of_blk (Blk.new w5 #[.int .i64 U] 3) rfl 1 1; clear es5 hf5 hl5 lw5 b5 hal H4')
          | (at_builtin; refine wpList_appG _ rfl (.tmp 102) (.tmp 104) 57 3 i0 _ 1 8 Try.underlying57 hi hz0 hz1 hz2 rfl (by decide) rfl w.heap.size _ N (iC l) rfl H5O.out _ 1 [.int .i64 U] rfl H5R rfl (fun v hv => by simp at hv; subst hv; rfl) (by omega) (by unfold maxLen; omega) H5S ?_; intro v6 w6 h1 h3 h4; obtain ⟨y6, c6, hv6⟩ := row_shape h1; subst hv6; have H6 : Hid (HV w w6 gs (1 + K) mb4 L4 F' (.slice y6 (N + 1) c6) (l ++ [U])) := HV.app H5.out (by rw [← H5L.out]; exact h1) h3 h4; clear h1 h3 h4))
        go_roundw
        case rel => exact ⟨j + 1, N + 1, c6, y6, l ++ [U], mb4, L4, F', rfl, by go_num, by omega, by omega, ⟨HIF.out, by rw [List.length_append, HP.out.2]; rfl⟩, H6⟩
        case measure => simp [intOf]; omega
    · have he : decide (j < n) = false ∨ (j < n ∧ decide ((j : Int) < 60) = false) := by
        by_cases h : j < n
        · exact .inr ⟨h, by simp; omega⟩
        · exact .inl (by simp; omega)
      clear hlt
      have HLF : Hid (F.length = N) := by unfold Hid; rw [HP.out.2]; exact HP.out.1.len.symm
      have HAL : Hid (∀ M : List (En × Value), fstL M = allP F → ∀ q (h : q < M.length), (M[q]).1.u ∈ l) := fun M hM q h => by
        have h1 : (M[q]).1 ∈ fstL M := List.mem_map.2 ⟨_, List.getElem_mem _, rfl⟩
        rw [hM] at h1
        have h2 := (all_perm F).mem_iff.1 h1
        exact HP.out.1.perm.mem_iff.2 (List.mem_map.2 ⟨_, h2, rfl⟩)
      have hal := HH.out.lw.all N HLF.out
      have HL2 : Hid (N = l.length) := HP.out.2
      have HO : Hid (wr.ownsRow w.heap.size 3 1 (.slice y N c1) N (iC l)) := by have := HH.out.own; rw [← HL2.out] at this; exact this
      have HB : Hid (Below w.heap.size w wr) := HH.out.lw.bel
      have hN6 : N ≤ 16 := by have := HP.out.1.few; have := HLF.out; omega
      clear HH HP
      rcases he with he | ⟨he, he2⟩
      all_goals
        go_wp2_with (go_at_call 22; go_must (refine hal.mono ?_); rintro e w5 ⟨y5, c5, M5, rfl, es5, hf5, hl5, lw5, b5⟩; have HO5 : Hid (w5.ownsRow w.heap.size 3 1 (.slice y N c1) N (iC l)) := own_past HO.out b5; have HE5 : Hid (w5.ownsRow w.heap.size 36 6 (.slice y5 N c5) N (eC M5)) := (by have := es5.own; rw [hl5] at this; exact own_base this HB.out.size); have HB5 : Hid (Below w.heap.size w w5) := next HB.out b5; have HA5 : Hid (∀ q (h : q < M5.length), (M5[q]).1.u ∈ l) := HAL.out M5 hf5; have HM5 : Hid (M5.length = N) := hl5; clear es5 hf5 hl5 lw5 b5 hal HO HB HAL)
        go_loopw [15] (fun qv wq => ∃ q : Nat, qv = .int .i64 (q : Int) ∧ q ≤ N ∧ Hid (wq.ownsRow w.heap.size 3 1 (.slice y N c1) N (iC l)) ∧ Hid (wq.ownsRow w.heap.size 36 6 (.slice y5 N c5) N (eC M5)) ∧ Hid (Below w.heap.size w wq)) (fun q _ => N - (intOf q).toNat)
        case atStart => exact ⟨0, rfl, Nat.zero_le _, HO5, HE5, HB5⟩
        case round =>
          clear HO5 HE5 HB5 he
          try clear he2
          obtain ⟨q, rfl, hqN, HO5, HE5, HB5⟩ := hrel
          by_cases hq : q < N
          · have hq2 : (q : Int) < (N : Int) := by omega
            obtain ⟨g, cap, hy, _, _⟩ := HO5.out.form (by omega)
            simp only [Value.slice.injEq, true_and] at hy
            obtain ⟨rfl, rfl⟩ := hy
            obtain ⟨g5, cap5, hy5, _, _⟩ := HE5.out.form (by omega)
            simp only [Value.slice.injEq, true_and] at hy5
            obtain ⟨rfl, rfl⟩ := hy5
            have hqm : q < M5.length := by have := HM5.out; omega
            obtain ⟨Y, hY⟩ : ∃ Y, Y = (M5[q]).1.u := ⟨_, rfl⟩
            have HY : Hid (Y = (M5[q]).1.u) := hY
            have HIN : Hid (Y ∈ l) := by unfold Hid; rw [hY]; exact HA5.out q hqm
            clear hY
            go_wp2
            go_loopw [16, 17] (fun fv pv wq => ∃ (b : Bool) (p : Nat), fv = .bool b ∧ pv = .int .i64 (p : Int) ∧ p ≤ N ∧ Hid (b = (l.take p).any (fun x => x == Y)) ∧ Hid (wq.ownsRow w.heap.size 3 1 (.slice (some ⟨g, 0, none⟩) N c1) N (iC l)) ∧ Hid (wq.ownsRow w.heap.size 36 6 (.slice (some ⟨g5, 0, none⟩) N c5) N (eC M5)) ∧ Hid (Below w.heap.size w wq)) (fun _ p _ => N - (intOf p).toNat)
            case atStart => exact ⟨false, 0, rfl, rfl, Nat.zero_le _, rfl, HO5, HE5, HB5⟩
            case round =>
              clear HO5 HE5 HB5
              obtain ⟨b, p, rfl, rfl, hpN, HBP, HO5, HE5, HB5⟩ := hrel
              by_cases hp : p < N
              · have hp2 : (p : Int) < (N : Int) := by omega
                have hpl : p < l.length := by have := HL2.out; omega
                have ca : ∀ nb : Bel wr, nb.to.cell? ⟨g, p, none⟩ = some (.int .i64 l[p]) := fun nb => by
                  rw [(own_past HO5.out nb.h).cellAt p (by omega)]
                  exact iC_at hpl
                have cb : ∀ nb : Bel wr, nb.to.cell? ⟨g5, q * 6 + 5, none⟩ = some (.int .i64 Y) := fun nb => by
                  rw [(own_past HE5.out nb.h).cellAt (q * 6 + 5) (by omega), eC_at hqm 5 (by decide), HY.out]
                  rfl
                obtain ⟨A, hA⟩ : ∃ A, A = l[p] := ⟨_, rfl⟩
                rw [← hA] at ca
                obtain ⟨r, hr⟩ : ∃ r, (A == Y) = r := ⟨_, rfl⟩
                have HS : Hid ((l.take (p + 1)).any (fun x => x == Y) = (b || r)) := by
                  unfold Hid
                  rw [List.take_succ_eq_append_getElem hpl, List.any_append, ← HBP.out, ← hA, ← hr]
                  simp
                clear hA
                cases b with
                | true =>
                  go_wp2
                  refine wp_region_bel (by kernel_rfl) (by kernel_rfl) (fun _ => ?_)
                  repeat (go_big_quiet_step (fail))
                  refine wpQuiet_nil ?_
                  intro wn hwn
                  have hbn := bel_out hwn
                  have O6 : Hid (wn.ownsRow w.heap.size 3 1 (.slice (some ⟨g, 0, none⟩) N c1) N (iC l)) := own_past HO5.out hbn
                  have E6 : Hid (wn.ownsRow w.heap.size 36 6 (.slice (some ⟨g5, 0, none⟩) N c5) N (eC M5)) := own_past HE5.out hbn
                  have B6 : Hid (Below w.heap.size w wn) := next HB5.out hbn
                  clear hwn hbn ca cb HO5 HE5 HB5
                  go_wp2
                  go_roundw
                  case rel => exact ⟨true, p + 1, rfl, by go_num, by omega, HS.out.symm, O6, E6, B6⟩
                  case measure => simp [intOf]; omega
                | false =>
                  go_wp2
                  refine wp_region_bel (by kernel_rfl) (by kernel_rfl) (fun _ => ?_)
                  repeat (go_big_quiet_step (fail))
                  refine wpQuiet_nil ?_
                  intro wn hwn
                  have hbn := bel_out hwn
                  have O6 : Hid (wn.ownsRow w.heap.size 3 1 (.slice (some ⟨g, 0, none⟩) N c1) N (iC l)) := own_past HO5.out hbn
                  have E6 : Hid (wn.ownsRow w.heap.size 36 6 (.slice (some ⟨g5, 0, none⟩) N c5) N (eC M5)) := own_past HE5.out hbn
                  have B6 : Hid (Below w.heap.size w wn) := next HB5.out hbn
                  clear hwn hbn ca cb HO5 HE5 HB5
                  go_wp2
                  go_roundw
                  case rel => exact ⟨r, p + 1, rfl, by go_num, by omega, HS.out.symm, O6, E6, B6⟩
                  case measure => simp [intOf]; omega
              · obtain rfl : p = N := by omega
                have hb : b = true := by
                  rw [HBP.out, List.any_eq_true]
                  refine ⟨Y, ?_, by simp⟩
                  rw [List.take_of_length_le (by rw [← HL2.out]; exact Nat.le_refl _)]
                  exact HIN.out
                subst hb
                have hp2 : decide (p < p) = false := by simp
                go_wp2
                go_roundw
                case rel => exact ⟨q + 1, by go_num, by omega, HO5, HE5, HB5⟩
                case measure => simp [intOf]; omega
          · obtain rfl : q = N := by omega
            have hq2 : decide (q < q) = false := by simp
            go_wp2_with (go_at_call 11; refine (num_any _ _).mono ?_; rintro e w' ⟨rfl, hw⟩; obtain rfl := hw.symm)
            go_ret
            exact ⟨ret_bool (by simp), HB5.out⟩

theorem own : ownKnob Try.prog.godebug = none := by kernel_rfl
theorem laidOut : laidOutB Try.prog = true := by kernel_rfl

set_option maxRecDepth 100000 in
theorem lifted (os : Os) (started : os.Started) (H : Type) (enc : TypeId × Value → H) :
    ReturnsInHanded {} Try.checked os 5 .any (Rows.storeRoomSpec.pre6 enc Try.prog Try.f5 Rows.storeRoomRow.domain false) (Rows.storeRoomSpec.post enc Try.prog Try.f5 false true false false) := by
  refine returnsInHanded_of_change (C := Try.checked) own started (by kernel_rfl) Try.func5
    (ChangeSpec.witness6 (enc := enc) (C := Try.checked) false ⟨#[], #[.int .i64 0, .slice none 0 0], []⟩ 8 (by kernel_rfl) (by kernel_rfl) (by kernel_rfl) (by kernel_rfl)) ?_
  intro W base args ds gs before hval0 hW _ _
  have hval : ∀ (j : Nat) t v, Try.f5.params[j]? = some t → args[j]? = some v → Value.okWide Try.prog W .any base t v := hval0
  have hW' := hW
  obtain ⟨p, q, hA0, hV, rfl, hfz, hnd⟩ := hW
  have hA : DataW.TrodAll enc Try.prog W 0 (fun _ => true) true Try.f5.params.toList args.toList ds p := hA0
  rw [Try.params5] at hA hval
  obtain ⟨v0, vs0, d0, ds0, p0, q0, hargs, rfl, rfl, h0, r0⟩ := trodAll_cons hA
  obtain ⟨v1, vs1, d1, ds1, p1, q1, rfl, rfl, rfl, h1, r1⟩ := trodAll_cons r0
  obtain ⟨rfl, rfl, rfl⟩ := trodAll_nil r1
  obtain rfl : args = #[v0, v1] := by cases args; simp_all
  obtain ⟨rfl, rfl⟩ := trodVars_none hV
  obtain ⟨a0, rfl, rfl, rfl, w0⟩ := open_int Try.underlying3 (hval 0 3 v0 rfl rfl) h0
  obtain ⟨a1, w1⟩ := open_irow (hval 1 57 v1 rfl rfl) h1
  have hlt1 : ∀ x ∈ p1, x.block < W.heap.size := fun x hx => by
    have := hW'.lt x (by simp [hx])
    simpa using this
  clear hA0 hval0
  simp only [List.append_nil] at hW'
  refine (walk a0 v1 a1 w0 W w1).mono fun e W' ⟨he, bel⟩ => ?_
  subst he
  exact ⟨_, rfl, _, _, _, [], _, [], hW', trodAll_mk1 (shut_bool Try.underlying4 _), (trodAll_cons_mk (shut_int Try.underlying3 w0) (trodAll_cons_mk (Below.trod laidOut (by kernel_rfl) (of_decide_eq_true (by kernel_rfl)) h1 bel hlt1) trodAll_mk0)), rfl, bel.frame _, fun h => by cases h⟩

/-- The statement. -/
theorem proved : Rows.StoreRoomSaid :=
  OpenClaim.holds_of_wide 5 Try.f5 rfl rfl rfl rfl rfl rfl rfl ⟨rfl, rfl, rfl, rfl, rfl⟩ rfl rfl rfl rfl rfl (by kernel_rfl) Try.func5 (by kernel_rfl)
    (of_decide_eq_true (by kernel_rfl)) (by unfold Func.isWrapper; first | (rw [if_pos (by decide +kernel)]; kernel_rfl) | (rw [if_neg (by decide +kernel)]; exact ⟨rfl, rfl⟩))
    (fun os started H enc _ => lifted os started H enc)
#print axioms proved

end Go.Proofs.Ytcmhjlflgedcdaa.storeRoom
