/- CutsDeep holds: for every two rows of numbers and every tick, the deepest live cut above a name is it; when it ends the next one is. -/
import Derived.Test.YtnjgdfmldjgloaaXCwB
import Derived.Test.YtnjgdfmldjgloaaXInA
import Derived.ProofKit
import Derived.OpenShut
import Derived.ShutString
namespace Go.Proofs.Ytnjgdfmldjgloaa.cutsDeep
open Go.ChangeShapes Go.WideShapes Go.ChangeAt Go.RowKit
open Go.ChangeMaps (open_string shut_string)
open Pl

/-- How far the first loop is. -/
def DX (w wr : World) (o : Cu.OB) (j : Nat) (NM : ByteArray) (v1 v2 : Value) : Prop :=
  ∃ (Ls : List UInt8) (Us : List Int) (F : List Cu.Ct), Ls.length = j ∧ NM = Cu.nK Ls Ls.length ∧ Cu.FDeep Ls Us F ∧ Cu.DW w wr o F v1 j (tC (Cu.namesD Ls)) v2 j (Cu.iC Us)

set_option maxRecDepth 20000 in
set_option maxHeartbeats 8000000 in
theorem walk (v0 : Value) (ls : List Int) (v1 : Value) (ts : List Int) (now : Int) (_ : (Lit.int .i64 now).wf = true) (w : World) (hr0 : Row w v0 ls.length (iC ls) ∧ ls.length ≤ maxLen) (hr1 : Row w v1 ts.length (iC ts) ∧ ts.length ≤ maxLen) :
    Calls Try.prog 6 #[v0, v1, .int .i64 now] w fun e w' => e = .returned (.bool true) ∧ Below w.heap.size w w' := by
  obtain ⟨i9, hi9, hz90, hz91, hz92⟩ := info_parts info9'
  obtain ⟨i3, hi3, hz30, hz31, hz32⟩ := info_parts Cu.infoI
  obtain ⟨x0, c0, rfl, _⟩ := hr0.1.src
  obtain ⟨x1, c1, rfl, _⟩ := hr1.1.src
  obtain ⟨n0, hn0⟩ : ∃ n, n = ls.length := ⟨_, rfl⟩
  obtain ⟨n1, hn1⟩ : ∃ n, n = ts.length := ⟨_, rfl⟩
  have HN0 : Hid (n0 = ls.length) := hn0
  have HN1 : Hid (n1 = ts.length) := hn1
  have HR0 : Hid (Row w (.slice x0 n0 c0) n0 (iC ls)) := by unfold Hid; rw [hn0]; exact hr0.1
  have HR1 : Hid (Row w (.slice x1 n1 c1) n1 (iC ts)) := by unfold Hid; rw [hn1]; exact hr1.1
  have hm0 : n0 ≤ maxLen := by rw [hn0]; exact hr0.2
  have hm1 : n1 ≤ maxLen := by rw [hn1]; exact hr1.2
  unfold maxLen at hm0 hm1
  rw [← hn0, ← hn1]
  obtain ⟨M, hM, hMb⟩ : ∃ M : Nat, M < 256 ∧ bits .and .i64 now 255 = (M : Int) := by
    refine ⟨(now % 256).toNat, by omega, ?_⟩
    have := mask now 8 (by decide)
    simp only [Nat.reducePow, Nat.reduceSub] at this
    have e : bits .and .i64 now 255 = now % 256 := this
    rw [e]; omega
  have hobj := Cu.obj_some
  clear hr0 hr1 hn0 hn1
  go_enter Try.func6, Try.ntmps6
  go_wp2_with (first
    | (go_at_call 8; go_must (refine (Cu.awake_any _).mono ?_); rintro e w1 ⟨rfl, b1⟩)
    | (go_at_call 10; go_must (refine (Cu.hints_any _).mono ?_); rintro e wh ⟨rfl, rfl⟩)
    | (go_at_call 9; go_must (refine (Cu.lw_hints (M := fun _ => False) b1 (fun _ h => h.elim)).mono ?_); rintro e w2 ⟨o, rfl, s2, _⟩; have HD0 : Hid (DX w w2 o 0 ⟨#[0]⟩ (.slice none 0 0) (.slice none 0 0)) := ⟨[], [], [], rfl, rfl, Cu.FDeep.start, Cu.DW.start s2⟩; clear b1 s2))
  go_loopw [9, 10, 11, 12] (fun n9 s10 s11 k wr => ∃ (j : Nat) (NM : ByteArray) (y1 : Option Addr) (q1 : Nat) (y2 : Option Addr) (q2 : Nat), j ≤ n0 ∧ j ≤ n1 ∧ j ≤ 9 ∧ n9 = .string NM ∧ s10 = .slice y1 j q1 ∧ s11 = .slice y2 j q2 ∧ k = .int .i64 (j : Int) ∧ Hid (DX w wr o j NM (.slice y1 j q1) (.slice y2 j q2))) (fun _ _ _ k _ => 9 - (intOf k).toNat)
  case atStart => exact ⟨0, _, none, 0, none, 0, Nat.zero_le _, Nat.zero_le _, Nat.zero_le _, rfl, rfl, rfl, rfl, HD0⟩
  case round =>
    clear HD0
    obtain ⟨j, NM, y1, q1, y2, q2, hj0, hj1, hj9, rfl, rfl, rfl, rfl, HX⟩ := hrel
    by_cases hlt : j < n0 ∧ j < n1 ∧ j < 9
    · obtain ⟨h0, h1, h9⟩ := hlt
      have h0' : (j : Int) < (n0 : Int) := by omega
      have h1' : (j : Int) < (n1 : Int) := by omega
      have h9' : (j : Int) < 9 := by omega
      obtain ⟨Ls, Us, F, hL, hNM, hF, hW⟩ := HX.out
      have hjm0 : j < ls.length := by have := HN0.out; omega
      have hjm1 : j < ts.length := by have := HN1.out; omega
      obtain ⟨g0, o0, cp0, hx, hc0⟩ := row_at (HR0.out.below hW.lw.bel) (by omega)
      simp only [Value.slice.injEq] at hx
      obtain ⟨rfl, -, rfl⟩ := hx
      obtain ⟨g1, o1, cp1, hx, hc1⟩ := row_at (HR1.out.below hW.lw.bel) (by omega)
      simp only [Value.slice.injEq] at hx
      obtain ⟨rfl, -, rfl⟩ := hx
      have e0 := hc0 j _ (iC_at hjm0)
      have e1 := hc1 j _ (iC_at hjm1)
      obtain ⟨p, hp⟩ : ∃ p, p = ls[j] := ⟨_, rfl⟩
      obtain ⟨t, ht⟩ : ∃ t, t = ts[j] := ⟨_, rfl⟩
      rw [← hp] at e0
      rw [← ht] at e1
      obtain ⟨a, ha, hab⟩ : ∃ a : Nat, a < 8 ∧ bits .and .i64 p 7 = (a : Int) := by
        refine ⟨(p % 8).toNat, by omega, ?_⟩
        have := mask p 3 (by decide)
        simp only [Nat.reducePow, Nat.reduceSub] at this
        have e : bits .and .i64 p 7 = p % 8 := this
        rw [e]; omega
      obtain ⟨T, hT, hTb⟩ : ∃ T : Nat, T < 128 ∧ bits .and .i64 t 127 = (T : Int) := by
        refine ⟨(t % 128).toNat, by omega, ?_⟩
        have := mask t 7 (by decide)
        simp only [Nat.reducePow, Nat.reduceSub] at this
        have e : bits .and .i64 t 127 = t % 128 := this
        rw [e]; omega
      have hw1 : IntKind.u8.wrap (a : Int) = (a : Int) := by
        have : IntKind.u8.wrap (a : Int) = (a : Int) % 256 := by simp [IntKind.wrap, IntKind.bits, IntKind.signed]
        rw [this]; omega
      obtain ⟨B, hB⟩ : ∃ B : Nat, B = 97 + a := ⟨_, rfl⟩
      have hw2 : IntKind.u8.wrap (97 + (a : Int)) = (B : Int) := by
        have : IntKind.u8.wrap (97 + (a : Int)) = (97 + (a : Int)) % 256 := by simp [IntKind.wrap, IntKind.bits, IntKind.signed]
        rw [this]; omega
      obtain ⟨bb, hbb⟩ : ∃ bb : UInt8, bb = UInt8.ofNat B := ⟨_, rfl⟩
      have hbn : bb.toNat = B := by rw [hbb, UInt8.toNat_ofNat']; omega
      have cv1 : (convert 53 9 (.slice (some ⟨wr.heap.size, 0, none⟩) 1 1)).run Try.prog (wr.alloc (.cells #[.int .u8 (B : Int)] 5)) = _ := Cu.one_byte B _ _ (by omega) (Blk.new wr #[.int .u8 (B : Int)] 5)
      rw [← hbb] at cv1
      have zz1 : ∀ u : World, (Op.stringOp .add ⟨#[1]⟩ ⟨#[bb]⟩).run Try.prog u = .ok (.string (⟨#[1]⟩ ++ ⟨#[bb]⟩)) u := fun u => run_string_add_sum u _ ⟨#[bb]⟩ (by show 1 + 1 ≤ maxLen; decide)
      obtain ⟨D2, hD2⟩ : ∃ D : ByteArray, (⟨#[1]⟩ : ByteArray) ++ ⟨#[bb]⟩ = D := ⟨_, rfl⟩
      rw [hD2] at zz1
      obtain ⟨ND, hND⟩ : ∃ ND, ND = Cu.nK (Ls ++ [bb]) (Ls.length + 1) := ⟨_, rfl⟩
      have hsum : D2 ++ NM = ND := by rw [hND, hNM, ← hD2]; exact Cu.name_more bb Ls
      have zz2 : ∀ u : World, (Op.stringOp .add D2 NM).run Try.prog u = .ok (.string ND) u := fun u => by
        rw [← hsum]
        exact run_string_add_sum u D2 NM (by rw [← hD2, ByteArray.size_append, hNM, Cu.nK_size (Nat.le_refl _)]; show 2 + (2 * Ls.length + 1) ≤ maxLen; unfold maxLen; omega)
      have hput := hF.put (b := bb) (a := (j : Int)) (t := 1 + (T : Int)) (by omega) ⟨by omega, by omega⟩ (fun e => by have := congrArg UInt8.toNat e; rw [hbn] at this; have h113 : (113 : UInt8).toNat = 113 := rfl; omega) (by unfold Cu.wideB; rw [decide_eq_true (by omega), decide_eq_true (by omega)]; rfl) (by omega) (by omega)
      rw [← hND, ← hNM] at hput
      obtain ⟨F', hF'⟩ : ∃ F', Cu.putC F (Cu.delD ND (j : Int) (1 + (T : Int))) NM 10 = F' := ⟨_, rfl⟩
      rw [hF'] at hput
      have HPUT : Hid (Cu.errC (Cu.delD ND (j : Int) (1 + (T : Int))) NM 10 = 0 ∧ Cu.putC F (Cu.delD ND (j : Int) (1 + (T : Int))) NM 10 = F' ∧ Cu.FDeep (Ls ++ [bb]) (Us ++ [10 + (1 + (T : Int))]) F') := ⟨hput.1, hF', hput.2⟩
      have HLL : Hid (Ls.length = j ∧ ND = Cu.nK (Ls ++ [bb]) (Ls.length + 1)) := ⟨hL, hND⟩
      have HSZ : Hid (ND.size ≤ 100000 ∧ NM.size ≤ maxLen) := ⟨by rw [hND, Cu.nK_size (by simp)]; omega, by rw [hNM, Cu.nK_size (Nat.le_refl _)]; unfold maxLen; omega⟩
      have HWW : Hid (Cu.DW w (wr.alloc (.cells #[.int .u8 (B : Int)] 5)) o F (.slice y1 j q1) j (tC (Cu.namesD Ls)) (.slice y2 j q2) j (Cu.iC Us)) := hW.below (lay (Below.refl _ _) _)
      have e1' : ∀ ob : Obj, (wr.alloc ob).cell? ⟨g1, o1 + j, none⟩ = some (.int .i64 t) := fun ob => by rw [World.cell?_alloc_old _ _ _ (Nat.ne_of_lt (World.block_lt_of_cell? _ _ e1))]; exact e1
      clear hc0 hc1 hp ht hL hNM hF hW hB hbb hbn hD2 hND hsum hput hF' HX
      go_wp2_with (first
        | (go_at_call 22; go_must (refine (Cu.del_any ND (j : Int) (1 + (T : Int)) _).mono ?_); rintro e w3 ⟨X, Y, rfl, kx, ky, b3, _, _⟩; have hw3 := HWW.out.below b3; have hp3 := hw3.lw.put (Cu.din_del (cn := ND) kx ky HSZ.out.1) NM 10 HSZ.out.2 0 HPUT.out.1 F' HPUT.out.2.1; clear kx ky b3 e0 e1 e1' cv1)
        | (go_at_call 11; go_must (refine hp3.mono ?_); rintro e w4 ⟨rfl, lw4, T4⟩; have hw4 := hw3.turn lw4 T4; have hb5 : Below w4.heap.size w4 (w4.alloc (.cells #[.string ND] 9)) := lay (Below.refl _ _) _; have hr5 := (hw4.below hb5).r1; have kX5 := Blk.new w4 #[.string ND] 9; have hz5 : w.heap.size ≤ (w4.alloc (.cells #[.string ND] 9)).heap.size := (hw4.below hb5).lw.bel.size; clear hw3 hp3 lw4 T4)
        | (go_at_call 20; refine (num_any _ _).mono ?_; rintro e w' ⟨rfl, hw⟩; obtain rfl := hw.symm)
        | (at_builtin; refine wpList_appG _ rfl (.tmp 71) (.tmp 73) 30 9 i9 _ 1 16 Try.underlying30 hi9 hz90 hz91 hz92 rfl (by decide) rfl w.heap.size _ j (tC (Cu.namesD Ls)) rfl hr5 (.slice (some ⟨w4.heap.size, 0, none⟩) 1 1) 1 [.string ND] rfl (Row.of_blk kX5 rfl 1 1) rfl (by simp [Value.oneCell']) (by omega) (by unfold maxLen; omega) hz5 ?_; intro v6 w6 f1 f3 f4; have hw6 := hw4.app1 hb5 f1 f3 f4; obtain ⟨y6, q6, rfl⟩ := row_shape f1; have hb7 : Below w6.heap.size w6 (w6.alloc (.cells #[.int .i64 (10 + (1 + (T : Int)))] 3)) := lay (Below.refl _ _) _; have hr7 := (hw6.below hb7).r2; have kX7 := Blk.new w6 #[.int .i64 (10 + (1 + (T : Int)))] 3; have hz7 : w.heap.size ≤ (w6.alloc (.cells #[.int .i64 (10 + (1 + (T : Int)))] 3)).heap.size := (hw6.below hb7).lw.bel.size; clear f1 f3 f4 hw4 hb5 hr5 kX5 hz5)
        | (at_builtin; refine wpList_appG _ rfl (.tmp 75) (.tmp 78) 48 3 i3 _ 1 8 Try.underlying48 hi3 hz30 hz31 hz32 rfl (by decide) rfl w.heap.size _ j (Cu.iC Us) rfl hr7 (.slice (some ⟨w6.heap.size, 0, none⟩) 1 1) 1 [.int .i64 (10 + (1 + (T : Int)))] rfl (Row.of_blk kX7 rfl 1 1) rfl (by simp [Value.oneCell']) (by omega) (by unfold maxLen; omega) hz7 ?_; intro v8 w8 f1 f3 f4; have hw8 := hw6.app2 hb7 f1 f3 f4; obtain ⟨y8, q8, rfl⟩ := row_shape f1; have HW8 : Hid _ := hw8; clear f1 f3 f4 hw6 hb7 hr7 kX7 hz7 hw8))
      have HD8 : Hid (DX w w8 o (j + 1) ND (.slice y6 (j + 1) q6) (.slice y8 (j + 1) q8)) := ⟨Ls ++ [bb], Us ++ [10 + (1 + (T : Int))], F', by simp [HLL.out.1], by rw [HLL.out.2]; simp, HPUT.out.2.2, by
        have := HW8.out
        rw [Cu.namesD_snoc, tC_app, ← HLL.out.2, Cu.iC_app]
        exact this⟩
      clear HW8
      go_roundw
      case rel => exact ⟨j + 1, ND, y6, q6, y8, q8, by omega, by omega, by omega, rfl, rfl, rfl, by go_num, HD8⟩
      case measure => simp [intOf]; omega
    · have he : decide (j < n0) = false ∨ (j < n0 ∧ decide (j < n1) = false) ∨ (j < n0 ∧ j < n1 ∧ decide ((j : Int) < 9) = false) := by
        by_cases h : j < n0
        · by_cases h1 : j < n1
          · exact .inr (.inr ⟨h, h1, by simp; omega⟩)
          · exact .inr (.inl ⟨h, by simp; omega⟩)
        · exact .inl (by simp; omega)
      obtain ⟨we, hwe⟩ : ∃ z, z = wr := ⟨_, rfl⟩
      subst hwe
      obtain ⟨Ls, Us, F, hL, hNM, hF, hW⟩ := HX.out
      obtain ⟨m, hm⟩ : ∃ m : Int, 10 + (M : Int) = m := ⟨_, rfl⟩
      obtain ⟨ZN, hZN⟩ : ∃ ZN : ByteArray, (⟨#[1, 122]⟩ : ByteArray) ++ NM = ZN := ⟨_, rfl⟩
      have hnz : NM.size ≤ 100 := by rw [hNM, Cu.nK_size (Nat.le_refl _)]; omega
      have zz3 : ∀ u : World, (Op.stringOp .add ⟨#[1, 122]⟩ NM).run Try.prog u = .ok (.string ZN) u := fun u => by
        rw [← hZN]
        exact run_string_add_sum u _ NM (by show 2 + NM.size ≤ maxLen; unfold maxLen; omega)
      have hzz : ZN.size ≤ maxLen := by rw [← hZN, ByteArray.size_append]; show 2 + NM.size ≤ maxLen; unfold maxLen; omega
      have HZZ : Hid (ZN.size ≤ maxLen ∧ NM.size ≤ maxLen) := ⟨hzz, by unfold maxLen; omega⟩
      obtain ⟨WN, hWN⟩ : ∃ WN, WN = Cu.wantK Ls Us m j := ⟨_, rfl⟩
      have HD1 : Hid (Cu.deepF F ZN m = WN) := by
        have h1 := Cu.deep_under hF m
        rw [← Cu.name_under, ← hNM, hZN, hL, ← hWN] at h1
        exact h1
      have HD2 : Hid (Cu.deepF F NM m = WN) := by
        have h1 := Cu.deep_at hF m
        rw [← hNM, hL, ← hWN] at h1
        exact h1
      have HD3 : Hid (Cu.deepF F ⟨#[1, 113, 0]⟩ m = ⟨#[0]⟩) := Cu.deep_q hF m
      have HWN : Hid (WN = Cu.wantK Ls Us m j) := hWN
      have HWE : Hid (Cu.DW w we o F (.slice y1 j q1) j (tC (Cu.namesD Ls)) (.slice y2 j q2) j (Cu.iC Us)) := hW
      have HLU : Hid (Ls.length = j ∧ Us.length = j) := ⟨hL, by rw [hF.ulen]; exact hL⟩
      clear hlt hL hNM hF hW HX hnz hzz hZN hWN
      rcases he with he | ⟨he, he2⟩ | ⟨he, he1, he2⟩
      all_goals
        go_wp2
        go_loopw [17, 18] (fun s17 k wr => wr = we ∧ ∃ (i : Nat) (S : ByteArray), i ≤ j ∧ s17 = .string S ∧ k = .int .i64 (i : Int) ∧ Hid (S = Cu.wantK Ls Us m i)) (fun _ k _ => j - (intOf k).toNat)
        case atStart => exact ⟨rfl, 0, _, Nat.zero_le _, rfl, rfl, rfl⟩
        case round =>
          obtain ⟨hwr, i, S, hij, rfl, rfl, HS⟩ := hrel
          subst hwr
          by_cases hi : i < j
          · have hi' : (i : Int) < (j : Int) := by omega
            obtain ⟨ga, ca, hxa, _, _⟩ := HWE.out.r1.form (by omega)
            simp only [Value.slice.injEq] at hxa
            obtain ⟨rfl, -, rfl⟩ := hxa
            obtain ⟨gb, cb, hxb, _, _⟩ := HWE.out.r2.form (by omega)
            simp only [Value.slice.injEq] at hxb
            obtain ⟨rfl, -, rfl⟩ := hxb
            have hiu : i < Us.length := by have := HLU.out.2; omega
            have hin : i < (Cu.namesD Ls).length := by rw [Cu.namesD_len]; have := HLU.out.1; omega
            have d1 := (lies_own HWE.out.r1).1 i _ (tC_at hin)
            have d2 := (lies_own HWE.out.r2).1 i (.int .i64 Us[i]) (by unfold Cu.iC; rw [List.getElem?_map, List.getElem?_eq_getElem hiu]; rfl)
            rw [Cu.namesD_at] at d1
            obtain ⟨uu, huu⟩ : ∃ uu, uu = Us[i] := ⟨_, rfl⟩
            obtain ⟨nn, hnn⟩ : ∃ nn, nn = Cu.nK Ls (i + 1) := ⟨_, rfl⟩
            rw [← huu] at d2
            rw [← hnn] at d1
            have HNX : Hid (Cu.wantK Ls Us m (i + 1) = if m < uu then nn else S) := by
              unfold Hid
              rw [Cu.wantK, List.getD_eq_getElem?_getD, List.getElem?_eq_getElem hiu, Option.getD_some, ← huu, ← hnn, ← HS.out]
            clear huu hnn hiu hin
            by_cases hmu : m < uu
            · have HS2 : Hid (nn = Cu.wantK Ls Us m (i + 1)) := by unfold Hid; rw [HNX.out, if_pos hmu]
              go_wp2
              go_roundw
              case rel => exact ⟨trivial, i + 1, nn, by omega, rfl, by go_num, HS2⟩
              case measure => simp [intOf]; omega
            · have hmu' : decide (m < uu) = false := by simpa using hmu
              have HS2 : Hid (S = Cu.wantK Ls Us m (i + 1)) := by unfold Hid; rw [HNX.out, if_neg hmu]
              clear hmu
              go_wp2
              go_roundw
              case rel => exact ⟨trivial, i + 1, S, by omega, rfl, by go_num, HS2⟩
              case measure => simp [intOf]; omega
          · have hi' : decide (i < j) = false := by simpa using hi
            obtain rfl : S = WN := by rw [HS.out, HWN.out, show i = j by omega]
            have t1 : True := trivial
            have t2 : True := trivial
            have hd1 := HWE.out.lw.deep ZN m HZZ.out.1 _ HD1.out
            clear hi
            go_wp2_with (first
              | (go_at_call 20; refine (num_any _ _).mono ?_; rintro e w' ⟨rfl, hw⟩; obtain rfl := hw.symm)
              | (go_at_call 13; have _t := t1; go_must (refine hd1.mono ?_); rintro e wa ⟨rfl, la, _⟩; have hd2 := la.deep NM m HZZ.out.2 _ HD2.out; clear t1 hd1 la)
              | (go_at_call 13; have _t := t2; go_must (refine hd2.mono ?_); rintro e wb ⟨rfl, lb, _⟩; have hd3 := lb.deep ⟨#[1, 113, 0]⟩ m (by decide) _ HD3.out; clear t2 hd2 lb)
              | (go_at_call 13; go_must (refine hd3.mono ?_); rintro e wd ⟨rfl, ld, _⟩; clear hd3))
            go_ret
            exact ⟨rfl, ld.bel⟩

theorem own : ownKnob Try.prog.godebug = none := by kernel_rfl
theorem laidOut : laidOutB Try.prog = true := by kernel_rfl

set_option maxRecDepth 100000 in
theorem lifted (os : Os) (started : os.Started) (H : Type) (enc : TypeId × Value → H) :
    ReturnsInHanded {} Try.checked os 6 .any (Rows.cutsDeepSpec.pre6 enc Try.prog Try.f6 Rows.cutsDeepRow.domain false) (Rows.cutsDeepSpec.post enc Try.prog Try.f6 false true false false) := by
  refine returnsInHanded_of_change (C := Try.checked) own started (by kernel_rfl) Try.func6
    (ChangeSpec.witness6 (enc := enc) (C := Try.checked) false ⟨#[], #[.slice none 0 0, .slice none 0 0, .int .i64 0], []⟩ 8 (by kernel_rfl) (by kernel_rfl) (by kernel_rfl) (by kernel_rfl)) ?_
  intro W base args ds gs before hval0 hW _ _
  have hval : ∀ (j : Nat) t v, Try.f6.params[j]? = some t → args[j]? = some v → Value.okWide Try.prog W .any base t v := hval0
  have hW' := hW
  obtain ⟨p, q, hA0, hV, rfl, hfz, hnd⟩ := hW
  have hA : DataW.TrodAll enc Try.prog W 0 (fun _ => true) true Try.f6.params.toList args.toList ds p := hA0
  rw [Try.params6] at hA hval
  obtain ⟨v0, vs0, d0, ds0, p0, q0, hargs, rfl, rfl, h0, r0⟩ := trodAll_cons hA
  obtain ⟨v1, vs1, d1, ds1, p1, q1, rfl, rfl, rfl, h1, r1⟩ := trodAll_cons r0
  obtain ⟨v2, vs2, d2, ds2, p2, q2, rfl, rfl, rfl, h2, r2⟩ := trodAll_cons r1
  obtain ⟨rfl, rfl, rfl⟩ := trodAll_nil r2
  obtain rfl : args = #[v0, v1, v2] := by cases args; simp_all
  obtain ⟨rfl, rfl⟩ := trodVars_none hV
  obtain ⟨a0, w0⟩ := open_irow (hval 0 48 v0 rfl rfl) h0
  obtain ⟨a1, w1⟩ := open_irow (hval 1 48 v1 rfl rfl) h1
  obtain ⟨a2, rfl, rfl, rfl, w2⟩ := open_int Try.underlying3 (hval 2 3 v2 rfl rfl) h2
  have hlt0 : ∀ x ∈ p0, x.block < W.heap.size := fun x hx => by
    have := hW'.lt x (by simp [hx])
    simpa using this
  have hlt1 : ∀ x ∈ p1, x.block < W.heap.size := fun x hx => by
    have := hW'.lt x (by simp [hx])
    simpa using this
  clear hA0 hval0
  simp only [List.append_nil] at hW'
  refine (walk v0 a0 v1 a1 a2 w2 W w0 w1).mono fun e W' ⟨he, bel⟩ => ?_
  subst he
  exact ⟨_, rfl, _, _, _, [], _, [], hW', trodAll_mk1 (shut_bool Try.underlying4 _), (trodAll_cons_mk (Below.trod laidOut (by kernel_rfl) (of_decide_eq_true (by kernel_rfl)) h0 bel hlt0) (trodAll_cons_mk (Below.trod laidOut (by kernel_rfl) (of_decide_eq_true (by kernel_rfl)) h1 bel hlt1) (trodAll_cons_mk (shut_int Try.underlying3 w2) trodAll_mk0))), rfl, bel.frame _, fun h => by cases h⟩

/-- The statement. -/
theorem proved : Rows.CutsDeepSaid :=
  OpenClaim.holds_of_wide 6 Try.f6 rfl rfl rfl rfl rfl rfl rfl ⟨rfl, rfl, rfl, rfl, rfl⟩ rfl rfl rfl rfl rfl (by kernel_rfl) Try.func6 (by kernel_rfl)
    (of_decide_eq_true (by kernel_rfl)) (by unfold Func.isWrapper; first | (rw [if_pos (by decide +kernel)]; kernel_rfl) | (rw [if_neg (by decide +kernel)]; exact ⟨rfl, rfl⟩))
    (fun os started H enc _ => lifted os started H enc)
#print axioms proved


end Go.Proofs.Ytnjgdfmldjgloaa.cutsDeep
