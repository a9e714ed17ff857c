/- CutsRoom holds: for every row of numbers and every number, there are never more cuts than may be held beside the root. -/
import Derived.Test.YtnjgdfmldjgloaaXCwD
import Derived.Test.YtnjgdfmldjgloaaXInA
import Derived.ProofKit
import Derived.OpenShut
import Derived.ShutString
namespace Go.Proofs.Ytnjgdfmldjgloaa.cutsRoom
open Go.ChangeShapes Go.WideShapes Go.ChangeAt Go.RowKit
open Go.ChangeMaps (open_string shut_string)
open Pl

theorem din_rm {w : World} {X i : Nat} (hi : i < 140) (t : Int) (kx : Blk w X #[.string ⟨#[1, 104, 0]⟩] 9) : Cu.DIn w (Cu.rmD i t) (.slice (some ⟨X, 0, none⟩) 1 1) (.slice none 0 0) :=
  ⟨Row.of_blk kx rfl 1 1, ⟨_, 1, rfl, Nat.le_refl _⟩, Row.nil _ _, show 1 ≤ maxLen by decide, show 0 ≤ maxLen by decide, by
    have := (name_some (Cu.num_f hi).nm).1
    have e := data_len (Cu.numb i)
    show (Cu.numb i).size ≤ maxLen
    unfold maxLen
    omega, fun z hz => by
    unfold Cu.rmD at hz
    simp at hz
    subst hz; decide, fun z hz => by
    unfold Cu.rmD at hz
    simp at hz⟩

set_option maxRecDepth 20000 in
set_option maxHeartbeats 8000000 in
theorem walk (v0 : Value) (ls : List Int) (many : Int) (_ : (Lit.int .i64 many).wf = true) (w : World) (hr0 : Row w v0 ls.length (iC ls) ∧ ls.length ≤ maxLen) :
    Calls Try.prog 4 #[v0, .int .i64 many] w fun e w' => e = .returned (.bool true) ∧ Below w.heap.size w w' := by
  obtain ⟨x0, c0, rfl, _⟩ := hr0.1.src
  obtain ⟨n0, hn0⟩ : ∃ n, n = ls.length := ⟨_, rfl⟩
  have HN0 : Hid (n0 = ls.length) := hn0
  have HR0 : Hid (Row w (.slice x0 n0 c0) n0 (iC ls)) := by unfold Hid; rw [hn0]; exact hr0.1
  have hm0 : n0 ≤ maxLen := by rw [hn0]; exact hr0.2
  unfold maxLen at hm0
  rw [← hn0]
  obtain ⟨M, hM, hMb⟩ : ∃ M : Nat, M < 16 ∧ bits .and .i64 many 15 = (M : Int) := by
    refine ⟨(many % 16).toNat, by omega, ?_⟩
    have := mask many 4 (by decide)
    simp only [Nat.reducePow, Nat.reduceSub] at this
    have e : bits .and .i64 many 15 = many % 16 := this
    rw [e]; omega
  obtain ⟨K, hK⟩ : ∃ K : Nat, 125 + M = K := ⟨_, rfl⟩
  have hKi : 125 + (M : Int) = (K : Int) := by omega
  have hK140 : K ≤ 140 := by omega
  clear hr0 hn0 hK
  go_enter Try.func4, Try.ntmps4
  go_wp2_with (first
    | (go_at_call 8; go_must (refine (Cu.awake_any _).mono ?_); rintro e w1 ⟨rfl, b1⟩)
    | (go_at_call 10; go_must (refine (Cu.hints_any _).mono ?_); rintro e wh ⟨rfl, rfl⟩)
    | (go_at_call 9; go_must (refine (Cu.lw_hints (M := fun _ => False) b1 (fun _ h => h.elim)).mono ?_); rintro e w2 ⟨o, rfl, s2, _⟩; have HD0 : Hid (∃ F is, Cu.FRm 0 F is ∧ Cu.LW w w2 o Cu.Hs2 Cu.Hb2 F (fun _ => False)) := ⟨[], [], Cu.FRm.start, s2⟩; clear b1 s2))
  go_loopw [8] (fun k wr => ∃ j : Nat, j ≤ K ∧ k = .int .i64 (j : Int) ∧ Hid (∃ F is, Cu.FRm j F is ∧ Cu.LW w wr o Cu.Hs2 Cu.Hb2 F (fun _ => False))) (fun k _ => K - (intOf k).toNat)
  case atStart => exact ⟨0, Nat.zero_le _, rfl, HD0⟩
  case round =>
    clear HD0
    obtain ⟨j, hj, rfl, HX⟩ := hrel
    by_cases hlt : j < K
    · have hlt' : (j : Int) < (K : Int) := by omega
      have hj140 : j < 140 := by omega
      obtain ⟨F, is, hF, hW⟩ := HX.out
      have HWW : Hid (Cu.LW w wr o Cu.Hs2 Cu.Hb2 F (fun _ => False)) := hW
      by_cases hjn : j < n0
      · have hjm0 : j < ls.length := by have := HN0.out; omega
        obtain ⟨g0, o0, cp0, hx, hc0⟩ := row_at (HR0.out.below hW.bel) (by omega)
        simp only [Value.slice.injEq] at hx
        obtain ⟨rfl, -, rfl⟩ := hx
        have e0 := hc0 j _ (iC_at hjm0)
        obtain ⟨p, hp⟩ : ∃ p, p = ls[j] := ⟨_, rfl⟩
        rw [← hp] at e0
        obtain ⟨T, hT, hTb⟩ : ∃ T : Nat, T < 2048 ∧ bits .and .i64 p 2047 = (T : Int) := by
          refine ⟨(p % 2048).toNat, by omega, ?_⟩
          have := mask p 11 (by decide)
          simp only [Nat.reducePow, Nat.reduceSub] at this
          have e : bits .and .i64 p 2047 = p % 2048 := this
          rw [e]; omega
        obtain ⟨TT, hTT⟩ : ∃ TT : Int, 1000 + (T : Int) = TT := ⟨_, rfl⟩
        have HST : Hid _ := hF.step hj140 (t := TT)
        clear hc0 hp hF hW HX
        go_wp2_with (first
          | (go_at_call 21; go_must (refine (Cu.numbered_any j hj140 _).mono ?_); rintro e w3 ⟨rfl, b3⟩; have hb4 : Below wr.heap.size wr (w3.alloc (.cells #[.string ⟨#[1, 104, 0]⟩] 9)) := lay b3 _; have hp4 := (HWW.out.below hb4).put (din_rm hj140 TT (Blk.new w3 #[.string ⟨#[1, 104, 0]⟩] 9)) ⟨#[0]⟩ 5 (by decide) 0 HST.out.1 _ rfl; clear b3 hb4)
          | (go_at_call 11; go_must (refine hp4.mono ?_); rintro e w5 ⟨rfl, lw5, _⟩; have HL5 : Hid _ := lw5; clear hp4 lw5)
          | (go_at_call 20; refine (num_any _ _).mono ?_; rintro e w' ⟨rfl, hw⟩; obtain rfl := hw.symm))
        obtain ⟨is', his⟩ := HST.out.2
        have HD8 : Hid (∃ F is, Cu.FRm (j + 1) F is ∧ Cu.LW w w5 o Cu.Hs2 Cu.Hb2 F (fun _ => False)) := ⟨_, is', his, HL5.out⟩
        clear HL5 HST HWW his
        go_roundw
        case rel => exact ⟨j + 1, by omega, by go_num, HD8⟩
        case measure => simp [intOf]; omega
      · have hjn' : decide (j < n0) = false := by simpa using hjn
        have HST : Hid _ := hF.step hj140 (t := 5000)
        clear hF hW HX hjn
        go_wp2_with (first
          | (go_at_call 21; go_must (refine (Cu.numbered_any j hj140 _).mono ?_); rintro e w3 ⟨rfl, b3⟩; have hb4 : Below wr.heap.size wr (w3.alloc (.cells #[.string ⟨#[1, 104, 0]⟩] 9)) := lay b3 _; have hp4 := (HWW.out.below hb4).put (din_rm hj140 5000 (Blk.new w3 #[.string ⟨#[1, 104, 0]⟩] 9)) ⟨#[0]⟩ 5 (by decide) 0 HST.out.1 _ rfl; clear b3 hb4)
          | (go_at_call 11; go_must (refine hp4.mono ?_); rintro e w5 ⟨rfl, lw5, _⟩; have HL5 : Hid _ := lw5; clear hp4 lw5)
          | (go_at_call 20; refine (num_any _ _).mono ?_; rintro e w' ⟨rfl, hw⟩; obtain rfl := hw.symm))
        obtain ⟨is', his⟩ := HST.out.2
        have HD8 : Hid (∃ F is, Cu.FRm (j + 1) F is ∧ Cu.LW w w5 o Cu.Hs2 Cu.Hb2 F (fun _ => False)) := ⟨_, is', his, HL5.out⟩
        clear HL5 HST HWW his
        go_roundw
        case rel => exact ⟨j + 1, by omega, by go_num, HD8⟩
        case measure => simp [intOf]; omega
    · have hlt' : decide (j < K) = false := by simpa using hlt
      obtain rfl : j = K := by omega
      obtain ⟨F, is, hF, hW⟩ := HX.out
      have HF : Hid (Cu.FRm j F is) := hF
      have HW0 : Hid (Cu.LW w wr o Cu.Hs2 Cu.Hb2 F (fun _ => False)) := hW
      obtain ⟨mn, hmn⟩ : ∃ mn : Nat, mn = min j 128 := ⟨_, rfl⟩
      have hmin := fun ty U => Cu.min_int (j : Int) 128 (mn : Int) (by omega) ty U
      have HMN : Hid (Cu.cntI is j = mn) := by
        unfold Hid
        rw [Cu.cntI_all hF.nd hF.lt, hF.len, hmn]
      clear hF hW HX hlt hmn
      go_wp2
      go_loopw [11, 12] (fun s11 k wr => ∃ i : Nat, i ≤ j ∧ s11 = .int .i64 ((Cu.cntI is i : Nat) : Int) ∧ k = .int .i64 (i : Int) ∧ Hid (Cu.LW w wr o Cu.Hs2 Cu.Hb2 F (fun _ => False))) (fun _ k _ => j - (intOf k).toNat)
      case atStart => exact ⟨0, Nat.zero_le _, rfl, rfl, HW0⟩
      case round =>
        clear HW0
        obtain ⟨i, hi, rfl, rfl, HWI⟩ := hrel
        by_cases hij : i < j
        · have hij' : (i : Int) < (j : Int) := by omega
          have hi140 : i < 140 := by omega
          have hcs := Cu.cntI_succ is i
          have hcl : Cu.cntI is i ≤ i := by
            unfold Cu.cntI
            exact Nat.le_trans (List.length_filter_le _ _) (by simp)
          have hns : (Cu.numb i).size ≤ maxLen := by
            have := (name_some (Cu.num_f hi140).nm).1
            have e := data_len (Cu.numb i)
            unfold maxLen
            omega
          have hdp := HF.out.deep (by omega) hi140
          by_cases hm : i ∈ is
          · rw [if_pos hm] at hcs hdp
            have hne : ((Cu.numb i).toList == [0]) = false := by rw [Cu.root_as]; exact decide_eq_false (Cu.num_f hi140).root
            obtain ⟨c, hc⟩ : ∃ c, c = Cu.cntI is i := ⟨_, rfl⟩
            rw [← hc] at hcs hcl ⊢
            have HC : Hid (Cu.cntI is (i + 1) = c + 1) := hcs
            have HDP : Hid (Cu.deepF F (Cu.numb i) 5 = Cu.numb i) := hdp
            obtain ⟨NB, hNB⟩ : ∃ NB, NB = Cu.numb i := ⟨_, rfl⟩
            have hnum := Cu.numbered_any i hi140
            rw [← hNB] at hne HDP hnum hns
            clear hcs hdp hc hm hNB
            go_wp2_with (first
              | (go_at_call 21; go_must (refine (hnum _).mono ?_); rintro e w3 ⟨rfl, b3⟩; have hd3 := (HWI.out.below b3).deep NB 5 hns _ HDP.out; clear b3)
              | (go_at_call 13; go_must (refine hd3.mono ?_); rintro e w5 ⟨rfl, lw5, _⟩; have HL5 : Hid _ := lw5; clear hd3 lw5))
            go_roundw
            case rel => exact ⟨i + 1, by omega, by rw [HC.out]; go_num, by go_num, HL5⟩
            case measure => simp [intOf]; omega
          · rw [if_neg hm] at hcs hdp
            obtain ⟨c, hc⟩ : ∃ c, c = Cu.cntI is i := ⟨_, rfl⟩
            rw [← hc] at hcs hcl ⊢
            have HC : Hid (Cu.cntI is (i + 1) = c) := hcs
            have HDP : Hid (Cu.deepF F (Cu.numb i) 5 = ⟨#[0]⟩) := hdp
            obtain ⟨NB, hNB⟩ : ∃ NB, NB = Cu.numb i := ⟨_, rfl⟩
            have hnum := Cu.numbered_any i hi140
            rw [← hNB] at HDP hnum hns
            clear hcs hdp hc hm hNB
            go_wp2_with (first
              | (go_at_call 21; go_must (refine (hnum _).mono ?_); rintro e w3 ⟨rfl, b3⟩; have hd3 := (HWI.out.below b3).deep NB 5 hns _ HDP.out; clear b3)
              | (go_at_call 13; go_must (refine hd3.mono ?_); rintro e w5 ⟨rfl, lw5, _⟩; have HL5 : Hid _ := lw5; clear hd3 lw5))
            go_roundw
            case rel => exact ⟨i + 1, by omega, by rw [HC.out], by go_num, HL5⟩
            case measure => simp [intOf]; omega
        · have hij' : decide (i < j) = false := by simpa using hij
          obtain rfl : i = j := by omega
          rw [HMN.out]
          clear hij
          go_wp2_with (go_at_call 20; refine (num_any _ _).mono ?_; rintro e w' ⟨rfl, hw⟩; obtain rfl := hw.symm)
          go_ret
          exact ⟨rfl, HWI.out.bel⟩

theorem own : ownKnob Try.prog.godebug = none := by kernel_rfl
theorem laidOut : laidOutB Try.prog = true := by kernel_rfl

set_option maxRecDepth 100000 in
theorem lifted (os : Os) (started : os.Started) (H : Type) (enc : TypeId × Value → H) :
    ReturnsInHanded {} Try.checked os 4 .any (Rows.cutsRoomSpec.pre6 enc Try.prog Try.f4 Rows.cutsRoomRow.domain false) (Rows.cutsRoomSpec.post enc Try.prog Try.f4 false true false false) := by
  refine returnsInHanded_of_change (C := Try.checked) own started (by kernel_rfl) Try.func4
    (ChangeSpec.witness6 (enc := enc) (C := Try.checked) false ⟨#[], #[.slice none 0 0, .int .i64 0], []⟩ 8 (by kernel_rfl) (by kernel_rfl) (by kernel_rfl) (by kernel_rfl)) ?_
  intro W base args ds gs before hval0 hW _ _
  have hval : ∀ (j : Nat) t v, Try.f4.params[j]? = some t → args[j]? = some v → Value.okWide Try.prog W .any base t v := hval0
  have hW' := hW
  obtain ⟨p, q, hA0, hV, rfl, hfz, hnd⟩ := hW
  have hA : DataW.TrodAll enc Try.prog W 0 (fun _ => true) true Try.f4.params.toList args.toList ds p := hA0
  rw [Try.params4] at hA hval
  obtain ⟨v0, vs0, d0, ds0, p0, q0, hargs, rfl, rfl, h0, r0⟩ := trodAll_cons hA
  obtain ⟨v1, vs1, d1, ds1, p1, q1, rfl, rfl, rfl, h1, r1⟩ := trodAll_cons r0
  obtain ⟨rfl, rfl, rfl⟩ := trodAll_nil r1
  obtain rfl : args = #[v0, v1] := by cases args; simp_all
  obtain ⟨rfl, rfl⟩ := trodVars_none hV
  obtain ⟨a0, w0⟩ := open_irow (hval 0 48 v0 rfl rfl) h0
  obtain ⟨a1, rfl, rfl, rfl, w1⟩ := open_int Try.underlying3 (hval 1 3 v1 rfl rfl) h1
  have hlt0 : ∀ x ∈ p0, x.block < W.heap.size := fun x hx => by
    have := hW'.lt x (by simp [hx])
    simpa using this
  clear hA0 hval0
  simp only [List.append_nil] at hW'
  refine (walk v0 a0 a1 w1 W w0).mono fun e W' ⟨he, bel⟩ => ?_
  subst he
  exact ⟨_, rfl, _, _, _, [], _, [], hW', trodAll_mk1 (shut_bool Try.underlying4 _), (trodAll_cons_mk (Below.trod laidOut (by kernel_rfl) (of_decide_eq_true (by kernel_rfl)) h0 bel hlt0) (trodAll_cons_mk (shut_int Try.underlying3 w1) trodAll_mk0)), rfl, bel.frame _, fun h => by cases h⟩

/-- The statement. -/
theorem proved : Rows.CutsRoomSaid :=
  OpenClaim.holds_of_wide 4 Try.f4 rfl rfl rfl rfl rfl rfl rfl ⟨rfl, rfl, rfl, rfl, rfl⟩ rfl rfl rfl rfl rfl (by kernel_rfl) Try.func4 (by kernel_rfl)
    (of_decide_eq_true (by kernel_rfl)) (by unfold Func.isWrapper; first | (rw [if_pos (by decide +kernel)]; kernel_rfl) | (rw [if_neg (by decide +kernel)]; exact ⟨rfl, rfl⟩))
    (fun os started H enc _ => lifted os started H enc)
#print axioms proved


end Go.Proofs.Ytnjgdfmldjgloaa.cutsRoom
