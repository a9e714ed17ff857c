/- CompFull holds: for every number and every string, a Writer takes no more than MaxMessage bytes. -/
import Derived.Test.YtpfbmemejajbjaaCpJ
import Derived.ProofKit
import Derived.OpenShut
import Derived.ShutString
namespace Go.Proofs.Ytpfbmemejajbjaa.compFull
open Go.ChangeShapes Go.WideShapes Go.ChangeAt Go.RowKit
open Go.ChangeMaps (open_string shut_string)
open Pl

set_option maxRecDepth 20000 in
set_option maxHeartbeats 2000000 in
theorem walk (y : Int) (s : ByteArray) (_ : (Lit.int .i64 y).wf = true) (hs : s.size ≤ maxLen) (w : World) :
    Calls Try.prog 8 #[.int .i64 y, .string s] w fun e w' => e = .returned (.bool true) ∧ Below w.heap.size w w' := by
  have hb : Below w.heap.size w w := Below.refl _ _
  have hsl := data_len s
  cases hn : isName s.data.toList with
  | false =>
    go_enter Try.func8, Try.ntmps8
    go_wp2_with (first
      | (go_at_call 14; go_must (refine (awake_any _).mono ?_); rintro e w0 ⟨rfl, b0⟩; replace hb := next hb b0; clear b0)
      | (go_at_call 22; go_must (refine (refMay_at s false _ hs hn).mono ?_); rintro e w0 ⟨rfl, b0⟩; replace hb := next hb b0; clear b0))
    go_ret
    exact ⟨rfl, hb⟩
  | true =>
    obtain ⟨i0, hi, hz0, hz1, hz2⟩ := info_parts info5
    have hs255 := name_size hn
    have m9 : bits .and .i64 y 511 = y % 512 := mask y 9 (by decide)
    have hr0 : 0 ≤ y % 512 := Int.emod_nonneg _ (by decide)
    have hr1 : y % 512 < 512 := Int.emod_lt_of_pos _ (by decide)
    obtain ⟨k, hk⟩ : ∃ k : Nat, y % 512 = (k : Int) := ⟨(y % 512).toNat, by omega⟩
    rw [hk] at m9 hr0 hr1
    have hk2 : k < 512 := by omega
    obtain ⟨K, hK⟩ : ∃ K : Nat, (4096 : Int) - (k : Int) = (K : Int) := ⟨4096 - k, by omega⟩
    have HK : Hid (K + k = 4096) := by unfold Hid; omega
    have hK4 : K ≤ 4096 := by omega
    have HN : Hid (isName s.data.toList = true) := hn
    have e1 : rawE [] (zerosB K) = 0 := by unfold rawE; rw [zerosB_size, if_pos (by simp; omega)]
    have e2 : rawB [] (zerosB K) = (zerosB K).data.toList := by unfold rawB; rw [zerosB_size, if_pos (by simp; omega)]; rfl
    have hzl : (zerosB K).data.toList.length = K := by rw [data_len, zerosB_size]
    have e3 : rawE (zerosB K).data.toList (zerosB (k + 1)) = 501 := by unfold rawE; rw [zerosB_size, hzl, if_neg (by omega)]
    have e4 : rawB (zerosB K).data.toList (zerosB (k + 1)) = (zerosB K).data.toList := by unfold rawB; rw [zerosB_size, hzl, if_neg (by omega)]
    have HE1 : Hid (rawE [] (zerosB K) = 0 ∧ rawB [] (zerosB K) = (zerosB K).data.toList ∧ rawE (zerosB K).data.toList (zerosB (k + 1)) = 501 ∧ rawB (zerosB K).data.toList (zerosB (k + 1)) = (zerosB K).data.toList) := ⟨e1, e2, e3, e4⟩
    have hks : ((k + 1 : Nat) : Int) = (k : Int) + 1 := by omega
    have hway : ∃ (E : Int) (BB : List UInt8) (Z : ByteArray), Hid (namE (zerosB K).data.toList [] s.data.toList = E ∧ namB (zerosB K).data.toList [] s.data.toList = BB) ∧ Hid (Z = ⟨BB.toArray⟩) ∧
        ((s.size ≤ k ∧ E = 0 ∧ (Z.size : Int) = (K : Int) + (s.size : Int)) ∨ (decide (s.size ≤ k) = false ∧ E = 501 ∧ (Z.size : Int) = (K : Int))) := by
      by_cases hfit : s.size ≤ k
      · obtain ⟨a1, a2⟩ := nam_fresh (B := (zerosB K).data.toList) hn (by rw [hzl, data_len]; omega)
        exact ⟨_, _, _, ⟨a1, a2⟩, rfl, .inl ⟨hfit, rfl, by rw [toArr_size, List.length_append, hzl, data_len]; omega⟩⟩
      · obtain ⟨a1, a2⟩ := nam_full (B := (zerosB K).data.toList) hn (by rw [hzl, data_len]; omega)
        exact ⟨_, _, _, ⟨a1, a2⟩, rfl, .inr ⟨by simpa using hfit, rfl, by rw [toArr_size, hzl]⟩⟩
    obtain ⟨E, BB, Z, HA, HZ, hway⟩ := hway
    clear e1 e2 e3 e4 hzl hn hk hks
    rcases hway with ⟨hfit, rfl, hZs⟩ | ⟨hfit, rfl, hZs⟩
    all_goals
      go_enter Try.func8, Try.ntmps8
      go_wp2_with (first
        | (go_at_call 14; go_must (refine (awake_any _).mono ?_); rintro e w0 ⟨rfl, b0⟩; replace hb := next hb b0; clear b0)
        | (go_at_call 22; go_must (refine (refMay_at s true _ hs HN.out).mono ?_); rintro e w0 ⟨rfl, b0⟩; replace hb := next hb b0; clear b0)
        | (go_at_call 15; go_must (refine (new_h w _ hb).mono ?_); rintro e w1 ⟨g, rfl, h1, _⟩; have H1 : Hid (Holds w w1 g [] []) := h1; clear h1 hb)
        | (at_make; have _t := H1; refine wpList_make_full _ rfl _ _ 49 rfl 0 5 i0 (.int .u8 0) 1 Try.underlying49 hi hz0 hz1 .i64 .i64 _ _ K rfl rfl rfl rfl (by rw [hz2]; omega) (by unfold maxLen; omega) (Nat.zero_le _) ?_; intro w2 own2 grow2; have H2 : Hid (Holds w w2 g [] []) := H1.out.below (below_of grow2); have R2 := zeros_row own2; clear own2 grow2 H1)
        | (refine wpList_stringB _ rfl (.tmp 23) rfl 0 K _ (zerosB K) rfl R2 ?_; clear R2)
        | (go_at_call 16; have _t := H2; go_must (refine (raw_k (zerosB K) (by rw [zerosB_size]; unfold maxLen; omega) H2.out HE1.out.1 HE1.out.2.1).mono ?_); rintro e w3 ⟨rfl, h1, _⟩; have H3 : Hid (Holds w w3 g (zerosB K).data.toList []) := h1; clear h1 H2)
        | (at_make; have _t := H3; refine wpList_make_full _ rfl _ _ 49 rfl 0 5 i0 (.int .u8 0) 1 Try.underlying49 hi hz0 hz1 .i64 .i64 _ _ (k + 1) rfl rfl (by go_num) (by go_num) (by rw [hz2]; omega) (by unfold maxLen; omega) (Nat.zero_le _) ?_; intro w4 own4 grow4; have H4 : Hid (Holds w w4 g (zerosB K).data.toList []) := H3.out.below (below_of grow4); have R4 := zeros_row own4; clear own4 grow4 H3)
        | (refine wpList_stringB _ rfl (.tmp 29) rfl 0 (k + 1) _ (zerosB (k + 1)) rfl R4 ?_; clear R4)
        | (go_at_call 16; go_must (refine (raw_k (zerosB (k + 1)) (by rw [zerosB_size]; unfold maxLen; omega) H4.out HE1.out.2.2.1 HE1.out.2.2.2).mono ?_); rintro e w5 ⟨rfl, h1, _⟩; have H5 : Hid (Holds w w5 g (zerosB K).data.toList []) := h1; clear h1 H4)
        | (go_at_call 18; go_must (refine (name_k s hs H5.out HA.out.1 HA.out.2 rfl).mono ?_); rintro e w6 ⟨rfl, h1, _⟩; have H6 : Hid (Holds w w6 g BB (namM (zerosB K).data.toList [] s.data.toList)) := h1; clear h1 H5)
        | (go_at_call 20; go_must (refine (all_h H6.out).mono ?_); rw [← HZ.out]; rintro e w' ⟨rfl, hw⟩; obtain rfl := hw.symm)
        | (go_at_call 13; refine (num_any _ _).mono ?_; rintro e w' ⟨rfl, hw⟩; obtain rfl := hw.symm))
      go_ret
      exact ⟨rfl, H6.out.out⟩

theorem own : ownKnob Try.prog.godebug = none := by kernel_rfl

set_option maxRecDepth 100000 in
theorem lifted (os : Os) (started : os.Started) (H : Type) (enc : TypeId × Value → H) :
    ReturnsInHanded {} Try.checked os 8 .any (Rows.compFullSpec.pre6 enc Try.prog Try.f8 Rows.compFullRow.domain false) (Rows.compFullSpec.post enc Try.prog Try.f8 false true false false) := by
  refine returnsInHanded_of_change (C := Try.checked) own started (by kernel_rfl) Try.func8
    (ChangeSpec.witness6 (enc := enc) (C := Try.checked) false ⟨#[], #[.int .i64 0, .string ByteArray.empty], []⟩ 8 (by kernel_rfl) (by kernel_rfl) (by kernel_rfl) (by kernel_rfl)) ?_
  intro W base args ds gs before hval0 hW _ _
  have hval : ∀ (j : Nat) t v, Try.f8.params[j]? = some t → args[j]? = some v → Value.okWide Try.prog W .any base t v := hval0
  have hW' := hW
  obtain ⟨p, q, hA0, hV, rfl, hfz, hnd⟩ := hW
  have hA : DataW.TrodAll enc Try.prog W 0 (fun _ => true) true Try.f8.params.toList args.toList ds p := hA0
  rw [Try.params8] at hA hval
  obtain ⟨v0, vs0, d0, ds0, p0, q0, hargs, rfl, rfl, h0, r0⟩ := trodAll_cons hA
  obtain ⟨v1, vs1, d1, ds1, p1, q1, rfl, rfl, rfl, h1, r1⟩ := trodAll_cons r0
  obtain ⟨rfl, rfl, rfl⟩ := trodAll_nil r1
  obtain rfl : args = #[v0, v1] := by cases args; simp_all
  obtain ⟨rfl, rfl⟩ := trodVars_none hV
  obtain ⟨a0, rfl, rfl, rfl, w0⟩ := open_int Try.underlying3 (hval 0 3 v0 rfl rfl) h0
  obtain ⟨a1, rfl, rfl, rfl, w1⟩ := open_string Try.underlying9 (hval 1 9 v1 rfl rfl) h1
  clear hA0 hval0
  simp only [List.append_nil] at hW'
  refine (walk a0 a1 w0 w1 W ).mono fun e W' ⟨he, bel⟩ => ?_
  subst he
  exact ⟨_, rfl, _, _, _, [], [], [], hW', trodAll_mk1 (shut_bool Try.underlying4 _), (trodAll_cons_mk (shut_int Try.underlying3 w0) (trodAll_cons_mk (shut_string Try.underlying9 w1) trodAll_mk0)), rfl, bel.frame _, fun h => by cases h⟩

/-- The statement. -/
theorem proved : Rows.CompFullSaid :=
  OpenClaim.holds_of_wide 8 Try.f8 rfl rfl rfl rfl rfl rfl rfl ⟨rfl, rfl, rfl, rfl, rfl⟩ rfl rfl rfl rfl rfl (by kernel_rfl) Try.func8 (by kernel_rfl)
    (of_decide_eq_true (by kernel_rfl)) (by unfold Func.isWrapper; first | (rw [if_pos (by decide +kernel)]; kernel_rfl) | (rw [if_neg (by decide +kernel)]; exact ⟨rfl, rfl⟩))
    (fun os started H enc _ => lifted os started H enc)
#print axioms proved

end Go.Proofs.Ytpfbmemejajbjaa.compFull
