/- RelParts holds: for every string, a name's last labels are above it, each the parent of the next; what is no name has none. -/
import Derived.Test.YteibmkaghikloaaWalkO
import Derived.Test.YteibmkaghikloaaPlainK
import Derived.Deep.RegionWith
import Derived.ProofKit
import Derived.OpenShut
import Derived.ShutString
namespace Go.Proofs.Yteibmkaghikloaa.relParts
open Go.ChangeShapes Go.WideShapes Go.ChangeAt Go.RowKit
open Go.ChangeMaps (open_string shut_string)
open Pl

theorem last_full {l : List UInt8} (h : isName l = true) : lastN l (labs l).length = l := by
  unfold lastN; rw [Nat.sub_self, List.drop_zero]; exact (enc_of h).1.symm
theorem last_up {l : List UInt8} (h : isName l = true) {k : Nat} (hk : k ≤ (labs l).length) : aboveB (lastN l k) l = true := by
  rw [above_iff]
  refine ⟨(last_name h k hk).1, h, ?_⟩
  rw [fl_last h k hk]
  exact List.take_prefix _ _
theorem last_down {l : List UInt8} (h : isName l = true) {k : Nat} (hk : k < (labs l).length) : aboveB l (lastN l k) = false :=
  above_few (by rw [(last_name h k (by omega)).2.1]; simp; omega)
theorem last_par {l : List UInt8} (h : isName l = true) {k : Nat} (hk : k + 1 ≤ (labs l).length) : parR (lastN l (k + 1)) = some (lastN l k) := by
  obtain ⟨h1, h2, _⟩ := last_name h (k + 1) hk
  unfold parR
  rw [if_pos ⟨h1, by rw [h2]; simp; omega⟩, h2, List.drop_drop]
  unfold lastN
  congr 3
  omega
theorem last_root {l : List UInt8} (h : isName l = true) : parR (lastN l 0) = none := by
  obtain ⟨h1, h2, _⟩ := last_name h 0 (Nat.zero_le _)
  exact par_none (.inr (by rw [h2]; simp))

set_option maxRecDepth 20000 in
set_option maxHeartbeats 4000000 in
theorem walk_no (s : ByteArray) (s0 : s.size ≤ maxLen) (w : World) (HN : Hid (isName s.data.toList = false)) :
    Calls Try.prog 5 #[.string s] w fun e w' => e = .returned (.bool true) ∧ Below w.heap.size w w' := by
  have hb : Below w.heap.size w w := Below.refl _ _
  have HL : Hid (lastR s.data.toList 0 = none) := last_no (.inl HN.out)
  have HF : Hid (foldR s.data.toList = (⟨#[]⟩ : ByteArray).data.toList) := foldR_no HN.out
  go_enter Try.func5, Try.ntmps5
  go_wp2_with (first
    | (go_at_call 24; refine (awake_any _).mono ?_; rintro e w1 ⟨rfl, b1⟩; replace hb := next hb b1; clear b1)
    | (go_at_call 25; refine (refMay_as s false _ s0 HN.out).mono ?_; rintro e w1 ⟨rfl, b1⟩; replace hb := next hb b1; clear b1)
    | (go_at_call 11; refine (last_err s 0 _ s0 HL.out).mono ?_; rintro e w1 ⟨rfl, b1⟩; replace hb := next hb b1; clear b1)
    | (go_at_call 15; refine (fold_as s ⟨#[]⟩ _ s0 HF.out).mono ?_; rintro e w1 ⟨rfl, b1⟩; replace hb := next hb b1; clear b1)
    | (go_at_call 21; refine (num_any _ _).mono ?_; rintro e w' ⟨rfl, hw⟩; obtain rfl := hw.symm))
  go_ret
  exact ⟨rfl, hb⟩

set_option maxRecDepth 20000 in
set_option maxHeartbeats 4000000 in
theorem walk_yes (s : ByteArray) (n : Nat) (s0 : s.size ≤ maxLen) (w : World) (HN : Hid (isName s.data.toList = true)) (hn : n = (labs s.data.toList).length) (hn1 : n ≤ 127) :
    Calls Try.prog 5 #[.string s] w fun e w' => e = .returned (.bool true) ∧ Below w.heap.size w w' := by
  have hb : Below w.heap.size w w := Below.refl _ _
  have HNL : Hid (n = (labs s.data.toList).length) := hn
  have HE1 : Hid (lastR s.data.toList ((n : Int) + 1) = none) := last_no (.inr (.inr (by omega)))
  have HE2 : Hid (lastR s.data.toList (-1) = none) := last_no (.inr (.inl (by omega)))
  have HCN : Hid (cnt s.data.toList = n) := by unfold Hid; rw [hn]; exact (enc_of HN.out).2.2.1
  clear hn
  have h255 := name_size HN.out
  go_enter Try.func5, Try.ntmps5
  go_wp2_with (first
    | (go_at_call 24; refine (awake_any _).mono ?_; rintro e w1 ⟨rfl, b1⟩; replace hb := next hb b1; clear b1)
    | (go_at_call 25; refine (refMay_as s true _ s0 HN.out).mono ?_; rintro e w1 ⟨rfl, b1⟩; replace hb := next hb b1; clear b1)
    | (go_at_call 26; refine (refCount_any s _ s0).mono ?_; rintro e w1 ⟨rfl, b1⟩; replace hb := next hb b1; clear b1; rw [HCN.out]))
  go_loopw [6, 7] (fun v i wr => ∃ (L : ByteArray), v = .string L ∧ Below w.heap.size w wr ∧ ((∃ j : Nat, j ≤ n ∧ i = .int .i64 j ∧ Hid (L.data.toList = lastN s.data.toList j)) ∨ i = .int .i64 (-1))) (fun _ i _ => (intOf i + 1).toNat)
  case atStart => exact ⟨s, rfl, hb, .inl ⟨n, Nat.le_refl _, rfl, by unfold Hid; rw [HNL.out, last_full HN.out]⟩⟩
  case round =>
    clear hb
    obtain ⟨L, rfl, hb, hi⟩ := hrel
    rcases hi with ⟨j, hjn, rfl, HL⟩ | rfl
    · have HLS : Hid (L.size ≤ maxLen) := by
        unfold Hid maxLen
        rw [← data_len, HL.out, last_drop HN.out, List.length_drop, data_len]
        omega
      have HLR : Hid (lastR s.data.toList (j : Int) = some L.data.toList) := by unfold Hid; rw [last_yes HN.out (by have := HNL.out; omega), HL.out]
      have HUP : Hid (aboveB L.data.toList s.data.toList = true) := by unfold Hid; rw [HL.out]; exact last_up HN.out (by have := HNL.out; omega)
      have t1 : True := trivial
      have t2 : True := trivial
      obtain ⟨d, hd1, hcase⟩ : ∃ d : Bool, aboveB s.data.toList L.data.toList = d ∧ ((d = true ∧ decide (j < n) = false) ∨ (d = false ∧ decide (j < n) = true)) := by
        by_cases h : j = n
        · refine ⟨true, ?_, .inl ⟨rfl, by simp; omega⟩⟩
          rw [HL.out, h, HNL.out, last_full HN.out]
          exact above_self HN.out
        · refine ⟨false, ?_, .inr ⟨rfl, by simp; omega⟩⟩
          rw [HL.out]
          exact last_down HN.out (by have := HNL.out; omega)
      have HD : Hid (aboveB s.data.toList L.data.toList = d) := hd1
      clear hd1
      by_cases hj0 : 0 < j
      case neg =>
        have HPR : Hid (parR L.data.toList = none) := by unfold Hid; rw [HL.out, show j = 0 from by omega]; exact last_root HN.out
        have hj1 : decide (0 < j) = false := by simp; omega
        have HJ : Hid (j = 0) := by unfold Hid; omega
        clear hj0
        rcases hcase with ⟨rfl, h2⟩ | ⟨rfl, h2⟩
        all_goals
          go_wp2_with (first
            | (go_at_call 11; have _t := t1; go_must (refine (last_ok s L _ _ s0 HLR.out).mono ?_); rintro e w1 ⟨rfl, b1⟩; replace hb := next hb b1; clear b1 t1)
            | (go_at_call_of 19 (#[Value.string L, Value.string s]); refine (above_as L s true _ HLS.out s0 HUP.out).mono ?_; rintro e w1 ⟨rfl, b1⟩; replace hb := next hb b1; clear b1)
            | (go_at_call_of 19 (#[Value.string s, Value.string L]); refine (above_as s L _ _ s0 HLS.out HD.out).mono ?_; rintro e w1 ⟨rfl, b1⟩; replace hb := next hb b1; clear b1)
            | (go_at_call 9; go_must (refine (parent_err L _ HLS.out HPR.out).mono ?_); rintro e w1 ⟨rfl, b1⟩; replace hb := next hb b1; clear b1)
            | (go_at_call 21; refine (num_any _ _).mono ?_; rintro e w' ⟨rfl, hw⟩; obtain rfl := hw.symm))
          go_roundw
          case rel => exact ⟨_, rfl, hb, .inr (by have := HJ.out; go_num)⟩
          case measure => simp [intOf]
      case pos =>
        have HPR : Hid (parR L.data.toList = some (⟨(lastN s.data.toList (j - 1)).toArray⟩ : ByteArray).data.toList) := by
          unfold Hid
          have := last_par HN.out (k := j - 1) (by have := HNL.out; omega)
          rw [show j - 1 + 1 = j from by omega] at this
          rw [HL.out]; exact this
        have HTL : Hid ((⟨(lastN s.data.toList (j - 1)).toArray⟩ : ByteArray).data.toList = lastN s.data.toList (j - 1)) := by unfold Hid; simp
        obtain ⟨T, hT⟩ : ∃ T : ByteArray, T = ⟨(lastN s.data.toList (j - 1)).toArray⟩ := ⟨_, rfl⟩
        rw [← hT] at HPR HTL
        clear hT
        have hj1 : decide (0 < j) = true := by simp; omega
        rcases hcase with ⟨rfl, h2⟩ | ⟨rfl, h2⟩
        all_goals
          go_wp2_with (first
            | (go_at_call 11; have _t := t1; go_must (refine (last_ok s L _ _ s0 HLR.out).mono ?_); rintro e w1 ⟨rfl, b1⟩; replace hb := next hb b1; clear b1 t1)
            | (go_at_call_of 19 (#[Value.string L, Value.string s]); refine (above_as L s true _ HLS.out s0 HUP.out).mono ?_; rintro e w1 ⟨rfl, b1⟩; replace hb := next hb b1; clear b1)
            | (go_at_call_of 19 (#[Value.string s, Value.string L]); refine (above_as s L _ _ s0 HLS.out HD.out).mono ?_; rintro e w1 ⟨rfl, b1⟩; replace hb := next hb b1; clear b1)
            | (go_at_call 9; go_must (refine (parent_ok L T _ HLS.out HPR.out).mono ?_); rintro e w1 ⟨rfl, b1⟩; replace hb := next hb b1; clear b1)
            | (go_at_call 21; refine (num_any _ _).mono ?_; rintro e w' ⟨rfl, hw⟩; obtain rfl := hw.symm))
          go_roundw
          case rel => exact ⟨T, rfl, hb, .inl ⟨j - 1, by omega, by go_num, HTL⟩⟩
          case measure => simp [intOf]
    · have t1 : True := trivial
      have t2 : True := trivial
      go_wp2_with (first
        | (go_at_call 11; have _t := t1; go_must (refine (last_err s _ _ s0 HE1.out).mono ?_); rintro e w1 ⟨rfl, b1⟩; replace hb := next hb b1; clear b1 t1)
        | (go_at_call 11; have _t := t2; go_must (refine (last_err s _ _ s0 HE2.out).mono ?_); rintro e w1 ⟨rfl, b1⟩; replace hb := next hb b1; clear b1 t2)
        | (go_at_call 21; refine (num_any _ _).mono ?_; rintro e w' ⟨rfl, hw⟩; obtain rfl := hw.symm))
      go_ret
      exact ⟨rfl, hb⟩

theorem walk (a0 : ByteArray) (s0 : a0.size ≤ maxLen) (w : World) :
    Calls Try.prog 5 #[.string a0] w fun e w' => e = .returned (.bool true) ∧ Below w.heap.size w w' := by
  cases h : isName a0.data.toList with
  | false => exact walk_no a0 s0 w h
  | true => exact walk_yes a0 _ s0 w h rfl (few h)

theorem own : ownKnob Try.prog.godebug = none := by kernel_rfl

set_option maxRecDepth 100000 in
theorem lifted (os : Os) (started : os.Started) (H : Type) (enc : TypeId × Value → H) :
    ReturnsInHanded {} Try.checked os 5 .any (Rows.relPartsSpec.pre6 enc Try.prog Try.f5 Rows.relPartsRow.domain false) (Rows.relPartsSpec.post enc Try.prog Try.f5 false true false false) := by
  refine returnsInHanded_of_change (C := Try.checked) own started (by kernel_rfl) Try.func5
    (ChangeSpec.witness6 (enc := enc) (C := Try.checked) false ⟨#[], #[.string ByteArray.empty], []⟩ 8 (by kernel_rfl) (by kernel_rfl) (by kernel_rfl) (by kernel_rfl)) ?_
  intro W base args ds gs before hval0 hW _ _
  have hval : ∀ (j : Nat) t v, Try.f5.params[j]? = some t → args[j]? = some v → Value.okWide Try.prog W .any base t v := hval0
  have hW' := hW
  obtain ⟨p, q, hA0, hV, rfl, hfz, hnd⟩ := hW
  have hA : DataW.TrodAll enc Try.prog W 0 (fun _ => true) true Try.f5.params.toList args.toList ds p := hA0
  rw [Try.params5] at hA hval
  obtain ⟨v0, vs0, d0, ds0, p0, q0, hargs, rfl, rfl, h0, r0⟩ := trodAll_cons hA
  obtain ⟨rfl, rfl, rfl⟩ := trodAll_nil r0
  obtain rfl : args = #[v0] := by cases args; simp_all
  obtain ⟨rfl, rfl⟩ := trodVars_none hV
  obtain ⟨a0, rfl, rfl, rfl, w0⟩ := open_string Try.underlying9 (hval 0 9 v0 rfl rfl) h0
  clear hA0 hval0
  simp only [List.append_nil] at hW'
  refine (walk a0 w0 W).mono fun e W' ⟨he, bel⟩ => ?_
  subst he
  exact ⟨_, rfl, _, _, _, [], [], [], hW', trodAll_mk1 (shut_bool Try.underlying4 _), (trodAll_cons_mk (shut_string Try.underlying9 w0) trodAll_mk0), rfl, bel.frame _, fun h => by cases h⟩

/-- The statement. -/
theorem proved : Rows.RelPartsSaid :=
  OpenClaim.holds_of_wide 5 Try.f5 rfl rfl rfl rfl rfl rfl rfl ⟨rfl, rfl, rfl, rfl, rfl⟩ rfl rfl rfl rfl rfl (by kernel_rfl) Try.func5 (by kernel_rfl)
    (of_decide_eq_true (by kernel_rfl)) (by unfold Func.isWrapper; first | (rw [if_pos (by decide +kernel)]; kernel_rfl) | (rw [if_neg (by decide +kernel)]; exact ⟨rfl, rfl⟩))
    (fun os started H enc _ => lifted os started H enc)
#print axioms proved

end Go.Proofs.Yteibmkaghikloaa.relParts
