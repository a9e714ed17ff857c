/- RelLengths holds: for every number and every string, a label of so many bytes keeps its length when it is folded. -/
import Derived.Test.YteibmkaghikloaaWalkP
import Derived.Deep.RegionWith
import Derived.ProofKit
import Derived.OpenShut
import Derived.ShutString
namespace Go.Proofs.Yteibmkaghikloaa.relLengths
open Go.ChangeShapes Go.WideShapes Go.ChangeAt Go.RowKit
open Go.ChangeMaps (open_string shut_string)
open Pl

/-- The bytes that the loop has laid ahead of the place i; zeros from there on. -/
def lay81 (s : List UInt8) (m i : Nat) : List UInt8 := (List.range m).map fun j => if j < i then s.getD j 81 else 0
theorem lay81_len (s : List UInt8) (m i : Nat) : (lay81 s m i).length = m := by simp [lay81]
theorem lay81_zero (s : List UInt8) (m : Nat) : lay81 s m 0 = List.replicate m 0 := by
  apply List.ext_getElem (by simp [lay81])
  intro j h1 h2
  simp [lay81]
theorem lay81_set (s : List UInt8) (m i : Nat) (_ : i < m) : (lay81 s m i).set i (s.getD i 81) = lay81 s m (i + 1) := by
  apply List.ext_getElem (by simp [lay81])
  intro j h1 h2
  rw [List.getElem_set]
  simp only [lay81, List.getElem_map, List.getElem_range]
  split
  · rename_i e; subst e; rw [if_pos (by omega)]
  · by_cases hj : j < i
    · rw [if_pos hj, if_pos (by omega)]
    · rw [if_neg hj, if_neg (by omega)]

theorem set_cells (l : List UInt8) (i : Nat) (b : UInt8) : (l.map bv).set i (.int .u8 (b.toNat : Int)) = (l.set i b).map bv := by
  rw [List.map_set]; rfl
theorem set_twice (l : List UInt8) (i : Nat) (a b : UInt8) : (l.set i a).set i b = l.set i b := by simp

/-- A name of one label. -/
theorem one_label {x : List UInt8} (h1 : 1 ≤ x.length) (h2 : x.length ≤ 63) : isName (UInt8.ofNat x.length :: (x ++ [0])) = true := by
  have h := name_enc (ls := [x]) (by intro y hy; simp at hy; subst hy; exact ⟨h1, h2⟩) (by rw [enc_cons]; simp [enc, pre]; omega)
  rw [enc_cons, enc_nil] at h
  exact h.1

set_option maxRecDepth 20000 in
set_option maxHeartbeats 4000000 in
theorem walk_great (a0 : Int) (s : ByteArray) (w : World) (hk : bits .and .i64 a0 63 = 63) :
    Calls Try.prog 7 #[.int .i64 a0, .string s] w fun e w' => e = .returned (.bool true) ∧ Below w.heap.size w w' := by
  have hb : Below w.heap.size w w := Below.refl _ _
  go_enter Try.func7, Try.ntmps7
  go_wp2_with (first
    | (go_at_call 24; refine (awake_any _).mono ?_; rintro e w1 ⟨rfl, b1⟩; replace hb := next hb b1; clear b1))
  go_ret
  exact ⟨rfl, hb⟩

set_option maxRecDepth 20000 in
set_option maxHeartbeats 4000000 in
theorem walk_small (a0 : Int) (s : ByteArray) (k M : Nat) (_s1 : s.size ≤ maxLen) (w : World) (hk : bits .and .i64 a0 63 = (k : Int)) (hM : 1 + (k : Int) = (M : Int)) (_h1 : 1 ≤ M) (h2 : M ≤ 63) :
    Calls Try.prog 7 #[.int .i64 a0, .string s] w fun e w' => e = .returned (.bool true) ∧ Below w.heap.size w w' := by
  unfold maxLen at _s1
  obtain ⟨i0, hi, hz0, hz1, hz2⟩ := info_parts info5
  have hb : Below w.heap.size w w := Below.refl _ _
  have hsl := data_len s
  obtain ⟨K, hK⟩ : ∃ K : UInt8, K.toNat = M := ⟨UInt8.ofNat M, toNat_of (by omega)⟩
  obtain ⟨B, hB⟩ : ∃ B : ByteArray, B.data.toList = lay81 s.data.toList M M := ⟨⟨(lay81 s.data.toList M M).toArray⟩, by simp⟩
  have hBs : B.size = M := by rw [← data_len, hB, lay81_len]
  have hXl : (({ data := #[K] } : ByteArray) ++ B ++ ({ data := #[0] } : ByteArray)).data.toList = UInt8.ofNat B.data.toList.length :: (B.data.toList ++ [0]) := by
    rw [app_list, app_list]
    have : UInt8.ofNat B.data.toList.length = K := by
      apply UInt8.toNat_inj.1
      rw [data_len, hBs, toNat_of (by omega), hK]
    rw [this]
    rfl
  have hXn : isName (({ data := #[K] } : ByteArray) ++ B ++ ({ data := #[0] } : ByteArray)).data.toList = true := by
    rw [hXl]
    exact one_label (by rw [data_len]; omega) (by rw [data_len]; omega)
  have hXs : (({ data := #[K] } : ByteArray) ++ B ++ ({ data := #[0] } : ByteArray)).size = M + 2 := by rw [← data_len, hXl]; simp [hBs]
  obtain ⟨F, hF⟩ : ∃ F : ByteArray, F.data.toList = foldL (({ data := #[K] } : ByteArray) ++ B ++ ({ data := #[0] } : ByteArray)).data.toList := ⟨⟨(foldL (({ data := #[K] } : ByteArray) ++ B ++ ({ data := #[0] } : ByteArray)).data.toList).toArray⟩, by simp⟩
  have hFs : F.size = M + 2 := by rw [← data_len, hF, fold_len, data_len, hXs]
  have hF0 : ∀ h : 0 < F.size, (F[0]'h).toNat = M := fun h => by
    have h3 : ∀ (hl : 0 < F.data.toList.length), (F.data.toList[0]'hl).toNat = M := by
      rw [hF, hXl]
      intro hl
      show (fb (UInt8.ofNat B.data.toList.length)).toNat = M
      rw [fb_small (by rw [data_len, hBs, toNat_of (by omega)]; omega), data_len, hBs, toNat_of (by omega)]
    exact h3 (by rw [data_len]; omega)
  have HXN : Hid (isName (({ data := #[K] } : ByteArray) ++ B ++ ({ data := #[0] } : ByteArray)).data.toList = true) := hXn
  have HXS : Hid ((({ data := #[K] } : ByteArray) ++ B ++ ({ data := #[0] } : ByteArray)).size ≤ maxLen) := by unfold Hid maxLen; omega
  have HFS : Hid (F.size ≤ maxLen) := by unfold Hid maxLen; omega
  have HFO : Hid (foldR (({ data := #[K] } : ByteArray) ++ B ++ ({ data := #[0] } : ByteArray)).data.toList = F.data.toList) := by unfold Hid; rw [foldR_yes hXn, hF]
  have HSM : Hid (sameB (({ data := #[K] } : ByteArray) ++ B ++ ({ data := #[0] } : ByteArray)).data.toList F.data.toList = true) := by unfold Hid; rw [hF]; exact same_fold hXn
  have HBL : Hid (B.data.toList = lay81 s.data.toList M M) := hB
  have HFZ : Hid (∀ h : 0 < F.size, (F[0]'h).toNat = M) := hF0
  have HFL : Hid (F.size = M + 2) := hFs
  have HBZ : Hid (B.size = M) := hBs
  have HXL : Hid ((({ data := #[K] } : ByteArray) ++ B ++ ({ data := #[0] } : ByteArray)).size = M + 2) := hXs
  have hcv : ∀ (u : World) (g : Nat), g = u.heap.size → (convert 40 9 (.slice (some ⟨g, 0, none⟩) 1 1)).run Try.prog (u.alloc (.cells #[.int .u8 (M : Int)] 5)) = .ok (.string ⟨#[K]⟩) (u.alloc (.cells #[.int .u8 (M : Int)] 5)) := fun u g hg => by
    subst hg
    have := conv_lit [K] u
    simp only [List.map_cons, List.map_nil, bv, hK] at this
    exact this
  have HCV : Hid (∀ (u : World) (g : Nat), g = u.heap.size → (convert 40 9 (.slice (some ⟨g, 0, none⟩) 1 1)).run Try.prog (u.alloc (.cells #[.int .u8 (M : Int)] 5)) = .ok (.string ⟨#[K]⟩) (u.alloc (.cells #[.int .u8 (M : Int)] 5))) := hcv
  clear hcv hF hXl hXn hXs hFs hF0 hB hBs hK
  go_enter Try.func7, Try.ntmps7
  go_wp2_with (first
    | (go_at_call 24; refine (awake_any _).mono ?_; rintro e w1 ⟨rfl, b1⟩; replace hb := next hb b1; clear b1)
    | (at_make; refine wpList_make_full _ rfl _ _ 40 rfl w.heap.size 5 i0 (.int .u8 0) 1 Try.underlying40 hi hz0 hz1 .i64 .i64 _ _ M rfl rfl rfl rfl (by rw [hz2]; omega) (by unfold maxLen; omega) hb.size ?_; intro w2 hown hgrow; replace hb := next hb (below_of hgrow); clear hgrow))
  obtain ⟨g, hg⟩ : ∃ g, g = w1.heap.size := ⟨_, rfl⟩
  rw [← hg] at hown ⊢
  have hgw : w.heap.size ≤ g := (hown.lt g rfl).1
  clear hg
  go_loopw [7] (fun i wr => ∃ j : Nat, j ≤ M ∧ i = .int .i64 j ∧ wr.ownsRow w.heap.size 5 1 (.slice (some ⟨g, 0, none⟩) M M) M ((lay81 s.data.toList M j).map bv) ∧ Below w.heap.size w wr) (fun i _ => M - (intOf i).toNat)
  case atStart => exact ⟨0, Nat.zero_le _, rfl, by rw [lay81_zero]; have := hown; rw [Nat.mul_one, show (Value.int .u8 0).cells = #[.int .u8 0] from rfl, made_zero] at this; simpa using this, hb⟩
  case round =>
    clear hown hb
    obtain ⟨j, hj, rfl, hown, hb⟩ := hrel
    by_cases hjM : j < M
    · have hjM2 : (j : Int) < (M : Int) := by omega
      have hst := hown.stored j (.int .u8 81)
      have hcell : ∃ v, wr.cell? ⟨g, j, none⟩ = some v := by
        rw [hown.cellAt j (by omega)]
        exact ⟨_, List.getElem?_eq_getElem (by simp [lay81_len]; omega)⟩
      obtain ⟨v0, hcell⟩ := hcell
      have hfro := hown.frozenAt j
      have hb2 : Below w.heap.size w (wr.setCell ⟨g, j, none⟩ (.int .u8 81)) := hb.grown hst.2 hb.size (fun q e => by have := Option.some.inj e; omega)
      by_cases hjs : j < s.size
      · have hcell2 : ∃ v, (wr.setCell ⟨g, j, none⟩ (.int .u8 81)).cell? ⟨g, j, none⟩ = some v := by
          rw [hst.1.cellAt j (by omega)]
          exact ⟨_, List.getElem?_eq_getElem (by simp [lay81_len]; omega)⟩
        obtain ⟨v1, hcell2⟩ := hcell2
        have hfro2 := hst.1.frozenAt j
        have hst2 := hst.1.stored j (.int .u8 (s[j].toNat : Int))
        have hb3 := hb2.grown hst2.2 hb2.size (fun q e => by have := Option.some.inj e; omega)
        have HO : Hid (((wr.setCell ⟨g, j, none⟩ (.int .u8 81)).setCell ⟨g, j, none⟩ (.int .u8 (s[j].toNat : Int))).ownsRow w.heap.size 5 1 (.slice (some ⟨g, 0, none⟩) M M) M ((lay81 s.data.toList M (j + 1)).map bv)) := by
          have h3 := hst2.1
          rw [show (Value.int .u8 81) = .int .u8 (((81 : UInt8).toNat : Nat) : Int) from rfl] at h3
          have e : s.data.toList.getD j 81 = s[j] := by simp [hjs]; rfl
          have e2 := lay81_set s.data.toList M j hjM
          rw [e] at e2
          rw [set_cells, set_cells, set_twice, e2] at h3
          exact h3
        have HB3 : Hid (Below w.heap.size w ((wr.setCell ⟨g, j, none⟩ (.int .u8 81)).setCell ⟨g, j, none⟩ (.int .u8 (s[j].toNat : Int)))) := hb3
        clear hst hst2 hb2 hb3
        have hjs2 : (j : Int) < (s.size : Int) := by omega
        go_wp2
        go_roundw
        case rel => exact ⟨j + 1, by omega, by go_num, HO.out, HB3.out⟩
        case measure => simp [intOf]; omega
      · have HO : Hid ((wr.setCell ⟨g, j, none⟩ (.int .u8 81)).ownsRow w.heap.size 5 1 (.slice (some ⟨g, 0, none⟩) M M) M ((lay81 s.data.toList M (j + 1)).map bv)) := by
          have h3 := hst.1
          rw [show (Value.int .u8 81) = .int .u8 (((81 : UInt8).toNat : Nat) : Int) from rfl] at h3
          have e : s.data.toList.getD j 81 = 81 := by simp [hjs]
          have e2 := lay81_set s.data.toList M j hjM
          rw [e] at e2
          rw [set_cells, e2] at h3
          exact h3
        have HB2 : Hid (Below w.heap.size w (wr.setCell ⟨g, j, none⟩ (.int .u8 81))) := hb2
        clear hst hb2
        go_wp2
        go_roundw
        case rel => exact ⟨j + 1, by omega, by go_num, HO.out, HB2.out⟩
        case measure => simp [intOf]; omega
    · have hjM2 : j = M := by omega
      rw [hjM2] at hown
      have HJ : Hid (j = M) := hjM2
      clear hjM2
      have hcv := HCV.out
      have hBs := HBZ.out
      have hFs : (F.size : Int) = 1 + (M : Int) + 1 := by have := HFL.out; omega
      have hF0 := HFZ.out
      go_wp2_with (first
        | (refine wpList_stringB _ rfl (.tmp 41) rfl w.heap.size M _ B rfl (by rw [HBL.out]; exact hown.alloc _) ?_)
        | (go_at_call 15; go_must (refine (fold_as _ F _ HXS.out HFO.out).mono ?_); rintro e w3 ⟨rfl, b1⟩; have hb4 := next (lay hb _) b1; clear b1)
        | (go_at_call 25; go_must (refine (refMay_as _ true _ HXS.out HXN.out).mono ?_); rintro e w3 ⟨rfl, b1⟩; replace hb4 := next hb4 b1; clear b1)
        | (go_at_call 17; go_must (refine (same_as _ F true _ HXS.out HFS.out HSM.out).mono ?_); rintro e w3 ⟨rfl, b1⟩; replace hb4 := next hb4 b1; clear b1))
      go_ret
      exact ⟨rfl, hb4⟩

theorem walk (a0 : Int) (a1 : ByteArray) (_ : (Lit.int .i64 a0).wf = true) (s1 : a1.size ≤ maxLen) (w : World) :
    Calls Try.prog 7 #[.int .i64 a0, .string a1] w fun e w' => e = .returned (.bool true) ∧ Below w.heap.size w w' := by
  obtain ⟨k, hk⟩ : ∃ k : Nat, bits .and .i64 a0 63 = (k : Int) := ⟨(a0 % 64).toNat, by rw [i64_and63]; omega⟩
  have hk1 : k ≤ 63 := by rw [i64_and63] at hk; omega
  by_cases h : k = 63
  · exact walk_great a0 a1 w (by rw [hk, h]; rfl)
  · exact walk_small a0 a1 k (1 + k) s1 w hk (by omega) (by omega) (by omega)

theorem own : ownKnob Try.prog.godebug = none := by kernel_rfl

set_option maxRecDepth 100000 in
theorem lifted (os : Os) (started : os.Started) (H : Type) (enc : TypeId × Value → H) :
    ReturnsInHanded {} Try.checked os 7 .any (Rows.relLengthsSpec.pre6 enc Try.prog Try.f7 Rows.relLengthsRow.domain false) (Rows.relLengthsSpec.post enc Try.prog Try.f7 false true false false) := by
  refine returnsInHanded_of_change (C := Try.checked) own started (by kernel_rfl) Try.func7
    (ChangeSpec.witness6 (enc := enc) (C := Try.checked) false ⟨#[], #[.int .i64 0, .string ByteArray.empty], []⟩ 8 (by kernel_rfl) (by kernel_rfl) (by kernel_rfl) (by kernel_rfl)) ?_
  intro W base args ds gs before hval0 hW _ _
  have hval : ∀ (j : Nat) t v, Try.f7.params[j]? = some t → args[j]? = some v → Value.okWide Try.prog W .any base t v := hval0
  have hW' := hW
  obtain ⟨p, q, hA0, hV, rfl, hfz, hnd⟩ := hW
  have hA : DataW.TrodAll enc Try.prog W 0 (fun _ => true) true Try.f7.params.toList args.toList ds p := hA0
  rw [Try.params7] at hA hval
  obtain ⟨v0, vs0, d0, ds0, p0, q0, hargs, rfl, rfl, h0, r0⟩ := trodAll_cons hA
  obtain ⟨v1, vs1, d1, ds1, p1, q1, rfl, rfl, rfl, h1, r1⟩ := trodAll_cons r0
  obtain ⟨rfl, rfl, rfl⟩ := trodAll_nil r1
  obtain rfl : args = #[v0, v1] := by cases args; simp_all
  obtain ⟨rfl, rfl⟩ := trodVars_none hV
  obtain ⟨a0, rfl, rfl, rfl, w0⟩ := open_int Try.underlying3 (hval 0 3 v0 rfl rfl) h0
  obtain ⟨a1, rfl, rfl, rfl, w1⟩ := open_string Try.underlying9 (hval 1 9 v1 rfl rfl) h1
  clear hA0 hval0
  simp only [List.append_nil] at hW'
  refine (walk a0 a1 w0 w1 W).mono fun e W' ⟨he, bel⟩ => ?_
  subst he
  exact ⟨_, rfl, _, _, _, [], [], [], hW', trodAll_mk1 (shut_bool Try.underlying4 _), (trodAll_cons_mk (shut_int Try.underlying3 w0) (trodAll_cons_mk (shut_string Try.underlying9 w1) trodAll_mk0)), rfl, bel.frame _, fun h => by cases h⟩

/-- The statement. -/
theorem proved : Rows.RelLengthsSaid :=
  OpenClaim.holds_of_wide 7 Try.f7 rfl rfl rfl rfl rfl rfl rfl ⟨rfl, rfl, rfl, rfl, rfl⟩ rfl rfl rfl rfl rfl (by kernel_rfl) Try.func7 (by kernel_rfl)
    (of_decide_eq_true (by kernel_rfl)) (by unfold Func.isWrapper; first | (rw [if_pos (by decide +kernel)]; kernel_rfl) | (rw [if_neg (by decide +kernel)]; exact ⟨rfl, rfl⟩))
    (fun os started H enc _ => lifted os started H enc)
#print axioms proved

end Go.Proofs.Yteibmkaghikloaa.relLengths
