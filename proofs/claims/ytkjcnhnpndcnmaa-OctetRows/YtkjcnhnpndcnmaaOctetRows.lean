/- OctetRows holds: for every row of numbers, what Put16 and Put32 put one behind the other is read again, each number where the one ahead ended. -/
import Derived.Test.YtkjcnhnpndcnmaaOctC
import Derived.ChangeSlices
import Derived.Carry
import Derived.ProofKit
import Derived.OpenShut
import Derived.LoopN
namespace Go.Proofs.Ytkjcnhnpndcnmaa.octetRows
open Go.ChangeShapes Go.WideShapes Go.ChangeAt Go.RowKit

/-- Numbers one behind the other, in turn as two bytes and as four. -/
def rowE : Nat → List Int → List UInt8
  | _, [] => []
  | i, x :: xs => (if i % 2 = 0 then (be2 x).data.toList else (be4 x).data.toList) ++ rowE (i + 1) xs
theorem rowE_snoc (x : Int) : ∀ (l : List Int) (i : Nat), rowE i (l ++ [x]) = rowE i l ++ (if (i + l.length) % 2 = 0 then (be2 x).data.toList else (be4 x).data.toList)
  | [], i => by simp [rowE]
  | y :: l, i => by
    simp only [List.cons_append, rowE, List.length_cons]
    rw [rowE_snoc x l (i + 1), List.append_assoc, show i + 1 + l.length = i + (l.length + 1) from by omega]
theorem take_snoc {Z : List Int} {j : Nat} (h : j < Z.length) : Z.take (j + 1) = Z.take j ++ [Z.getD j 0] := by
  rw [List.take_succ_eq_append_getElem h, List.getD_eq_getElem?_getD, List.getElem?_eq_getElem h]; rfl
theorem drop_cons {Z : List Int} {j : Nat} (h : j < Z.length) : Z.drop j = Z.getD j 0 :: Z.drop (j + 1) := by
  rw [List.drop_eq_getElem_cons h, List.getD_eq_getElem?_getD, List.getElem?_eq_getElem h]; rfl

theorem put_even {S : ByteArray} {Z : List Int} {j : Nat} {x : Int} (h : S.data.toList = rowE 0 (Z.take j)) (hj : j < Z.length) (hx : Z.getD j 0 = x) (he : j % 2 = 0) : (S ++ be2 x).data.toList = rowE 0 (Z.take (j + 1)) := by
  rw [take_snoc hj, rowE_snoc, app_list, h, hx, List.length_take, if_pos (by rw [Nat.min_eq_left (by omega)]; omega)]
theorem put_odd {S : ByteArray} {Z : List Int} {j : Nat} {x : Int} (h : S.data.toList = rowE 0 (Z.take j)) (hj : j < Z.length) (hx : Z.getD j 0 = x) (he : j % 2 = 1) : (S ++ be4 x).data.toList = rowE 0 (Z.take (j + 1)) := by
  rw [take_snoc hj, rowE_snoc, app_list, h, hx, List.length_take, if_neg (by rw [Nat.min_eq_left (by omega)]; omega)]
theorem get_even {S : ByteArray} {Z : List Int} {j k : Nat} {x : Int} (h : S.data.toList.drop k = rowE j (Z.drop j)) (hj : j < Z.length) (hx : Z.getD j 0 = x) (he : j % 2 = 0) :
    S.data.toList.drop k = oct x 256 :: oct x 1 :: rowE (j + 1) (Z.drop (j + 1)) := by
  rw [h, drop_cons hj, hx]
  show (if j % 2 = 0 then (be2 x).data.toList else (be4 x).data.toList) ++ _ = _
  rw [if_pos he]; rfl
theorem get_odd {S : ByteArray} {Z : List Int} {j k : Nat} {x : Int} (h : S.data.toList.drop k = rowE j (Z.drop j)) (hj : j < Z.length) (hx : Z.getD j 0 = x) (he : j % 2 = 1) :
    S.data.toList.drop k = oct x 16777216 :: oct x 65536 :: oct x 256 :: oct x 1 :: rowE (j + 1) (Z.drop (j + 1)) := by
  rw [h, drop_cons hj, hx]
  show (if j % 2 = 0 then (be2 x).data.toList else (be4 x).data.toList) ++ _ = _
  rw [if_neg (by omega)]; rfl
theorem past {S : ByteArray} {k : Nat} {l m : List UInt8} (h : S.data.toList.drop k = l ++ m) : S.data.toList.drop (k + l.length) = m := by
  rw [← List.drop_drop, h, List.drop_left]
theorem within {S : ByteArray} {k : Nat} {l : List UInt8} (h : S.data.toList.drop k = l) : k ≤ S.size → k + l.length = S.size := fun hk => by
  have := congrArg List.length h
  rw [List.length_drop, data_len] at this
  omega

/-- A row of numbers that came in. -/
def IArg (w : World) (v : Value) (N : Nat) (zs : List Int) : Prop :=
  (v = .slice none 0 0 ∧ N = 0) ∨ ∃ (a : Addr) (cap : Nat), v = .slice (some a) N cap ∧ N ≤ maxLen ∧ ∀ i, i < N → w.cell? (a.add i) = some (.int .i64 (zs.getD i 0))

theorem walk_nil (w : World) : Calls Try.prog 6 #[.slice none 0 0] w fun e w' => e = .returned (.bool true) ∧ Below w.heap.size w w' := by
  go_enter Try.func6, Try.ntmps6
  go_wp2_with (first
    | (go_at_call 14; go_must (refine (awake_any _).mono ?_); rintro e w0 ⟨rfl, b0⟩))
  go_loopw [3, 4] (fun s i wr => s = .string ⟨#[]⟩ ∧ i = .int .i64 0 ∧ wr = w0) (fun _ _ _ => 0)
  case atStart => exact ⟨rfl, rfl, rfl⟩
  case round =>
    obtain ⟨rfl, rfl, hw⟩ := hrel; obtain rfl := hw.symm
    go_wp2
    go_loopw [5, 6] (fun k i wr => k = .int .i64 0 ∧ i = .int .i64 0 ∧ wr = w0) (fun _ _ _ => 0)
    case atStart => exact ⟨rfl, rfl, rfl⟩
    case round =>
      obtain ⟨rfl, rfl, hw⟩ := hrel; obtain rfl := hw.symm
      go_wp2_with (first
        | (go_at_call 7; go_must (refine (u16_no ⟨#[]⟩ 0 _ (by unfold maxLen; decide) (by decide)).mono ?_); rintro e w' ⟨rfl, hw⟩; obtain rfl := hw.symm)
        | (go_at_call 10; refine (num_any _ _).mono ?_; rintro e w' ⟨rfl, hw⟩; obtain rfl := hw.symm))
      go_ret
      exact ⟨rfl, b0⟩

set_option maxRecDepth 20000 in
set_option maxHeartbeats 2000000 in
theorem walk_some (a : Addr) (N cap M : Nat) (zs Z : List Int) (w : World) (hN : N ≤ maxLen) (hM : M = min N 60) (hZ : Z = zs.take M) (hZM : Z.length = M) (hc : ∀ i, i < N → w.cell? (a.add i) = some (.int .i64 (zs.getD i 0))) :
    Calls Try.prog 6 #[.slice (some a) N cap] w fun e w' => e = .returned (.bool true) ∧ Below w.heap.size w w' := by
  unfold maxLen at hN
  have HC : Hid (∀ i, i < M → ∀ u, Below w.heap.size w u → u.cell? (a.add i) = some (.int .i64 (Z.getD i 0))) := fun i hi u hu => by
    have h1 := hc i (by omega)
    have h2 : (a.add i).block < w.heap.size := World.block_lt_of_cell? _ _ h1
    rw [hu.cell h2, h1, hZ]
    congr 2
    rw [List.getD_eq_getElem?_getD, List.getD_eq_getElem?_getD, List.getElem?_take_of_lt hi]
  have HZ : Hid (Z.length = M) := hZM
  have hMN : M ≤ N := by omega
  have hM60 : M ≤ 60 := by omega
  have HE : Hid (∀ j, j ≤ M → ¬ j < M → decide (j < N) = false ∨ (j < N ∧ decide ((j : Int) < 60) = false)) := fun j h1 h2 => by
    by_cases h3 : j < N
    · exact .inr ⟨h3, by simp; omega⟩
    · exact .inl (by simp; omega)
  clear hc hM hZ hZM
  have hb : Below w.heap.size w w := Below.refl _ _
  go_enter Try.func6, Try.ntmps6
  go_wp2_with (first
    | (go_at_call 14; go_must (refine (awake_any _).mono ?_); rintro e w0 ⟨rfl, b0⟩; replace hb := next hb b0; clear b0))
  go_loopw [3, 4] (fun s i wr => ∃ (j : Nat) (S : ByteArray), j ≤ M ∧ s = .string S ∧ i = .int .i64 (j : Int) ∧ S.size ≤ 4 * j ∧ Hid (S.data.toList = rowE 0 (Z.take j)) ∧ Below w.heap.size w wr) (fun _ i _ => M - (intOf i).toNat)
  case atStart => exact ⟨0, ⟨#[]⟩, Nat.zero_le _, rfl, rfl, by decide, rfl, hb⟩
  case round =>
    clear hb
    obtain ⟨j, S, hj, rfl, rfl, hS, HS, hb⟩ := hrel
    by_cases hjM : j < M
    · have hjN : j < N := by omega
      have hj60 : (j : Int) < 60 := by omega
      have hcell := HC.out j hjM wr hb
      obtain ⟨x, hx⟩ : ∃ x, Z.getD j 0 = x := ⟨_, rfl⟩
      rw [hx] at hcell
      have HX : Hid (Z.getD j 0 = x) := hx
      clear hx
      have hm := mask1 (j : Int)
      by_cases hp : j % 2 = 0
      · have hm0 : bits .and .i64 (j : Int) 1 = 0 := by rw [hm]; omega
        have HP : Hid (j % 2 = 0) := hp
        have hz : S.size + (be2 x).size ≤ 1000 := by have : (be2 x).size = 2 := rfl; omega
        clear hm hp
        go_wp2_with (first
          | (go_at_call 11; go_must (refine (put16_any x _).mono ?_); rintro e w1 ⟨rfl, b1⟩; replace hb := next hb b1; clear b1))
        go_roundw
        case rel => exact ⟨j + 1, S ++ be2 x, by omega, rfl, by go_num, by rw [ByteArray.size_append]; have : (be2 x).size = 2 := rfl; omega, put_even HS.out (by rw [HZ.out]; exact hjM) HX.out HP.out, hb⟩
        case measure => simp [intOf]; omega
      · have hm0 : bits .and .i64 (j : Int) 1 = 1 := by rw [hm]; omega
        have HP : Hid (j % 2 = 1) := by unfold Hid; omega
        have hz : S.size + (be4 x).size ≤ 1000 := by have : (be4 x).size = 4 := rfl; omega
        clear hm hp
        go_wp2_with (first
          | (go_at_call 13; go_must (refine (put32_any x _).mono ?_); rintro e w1 ⟨rfl, b1⟩; replace hb := next hb b1; clear b1))
        go_roundw
        case rel => exact ⟨j + 1, S ++ be4 x, by omega, rfl, by go_num, by rw [ByteArray.size_append]; have : (be4 x).size = 4 := rfl; omega, put_odd HS.out (by rw [HZ.out]; exact hjM) HX.out HP.out, hb⟩
        case measure => simp [intOf]; omega
    · have hjM' : j = M := by omega
      have HS2 : Hid (S.data.toList = rowE 0 Z) := by
        have h1 := HS.out
        rw [hjM', List.take_of_length_le (by rw [HZ.out]; exact Nat.le_refl _)] at h1
        exact h1
      have hS2 : S.size ≤ 240 := by omega
      have HSM : Hid (S.size ≤ maxLen) := by unfold Hid maxLen; omega
      have he := HE.out j hj hjM
      clear hjM' HS hS hjM hj
      rcases he with he | ⟨he, he2⟩
      all_goals
        go_wp2
        go_loopw [5, 6] (fun p i wq => ∃ (j k : Nat), j ≤ M ∧ p = .int .i64 (k : Int) ∧ i = .int .i64 (j : Int) ∧ k ≤ S.size ∧ Hid (S.data.toList.drop k = rowE j (Z.drop j)) ∧ Below w.heap.size w wq) (fun _ i _ => M - (intOf i).toNat)
        case atStart => exact ⟨0, 0, Nat.zero_le _, rfl, rfl, Nat.zero_le _, HS2, hb⟩
        case round =>
          clear hb he
          try clear he2
          obtain ⟨i, k, hi, rfl, rfl, hk, HD, hb⟩ := hrel
          by_cases hiM : i < M
          · have hiN : i < N := by omega
            have hi60 : (i : Int) < 60 := by omega
            have hcell := HC.out i hiM wr hb
            obtain ⟨x, hx⟩ : ∃ x, Z.getD i 0 = x := ⟨_, rfl⟩
            rw [hx] at hcell
            have hm := mask1 (i : Int)
            by_cases hp : i % 2 = 0
            · have hm0 : bits .and .i64 (i : Int) 1 = 0 := by rw [hm]; omega
              have m16 := mask16 x
              have hg := get_even HD.out (by rw [HZ.out]; exact hiM) hx hp
              have HG : Hid (S.data.toList.drop k = oct x 256 :: oct x 1 :: rowE (i + 1) (Z.drop (i + 1))) := hg
              have hk2 : k + 2 ≤ S.size := by have := within hg hk; simp at this; omega
              have HN : Hid (S.data.toList.drop (k + 2) = rowE (i + 1) (Z.drop (i + 1))) := past (l := [oct x 256, oct x 1]) hg
              have HX : Hid (Z.getD i 0 = x) := hx
              clear hm hp hg hx
              go_wp2_with (first
                | (go_at_call 7; go_must (refine (u16_at S k x _ _ HSM.out HG.out).mono ?_); rintro e w1 ⟨rfl, b1⟩; replace hb := next hb (below_drew b1); have hc1 : w1.cell? (a.add i) = some (.int .i64 x) := (HC.out i hiM w1 hb).trans (by rw [HX.out]); clear hcell b1)
                | (go_at_call 10; refine (num_any _ _).mono ?_; rintro e w' ⟨rfl, hw⟩; obtain rfl := hw.symm))
              go_roundw
              case rel => exact ⟨i + 1, k + 2, by omega, by go_num, by go_num, hk2, HN, hb⟩
              case measure => simp [intOf]; omega
            · have hm0 : bits .and .i64 (i : Int) 1 = 1 := by rw [hm]; omega
              have m32 := mask32 x
              have hg := get_odd HD.out (by rw [HZ.out]; exact hiM) hx (by omega)
              have HG : Hid (S.data.toList.drop k = oct x 16777216 :: oct x 65536 :: oct x 256 :: oct x 1 :: rowE (i + 1) (Z.drop (i + 1))) := hg
              have hk2 : k + 4 ≤ S.size := by have := within hg hk; simp at this; omega
              have HN : Hid (S.data.toList.drop (k + 4) = rowE (i + 1) (Z.drop (i + 1))) := past (l := [oct x 16777216, oct x 65536, oct x 256, oct x 1]) hg
              have HX : Hid (Z.getD i 0 = x) := hx
              clear hm hp hg hx
              go_wp2_with (first
                | (go_at_call 9; go_must (refine (u32_at S k x _ _ HSM.out HG.out).mono ?_); rintro e w1 ⟨rfl, b1⟩; replace hb := next hb (below_drew b1); have hc1 : w1.cell? (a.add i) = some (.int .i64 x) := (HC.out i hiM w1 hb).trans (by rw [HX.out]); clear hcell b1)
                | (go_at_call 10; refine (num_any _ _).mono ?_; rintro e w' ⟨rfl, hw⟩; obtain rfl := hw.symm))
              go_roundw
              case rel => exact ⟨i + 1, k + 4, by omega, by go_num, by go_num, hk2, HN, hb⟩
              case measure => simp [intOf]; omega
          · have hkS : k = S.size := by
              have h1 := HD.out
              have h2 : Z.drop i = [] := List.drop_of_length_le (by rw [HZ.out]; omega)
              rw [h2] at h1
              have := within h1 hk
              simpa [rowE] using this
            have he := HE.out i hi hiM
            subst hkS
            clear HD hk hiM
            rcases he with he | ⟨he, he2⟩
            all_goals
              go_wp2_with (first
                | (go_at_call 7; go_must (refine (u16_no S _ _ HSM.out (.inr (by omega))).mono ?_); rintro e w' ⟨rfl, hw⟩; obtain rfl := hw.symm)
                | (go_at_call 10; refine (num_any _ _).mono ?_; rintro e w' ⟨rfl, hw⟩; obtain rfl := hw.symm))
              go_ret
              exact ⟨rfl, hb⟩

theorem walk (v : Value) (N : Nat) (zs : List Int) (hz : N ≤ zs.length) (w : World) (h : IArg w v N zs) :
    Calls Try.prog 6 #[v] w fun e w' => e = .returned (.bool true) ∧ Below w.heap.size w w' := by
  rcases h with ⟨rfl, _⟩ | ⟨a, cap, rfl, hN, hc⟩
  · exact walk_nil w
  · exact walk_some a N cap (min N 60) zs _ w hN rfl rfl (by rw [List.length_take]; omega) hc

theorem own : ownKnob Try.prog.godebug = none := by kernel_rfl
theorem laidOut : laidOutB Try.prog = true := by kernel_rfl
theorem cells3 : Try.prog.cellsOf 3 = 1 := by kernel_rfl

set_option maxRecDepth 100000 in
theorem lifted (os : Os) (started : os.Started) (H : Type) (enc : TypeId × Value → H) :
    ReturnsInHanded {} Try.checked os 6 .any (Rows.octetRowsSpec.pre6 enc Try.prog Try.f6 Rows.octetRowsRow.domain false) (Rows.octetRowsSpec.post enc Try.prog Try.f6 false true false false) := by
  refine returnsInHanded_of_change (C := Try.checked) own started (by kernel_rfl) Try.func6
    (ChangeSpec.witness6 (enc := enc) (C := Try.checked) false ⟨#[], #[.slice none 0 0], []⟩ 8 (by kernel_rfl) (by kernel_rfl) (by kernel_rfl) (by kernel_rfl)) ?_
  intro W base args ds gs before hval0 hW _ _
  have hval : ∀ (j : Nat) t v, Try.f6.params[j]? = some t → args[j]? = some v → Value.okWide Try.prog W .any base t v := hval0
  have hW' := hW
  obtain ⟨p, q, hA0, hV, rfl, hfz, hnd⟩ := hW
  have hA : DataW.TrodAll enc Try.prog W 0 (fun _ => true) true Try.f6.params.toList args.toList ds p := hA0
  rw [Try.params6] at hA hval
  obtain ⟨v0, vs0, d0, ds0, p0, q0, hargs, rfl, rfl, h0, r0⟩ := trodAll_cons hA
  obtain ⟨rfl, rfl, rfl⟩ := trodAll_nil r0
  obtain rfl : args = #[v0] := by cases args; simp_all
  obtain ⟨rfl, rfl⟩ := trodVars_none hV
  obtain ⟨x0, len, cap, rfl⟩ := okWide_slice Try.underlying33 (hval 0 33 v0 rfl rfl)
  have h0k := h0
  obtain ⟨fuel, hf⟩ := h0
  have hf' : DataW.trod enc Try.prog W 0 (fun _ => true) true fuel 33 [.slice x0 len cap] = some (d0, p0) := by simpa [Value.cells] using hf
  have iarg : ∃ zs : List Int, len ≤ zs.length ∧ IArg W (.slice x0 len cap) len zs := by
    rcases open_ints Try.underlying33 Try.underlying3 cells3 hf' with ⟨hcs, _⟩ | ⟨a, len', cap', zs, hcs, _, hl, hm, hz, hx, hcell, hws⟩
    · simp at hcs
      obtain ⟨rfl, rfl, rfl⟩ := hcs
      exact ⟨[], Nat.le_refl _, .inl ⟨rfl, rfl⟩⟩
    · simp at hcs
      obtain ⟨rfl, rfl, rfl⟩ := hcs
      rw [if_pos rfl] at hz
      exact ⟨zs, by omega, .inr ⟨a, cap, rfl, by omega, fun i hi => hcell i (by omega)⟩⟩
  obtain ⟨zs, hzl, iarg⟩ := iarg
  have hlt : ∀ x ∈ p0, x.block < W.heap.size := fun x hx => by
    have := hW'.lt x (by simpa using hx)
    simpa using this
  clear hA0 hval0
  simp only [List.append_nil] at hW'
  refine (walk _ len zs hzl W iarg).mono fun e W' ⟨he, bel⟩ => ?_
  subst he
  exact ⟨_, rfl, _, _, _, [], p0, [], hW', trodAll_mk1 (shut_bool Try.underlying4 _), trodAll_mk1 (Below.trod laidOut (by kernel_rfl) (of_decide_eq_true (by kernel_rfl)) h0k bel hlt), rfl, bel.frame _, fun h => by cases h⟩

/-- The statement. -/
theorem proved : Rows.OctetRowsSaid :=
  OpenClaim.holds_of_wide 6 Try.f6 rfl rfl rfl rfl rfl rfl rfl ⟨rfl, rfl, rfl, rfl, rfl⟩ rfl rfl rfl rfl rfl (by kernel_rfl) Try.func6 (by kernel_rfl)
    (of_decide_eq_true (by kernel_rfl)) (by unfold Func.isWrapper; first | (rw [if_pos (by decide +kernel)]; kernel_rfl) | (rw [if_neg (by decide +kernel)]; exact ⟨rfl, rfl⟩))
    (fun os started H enc _ => lifted os started H enc)
#print axioms proved

end Go.Proofs.Ytkjcnhnpndcnmaa.octetRows
