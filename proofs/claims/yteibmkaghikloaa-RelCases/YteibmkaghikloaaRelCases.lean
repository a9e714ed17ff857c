/- RelCases holds: for every two numbers, the bytes that they tell count alike as labels just where they are alike when folded, and come in the order of what they are folded to. -/
import Derived.Test.YteibmkaghikloaaWalkP
import Derived.RegionTactic
import Derived.Deep.RegionWith
import Derived.ProofKit
import Derived.OpenShut
import Derived.ShutString
namespace Go.Proofs.Yteibmkaghikloaa.relCases
open Go.ChangeShapes Go.WideShapes Go.ChangeAt Go.RowKit
open Pl

theorem folded_any (b : UInt8) (w : World) :
    Calls Try.prog 27 #[.int .u8 (b.toNat : Int)] w fun e w' => e = .returned (.int .u8 ((fb b).toNat : Int)) ∧ w' = w := by
  have hb := b.toNat_lt
  have hf := fb_nat b
  by_cases h1 : 65 ≤ b.toNat
  · by_cases h2 : b.toNat ≤ 90
    · rw [if_pos ⟨h1, h2⟩] at hf
      rw [hf]
      clear hf
      go_enter Try.func27, Try.ntmps27
      go_wp2
      go_ret
      exact ⟨ret_int (by omega), rfl⟩
    · rw [if_neg (by omega)] at hf
      rw [hf]
      clear hf
      go_enter Try.func27, Try.ntmps27
      go_wp2
      go_ret
      exact ⟨rfl, rfl⟩
  · rw [if_neg (by omega)] at hf
    rw [hf]
    clear hf
    go_enter Try.func27, Try.ntmps27
    go_wp2
    go_ret
    exact ⟨rfl, rfl⟩

/-- The name of one label of one byte. -/
abbrev N1 (b : UInt8) : ByteArray := ({ data := #[1] } : ByteArray) ++ ({ data := #[b] } : ByteArray) ++ ({ data := #[0] } : ByteArray)
theorem n1_list (b : UInt8) : (N1 b).data.toList = [1, b, 0] := by simp
theorem n1_size (b : UInt8) : (N1 b).size ≤ maxLen := by rw [← data_len, n1_list]; unfold maxLen; simp
theorem n1_enc (b : UInt8) : [1, b, 0] = enc [[b]] := by simp [enc, pre]
theorem n1_name (b : UInt8) : isName [1, b, 0] = true ∧ labs [1, b, 0] = [[b]] := by
  have := name_enc (ls := [[b]]) (by intro x hx; simp at hx; subst hx; simp) (by rw [← n1_enc]; simp)
  rw [← n1_enc] at this
  exact ⟨this.1, this.2.2⟩
theorem n1_fl (b : UInt8) : fl [1, b, 0] = [[fb b]] := by unfold fl; rw [(n1_name b).2]; rfl
theorem n1_cmp (x y : UInt8) : cmpN [1, x, 0] [1, y, 0] = sgn ((fb x).toNat : Int) ((fb y).toNat : Int) := by
  unfold cmpN
  rw [n1_fl, n1_fl]
  simp only [lexG, cB]
  by_cases h : sgn ((fb x).toNat : Int) ((fb y).toNat : Int) = 0
  · simp [h]
  · simp [h]
theorem n1_fold (b : UInt8) : foldL [1, b, 0] = [1, fb b, 0] := by
  unfold foldL
  simp
  exact ⟨by decide, by decide⟩
theorem byte_eq (x y : UInt8) : (((fb x).toNat : Int) == ((fb y).toNat : Int)) = decide (fb x = fb y) := by
  rw [Bool.eq_iff_iff]
  simp only [beq_iff_eq, decide_eq_true_eq]
  constructor
  · intro h; exact UInt8.toNat_inj.1 (by omega)
  · intro h; rw [h]
theorem n1_same (x y : UInt8) : sameB [1, x, 0] [1, y, 0] = (((fb x).toNat : Int) == ((fb y).toNat : Int)) := by
  rw [byte_eq, Bool.eq_iff_iff, same_iff, n1_fl, n1_fl]
  simp [(n1_name x).1, (n1_name y).1]
theorem n1_above (x y : UInt8) : aboveB [1, x, 0] [1, y, 0] = (((fb x).toNat : Int) == ((fb y).toNat : Int)) := by
  rw [byte_eq, Bool.eq_iff_iff, above_iff, n1_fl, n1_fl]
  simp [(n1_name x).1, (n1_name y).1]

theorem sgn_zero (x y : Int) : (sgn x y == 0) = (x == y) := by
  unfold sgn
  rw [Bool.eq_iff_iff]
  split
  · simp; omega
  · split
    · simp; omega
    · simp; omega
theorem sgn_neg (x y : Int) : decide (sgn x y < 0) = decide (x < y) := by
  unfold sgn
  rw [Bool.eq_iff_iff]
  split
  · simp; omega
  · split
    · simp; omega
    · simp; omega

set_option maxRecDepth 20000 in
set_option maxHeartbeats 4000000 in
theorem walk_at (a0 a1 : Int) (x y : UInt8) (w : World) (hx : IntKind.u8.wrap a0 = (x.toNat : Int)) (hy : IntKind.u8.wrap a1 = (y.toNat : Int)) (u v : Bool) (c : Int)
    (hu : (((fb x).toNat : Int) == ((fb y).toNat : Int)) = u) (hv : decide ((fb x).toNat < (fb y).toNat) = v) (hc : sgn ((fb x).toNat : Int) ((fb y).toNat : Int) = c) (hcase : (u = true ∧ v = false ∧ c = 0) ∨ (u = false ∧ v = true ∧ c = -1) ∨ (u = false ∧ v = false ∧ c = 1)) :
    Calls Try.prog 6 #[.int .i64 a0, .int .i64 a1] w fun e w' => e = .returned (.bool true) ∧ Below w.heap.size w w' := by
  have hx8 := x.toNat_lt
  have hy8 := y.toNat_lt
  have HS : Hid (sameB (N1 x).data.toList (N1 y).data.toList = u) := by unfold Hid; rw [n1_list, n1_list, n1_same]; exact hu
  have HA : Hid (aboveB (N1 x).data.toList (N1 y).data.toList = u) := by unfold Hid; rw [n1_list, n1_list, n1_above]; exact hu
  have HC : Hid (cmpN (N1 x).data.toList (N1 y).data.toList = c) := by unfold Hid; rw [n1_list, n1_list, n1_cmp]; exact hc
  have HF : Hid (foldR (N1 x).data.toList = (N1 (fb x)).data.toList) := by unfold Hid; rw [n1_list, n1_list, foldR_yes (n1_name x).1, n1_fold]
  have hcv : ∀ (u : World) (g : Nat), g = u.heap.size → (convert 40 9 (.slice (some ⟨g, 0, none⟩) 1 1)).run Try.prog (u.alloc (.cells #[.int .u8 ((fb x).toNat : Int)] 5)) = .ok (.string ⟨#[fb x]⟩) (u.alloc (.cells #[.int .u8 ((fb x).toNat : Int)] 5)) := fun u g hg => by subst hg; exact conv_lit [fb x] u
  have HCV : Hid (∀ (u : World) (g : Nat), g = u.heap.size → (convert 40 9 (.slice (some ⟨g, 0, none⟩) 1 1)).run Try.prog (u.alloc (.cells #[.int .u8 ((fb x).toNat : Int)] 5)) = .ok (.string ⟨#[fb x]⟩) (u.alloc (.cells #[.int .u8 ((fb x).toNat : Int)] 5))) := hcv
  clear hc hcv
  go_enter Try.func6, Try.ntmps6
  go_wp2_with (first
    | (go_at_call 24; refine (awake_any _).mono ?_; rintro e w1 ⟨rfl, hb1⟩))
  have r1 : (convert 40 9 (.slice (some ⟨w1.heap.size, 0, none⟩) 1 1)).run Try.prog (w1.alloc (.cells #[.int .u8 (x.toNat : Int)] 5)).drew = .ok (.string ⟨#[x]⟩) (w1.alloc (.cells #[.int .u8 (x.toNat : Int)] 5)).drew := conv_at _ _ [x] 1 rfl _ (by simp [bv]) (new_at w1 _)
  have r2 : (convert 40 9 (.slice (some ⟨w1.heap.size, 0, none⟩) 1 1)).run Try.prog (w1.alloc (.cells #[.int .u8 (y.toNat : Int)] 5)).drew = .ok (.string ⟨#[y]⟩) (w1.alloc (.cells #[.int .u8 (y.toNat : Int)] 5)).drew := conv_at _ _ [y] 1 rfl _ (by simp [bv]) (new_at w1 _)
  have r3 : (convert 40 9 (.slice (some ⟨w1.heap.size, 0, none⟩) 1 1)).run Try.prog ((w1.alloc (.cells #[.int .u8 (x.toNat : Int)] 5)).alloc (.cells #[.int .u8 (y.toNat : Int)] 5)).drew = .ok (.string ⟨#[x]⟩) ((w1.alloc (.cells #[.int .u8 (x.toNat : Int)] 5)).alloc (.cells #[.int .u8 (y.toNat : Int)] 5)).drew := conv_at _ _ [x] 1 rfl _ (by simp [bv]) (new_under w1 _ _)
  have r4 : (convert 40 9 (.slice (some ⟨w1.heap.size + 1, 0, none⟩) 1 1)).run Try.prog ((w1.alloc (.cells #[.int .u8 (x.toNat : Int)] 5)).alloc (.cells #[.int .u8 (y.toNat : Int)] 5)).drew = .ok (.string ⟨#[y]⟩) ((w1.alloc (.cells #[.int .u8 (x.toNat : Int)] 5)).alloc (.cells #[.int .u8 (y.toNat : Int)] 5)).drew := conv_at _ _ [y] 1 rfl _ (by simp [bv]) (new_over w1 _ _)
  have r5 : (convert 40 9 (.slice (some ⟨w1.heap.size, 0, none⟩) 1 1)).run Try.prog ((w1.alloc (.cells #[.int .u8 (y.toNat : Int)] 5)).alloc (.cells #[.int .u8 (x.toNat : Int)] 5)).drew = .ok (.string ⟨#[y]⟩) ((w1.alloc (.cells #[.int .u8 (y.toNat : Int)] 5)).alloc (.cells #[.int .u8 (x.toNat : Int)] 5)).drew := conv_at _ _ [y] 1 rfl _ (by simp [bv]) (new_under w1 _ _)
  have r6 : (convert 40 9 (.slice (some ⟨w1.heap.size + 1, 0, none⟩) 1 1)).run Try.prog ((w1.alloc (.cells #[.int .u8 (y.toNat : Int)] 5)).alloc (.cells #[.int .u8 (x.toNat : Int)] 5)).drew = .ok (.string ⟨#[x]⟩) ((w1.alloc (.cells #[.int .u8 (y.toNat : Int)] 5)).alloc (.cells #[.int .u8 (x.toNat : Int)] 5)).drew := conv_at _ _ [x] 1 rfl _ (by simp [bv]) (new_over w1 _ _)
  have hb2 : ∀ X Y : Obj, Below w.heap.size w ((w1.alloc X).alloc Y).drew := fun X Y => (lay (lay hb1 _) _).drew
  have HB2 : Hid (∀ X Y : Obj, Below w.heap.size w ((w1.alloc X).alloc Y).drew) := hb2
  clear hb2
  go_region
  all_goals
    clear r1 r2 r3 r4 r5 r6
    have hcv := HCV.out
    rcases hcase with ⟨rfl, rfl, rfl⟩ | ⟨rfl, rfl, rfl⟩ | ⟨rfl, rfl, rfl⟩
  all_goals
    go_wp2_with (first
      | (go_at_call 27; refine (folded_any _ _).mono ?_; rintro e w' ⟨rfl, hw⟩; obtain rfl := hw.symm)
      | (go_at_call 17; go_must (refine (same_as (N1 x) (N1 y) _ _ (n1_size x) (n1_size y) HS.out).mono ?_); rintro e w2 ⟨rfl, b1⟩; have hb := next (HB2.out _ _) b1; clear b1)
      | (go_at_call 19; go_must (refine (above_as (N1 x) (N1 y) _ _ (n1_size x) (n1_size y) HA.out).mono ?_); rintro e w2 ⟨rfl, b1⟩; replace hb := next hb b1; clear b1)
      | (go_at_call 22; go_must (refine (compare_as (N1 x) (N1 y) _ _ (n1_size x) (n1_size y) HC.out).mono ?_); rintro e w2 ⟨rfl, b1⟩; replace hb := next hb b1; clear b1)
      | (go_at_call 15; go_must (refine (fold_as (N1 x) (N1 (fb x)) _ (n1_size x) HF.out).mono ?_); rintro e w2 ⟨rfl, b1⟩; replace hb := next hb b1; clear b1))
    go_ret
    exact ⟨rfl, lay hb _⟩

theorem walk (a0 a1 : Int) (_ : (Lit.int .i64 a0).wf = true) (_ : (Lit.int .i64 a1).wf = true) (w : World) :
    Calls Try.prog 6 #[.int .i64 a0, .int .i64 a1] w fun e w' => e = .returned (.bool true) ∧ Below w.heap.size w w' := by
  have key : ∀ a : Int, ∃ b : UInt8, IntKind.u8.wrap a = (b.toNat : Int) := fun a => by
    have hx : 0 ≤ IntKind.u8.wrap a ∧ IntKind.u8.wrap a ≤ 255 := by simp [IntKind.wrap, IntKind.signed, IntKind.bits]; omega
    exact ⟨UInt8.ofNat (IntKind.u8.wrap a).toNat, by rw [toNat_of (by omega)]; omega⟩
  obtain ⟨x, hx⟩ := key a0
  obtain ⟨y, hy⟩ := key a1
  refine walk_at a0 a1 x y w hx hy _ _ _ rfl rfl rfl ?_
  rcases Nat.lt_trichotomy (fb x).toNat (fb y).toNat with h | h | h
  · refine .inr (.inl ⟨by simp; omega, by simpa using h, by unfold sgn; rw [if_pos (by omega)]⟩)
  · refine .inl ⟨by simp; omega, by simp; omega, by unfold sgn; rw [if_neg (by omega), if_neg (by omega)]⟩
  · refine .inr (.inr ⟨by simp; omega, by simp; omega, by unfold sgn; rw [if_neg (by omega), if_pos (by omega)]⟩)

theorem own : ownKnob Try.prog.godebug = none := by kernel_rfl

set_option maxRecDepth 100000 in
theorem lifted (os : Os) (started : os.Started) (H : Type) (enc : TypeId × Value → H) :
    ReturnsInHanded {} Try.checked os 6 .any (Rows.relCasesSpec.pre6 enc Try.prog Try.f6 Rows.relCasesRow.domain false) (Rows.relCasesSpec.post enc Try.prog Try.f6 false true false false) := by
  refine returnsInHanded_of_change (C := Try.checked) own started (by kernel_rfl) Try.func6
    (ChangeSpec.witness6 (enc := enc) (C := Try.checked) false ⟨#[], #[.int .i64 0, .int .i64 0], []⟩ 8 (by kernel_rfl) (by kernel_rfl) (by kernel_rfl) (by kernel_rfl)) ?_
  intro W base args ds gs before hval0 hW _ _
  have hval : ∀ (j : Nat) t v, Try.f6.params[j]? = some t → args[j]? = some v → Value.okWide Try.prog W .any base t v := hval0
  have hW' := hW
  obtain ⟨p, q, hA0, hV, rfl, hfz, hnd⟩ := hW
  have hA : DataW.TrodAll enc Try.prog W 0 (fun _ => true) true Try.f6.params.toList args.toList ds p := hA0
  rw [Try.params6] at hA hval
  obtain ⟨v0, vs0, d0, ds0, p0, q0, hargs, rfl, rfl, h0, r0⟩ := trodAll_cons hA
  obtain ⟨v1, vs1, d1, ds1, p1, q1, rfl, rfl, rfl, h1, r1⟩ := trodAll_cons r0
  obtain ⟨rfl, rfl, rfl⟩ := trodAll_nil r1
  obtain rfl : args = #[v0, v1] := by cases args; simp_all
  obtain ⟨rfl, rfl⟩ := trodVars_none hV
  obtain ⟨a0, rfl, rfl, rfl, w0⟩ := open_int Try.underlying3 (hval 0 3 v0 rfl rfl) h0
  obtain ⟨a1, rfl, rfl, rfl, w1⟩ := open_int Try.underlying3 (hval 1 3 v1 rfl rfl) h1
  clear hA0 hval0
  simp only [List.append_nil] at hW'
  refine (walk a0 a1 w0 w1 W).mono fun e W' ⟨he, bel⟩ => ?_
  subst he
  exact ⟨_, rfl, _, _, _, [], [], [], hW', trodAll_mk1 (shut_bool Try.underlying4 _), (trodAll_cons_mk (shut_int Try.underlying3 w0) (trodAll_cons_mk (shut_int Try.underlying3 w1) trodAll_mk0)), rfl, bel.frame _, fun h => by cases h⟩

/-- The statement. -/
theorem proved : Rows.RelCasesSaid :=
  OpenClaim.holds_of_wide 6 Try.f6 rfl rfl rfl rfl rfl rfl rfl ⟨rfl, rfl, rfl, rfl, rfl⟩ rfl rfl rfl rfl rfl (by kernel_rfl) Try.func6 (by kernel_rfl)
    (of_decide_eq_true (by kernel_rfl)) (by unfold Func.isWrapper; first | (rw [if_pos (by decide +kernel)]; kernel_rfl) | (rw [if_neg (by decide +kernel)]; exact ⟨rfl, rfl⟩))
    (fun os started H enc _ => lifted os started H enc)
#print axioms proved

end Go.Proofs.Yteibmkaghikloaa.relCases
